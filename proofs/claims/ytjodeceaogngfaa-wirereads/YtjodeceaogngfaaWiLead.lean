/-
  What leading of package wire does: a contract over plain lists ('WiPlain').
  Conditions: bytes that are looked at lie in memory.
-/
import Derived.Test.YtjodeceaogngfaaWiPut
namespace Go.Proofs.Ytjodeceaogngfaa
open Go.RowKit Wi By
set_option linter.unusedVariables false
set_option linter.unusedSimpArgs false
set_option maxRecDepth 100000

def ld (l : List Nat) : Nat × Nat := match lead l with | none => (0, 0) | some q => q

theorem ld_none {l : List Nat} (h : lead l = none) : ld l = (0, 0) := by unfold ld; rw [h]
theorem ld_some {l : List Nat} {q : Nat × Nat} (h : lead l = some q) : ld l = q := by unfold ld; rw [h]

theorem or_add (N d s : Nat) (h : N < 2 ^ s) : N ||| d * 2 ^ s = N + d * 2 ^ s := by
  have := Nat.two_pow_add_eq_or_of_lt h d
  rw [Nat.or_comm, Nat.mul_comm d, ← this, Nat.add_comm]

/- One digit more, by shifting and by or. -/
theorem digit_or (N d s : Nat) (hN : N < 18446744073709551616) : ∃ N2 : Nat, bits .or .u64 (N : Int) (IntKind.u64.wrap ((d : Int) * 2 ^ s)) = (N2 : Int) ∧ N2 < 18446744073709551616 ∧ (N < 2 ^ s → d * 2 ^ s < 18446744073709551616 → N2 = N + d * 2 ^ s) := by
  have e : IntKind.u64.wrap ((d : Int) * 2 ^ s) = ((d * 2 ^ s % 18446744073709551616 : Nat) : Int) := by
    rw [IntKind.wrap_u64, Int.natCast_emod, Int.natCast_mul, Int.natCast_pow]
    rfl
  refine ⟨N ||| (d * 2 ^ s % 18446744073709551616), ?_, ?_, fun h1 h2 => ?_⟩
  · rw [e]
    exact u64_or_nat N _ hN (Nat.mod_lt _ (by omega))
  · exact Nat.or_lt_two_pow (n := 64) hN (Nat.mod_lt _ (by omega))
  · rw [Nat.mod_eq_of_lt h2]
    exact or_add N d s h1

theorem drop_cons {l : List Nat} {k : Nat} (h : k < l.length) : l.drop k = gl l k :: l.drop (k + 1) := by
  rw [List.drop_eq_getElem_cons h]
  simp [gl, h]

def Lead (l : List Nat) (k N : Nat) : Prop := (k ≤ 9 ∧ leadF (l.drop k) k N = lead l ∧ N < 128 ^ k) ∨ (k = 10 ∧ lead l = none)

theorem pow7 (k : Nat) : 128 ^ k = 2 ^ (7 * k) := by rw [Nat.pow_mul]

theorem lead_more {l : List Nat} {k N N2 : Nat} (h : Lead l k N) (hk : k < l.length) (hk9 : k ≤ 9) (hv : 128 ≤ gl l k) (hv2 : gl l k < 256)
    (hN2 : N < 2 ^ (7 * k) → (gl l k - 128) * 2 ^ (7 * k) < 18446744073709551616 → N2 = N + (gl l k - 128) * 2 ^ (7 * k)) : Lead l (k + 1) N2 := by
  rcases h with ⟨_, h1, h2⟩ | ⟨h1, _⟩
  · rw [drop_cons hk, leadF, if_neg (by omega), if_pos hv] at h1
    by_cases h8 : k ≤ 8
    · left
      have hp : 128 ^ k ≤ 128 ^ 8 := Nat.pow_le_pow_right (by omega) h8
      have hm : (gl l k - 128) * 128 ^ k ≤ 127 * 128 ^ k := Nat.mul_le_mul_right _ (by omega)
      have e := hN2 (by rw [← pow7]; exact h2) (by rw [← pow7]; omega)
      rw [← pow7] at e
      refine ⟨by omega, by rw [e]; exact h1, ?_⟩
      rw [e, Nat.pow_succ]
      omega
    · right
      refine ⟨by omega, ?_⟩
      rw [← h1]
      exact leadF_ten _ _ _ (by omega)
  · omega

theorem lead_bad {l : List Nat} {k N : Nat} (h : Lead l k N) (hk : k < l.length) (hk9 : k ≤ 9) (hv : gl l k < 128) (hb : (0 < k ∧ gl l k = 0) ∨ (k = 9 ∧ 1 < gl l k)) : ld l = (0, 0) := by
  rcases h with ⟨_, h1, h2⟩ | ⟨h1, _⟩
  · rw [drop_cons hk, leadF, if_neg (by omega), if_neg (by omega), if_pos hb] at h1
    exact ld_none h1.symm
  · omega

theorem lead_good {l : List Nat} {k N N2 : Nat} (h : Lead l k N) (hk : k < l.length) (hk9 : k ≤ 9) (hv : gl l k < 128) (hb : ¬ ((0 < k ∧ gl l k = 0) ∨ (k = 9 ∧ 1 < gl l k)))
    (hN2 : N < 2 ^ (7 * k) → gl l k * 2 ^ (7 * k) < 18446744073709551616 → N2 = N + gl l k * 2 ^ (7 * k)) : ld l = (N2, k + 1) := by
  rcases h with ⟨_, h1, h2⟩ | ⟨h1, _⟩
  · rw [drop_cons hk, leadF, if_neg (by omega), if_neg (by omega), if_neg hb] at h1
    have e := hN2 (by rw [← pow7]; exact h2) (by
      rw [← pow7]
      by_cases h9 : k = 9
      · subst h9
        have : gl l 9 ≤ 1 := by omega
        omega
      · have hp : 128 ^ k ≤ 128 ^ 8 := Nat.pow_le_pow_right (by omega) (by omega)
        have hm : gl l k * 128 ^ k ≤ 127 * 128 ^ k := Nat.mul_le_mul_right _ (by omega)
        omega)
    rw [← pow7] at e
    rw [ld_some h1.symm, e]
  · omega

theorem lead_over {l : List Nat} {k N : Nat} (h : Lead l k N) (hk : l.length ≤ k ∨ k = 10) : ld l = (0, 0) := by
  rcases h with ⟨h0, h1, h2⟩ | ⟨h1, h2⟩
  · rw [List.drop_eq_nil_of_le (by omega)] at h1
    exact ld_none h1.symm
  · exact ld_none h2

set_option maxHeartbeats 1000000 in
set_option maxRecDepth 100000 in
theorem leading_short (b o n c : Nat) (l : List Nat) (w : World) (hl : Sl w (some ⟨b, o, none⟩) n c l) (hn : n ≤ 140737488355328) (hle : n ≤ 10) :
    Calls Try.prog 39 #[.slice (some ⟨b, o, none⟩) n c] w fun e w' => e = .returned (.tuple #[.int .u64 ((ld l).1 : Int), .int .i64 ((ld l).2 : Int)]) ∧ w' = w := by
  have hcut : ∀ v : World, (Instr.slice 22 (.slice (some ⟨b, o, none⟩) n c) none (some (.int .i64 (n : Int))) none).run Try.prog v = .ok (.slice (some ⟨b, o, none⟩) n c) v := fun v => cut_head (some ⟨b, o, none⟩) n c n v (by have := hl.le; omega)
  have Hl : Hid (Sl w (some ⟨b, o, none⟩) n c l) := hl
  have hlen := hl.len
  clear hl
  go_enter Try.func39, Try.ntmps39
  go_wp2_with fail
  go_loop [4, 13] (fun a i => ∃ k N : Nat, k ≤ n ∧ N < 18446744073709551616 ∧ a = .int .u64 N ∧ i = .int .i64 k ∧ Hid (Lead l k N)) (fun _ i => n - (intOf i).toNat)
  case atStart => exact ⟨0, 0, by omega, by omega, rfl, rfl, .inl ⟨by omega, rfl, by simp⟩⟩
  case round =>
    obtain ⟨k, N, hk, hN, rfl, rfl, HR⟩ := hrel
    clear hcut
    by_cases hlt : k < n
    · have hx1 : w.cell? ⟨b, o + k, none⟩ = some (.int .u8 (gl l k : Int)) := by
        rcases Hl.out.row with h0 | ⟨b', o', ha, _, hc⟩
        · omega
        · cases ha
          exact hc k (by omega)
      have hv := gl_lt Hl.out.lt k
      have hkl : k < l.length := by omega
      obtain ⟨s, hs⟩ : ∃ s : Nat, s = 7 * k := ⟨_, rfl⟩
      have hs7 : (7 : Int) * (k : Int) = (s : Int) := by omega
      have hs64 : s < 64 := by omega
      by_cases h128 : 128 ≤ gl l k
      · obtain ⟨u, hu⟩ : ∃ u : Nat, u = gl l k - 128 := ⟨_, rfl⟩
        have hu1 : (gl l k : Int) - 128 = (u : Int) := by omega
        have hu2 : u < 128 := by omega
        obtain ⟨N2, hor, hN2, he⟩ := digit_or N u s hN
        have HS : Hid (Lead l (k + 1) N2) := lead_more HR.out hkl (by omega) h128 hv (by rw [← hs, ← hu]; exact he)
        clear he HR Hl hu hs hkl hlen
        generalize gl l k = v at *
        go_wp2_with fail
        go_round
        case rel => exact ⟨k + 1, N2, by omega, hN2, rfl, by go_num, HS⟩
        case measure => simp [intOf]; omega
      · by_cases hbad : (0 < k ∧ gl l k = 0) ∨ (k = 9 ∧ 1 < gl l k)
        · have HD : Hid (ld l = (0, 0)) := lead_bad HR.out hkl (by omega) (by omega) hbad
          clear HR Hl hs hkl hlen
          rcases hbad with ⟨hk0, hv0⟩ | ⟨hk9, hv1⟩
          · rw [hv0] at hx1
            clear h128 hv hv0
            go_wp2_with fail
            go_ret2
            exact ⟨by rw [HD.out]; rfl, rfl⟩
          · generalize gl l k = v at *
            subst hk9
            go_wp2_with fail
            go_ret2
            exact ⟨by rw [HD.out]; rfl, rfl⟩
        · obtain ⟨N2, hor, hN2, he⟩ := digit_or N (gl l k) s hN
          have HD : Hid (ld l = (N2, k + 1)) := lead_good HR.out hkl (by omega) (by omega) hbad (N2 := N2) (by rw [← hs]; exact he)
          obtain ⟨k1, hk1⟩ : ∃ k1 : Nat, k1 = k + 1 := ⟨_, rfl⟩
          have hk1i : (k : Int) + 1 = (k1 : Int) := by omega
          rw [← hk1] at HD
          clear he HR Hl hs hkl hlen hk1
          generalize gl l k = v at *
          by_cases hk0 : k = 0
          · have hz : (k : Int) < 1 := by omega
            have hz9 : ((k : Int) == 9) = false := by simp; omega
            clear hbad hk0
            go_wp2_with fail
            go_ret2
            exact ⟨by rw [HD.out]; rfl, rfl⟩
          · have hv0 : 0 < v := by omega
            have hk0' : 0 < k := by omega
            by_cases hk9 : k = 9
            · have hv1 : v < 2 := by omega
              have hvb : ((v : Int) == 0) = false := by simp; omega
              have hvc : decide ((1 : Int) < (v : Int)) = false := by simp; omega
              have hz9 : ((k : Int) == 9) = true := by simp; omega
              clear hbad hk0 hk9
              go_wp2_with fail
              go_ret2
              exact ⟨by rw [HD.out]; rfl, rfl⟩
            · have hz9 : ((k : Int) == 9) = false := by simp; omega
              clear hbad hk0
              go_wp2_with fail
              go_ret2
              exact ⟨by rw [HD.out]; rfl, rfl⟩
    · have hk2 : k = n := by omega
      subst hk2
      have HD : Hid (ld l = (0, 0)) := lead_over HR.out (by omega)
      clear HR Hl hlen
      go_wp2_with fail
      go_ret2
      exact ⟨by rw [HD.out]; rfl, rfl⟩

set_option maxHeartbeats 1000000 in
set_option maxRecDepth 100000 in
theorem leading_long (b o n c : Nat) (l : List Nat) (w : World) (hl : Sl w (some ⟨b, o, none⟩) n c l) (hn : n ≤ 140737488355328) (hle : 10 < n) :
    Calls Try.prog 39 #[.slice (some ⟨b, o, none⟩) n c] w fun e w' => e = .returned (.tuple #[.int .u64 ((ld l).1 : Int), .int .i64 ((ld l).2 : Int)]) ∧ w' = w := by
  have hcut : ∀ v : World, (Instr.slice 22 (.slice (some ⟨b, o, none⟩) n c) none (some (.int .i64 (10 : Int))) none).run Try.prog v = .ok (.slice (some ⟨b, o, none⟩) 10 c) v := fun v => cut_head (some ⟨b, o, none⟩) n c 10 v (by have := hl.le; omega)
  have Hl : Hid (Sl w (some ⟨b, o, none⟩) n c l) := hl
  have hlen := hl.len
  clear hl
  go_enter Try.func39, Try.ntmps39
  go_wp2_with fail
  go_loop [4, 13] (fun a i => ∃ k N : Nat, k ≤ 10 ∧ N < 18446744073709551616 ∧ a = .int .u64 N ∧ i = .int .i64 k ∧ Hid (Lead l k N)) (fun _ i => 10 - (intOf i).toNat)
  case atStart => exact ⟨0, 0, by omega, by omega, rfl, rfl, .inl ⟨by omega, rfl, by simp⟩⟩
  case round =>
    obtain ⟨k, N, hk, hN, rfl, rfl, HR⟩ := hrel
    clear hcut
    by_cases hlt : k < 10
    · have hx1 : w.cell? ⟨b, o + k, none⟩ = some (.int .u8 (gl l k : Int)) := by
        rcases Hl.out.row with h0 | ⟨b', o', ha, _, hc⟩
        · omega
        · cases ha
          exact hc k (by omega)
      have hv := gl_lt Hl.out.lt k
      have hkl : k < l.length := by omega
      obtain ⟨s, hs⟩ : ∃ s : Nat, s = 7 * k := ⟨_, rfl⟩
      have hs7 : (7 : Int) * (k : Int) = (s : Int) := by omega
      have hs64 : s < 64 := by omega
      by_cases h128 : 128 ≤ gl l k
      · obtain ⟨u, hu⟩ : ∃ u : Nat, u = gl l k - 128 := ⟨_, rfl⟩
        have hu1 : (gl l k : Int) - 128 = (u : Int) := by omega
        have hu2 : u < 128 := by omega
        obtain ⟨N2, hor, hN2, he⟩ := digit_or N u s hN
        have HS : Hid (Lead l (k + 1) N2) := lead_more HR.out hkl (by omega) h128 hv (by rw [← hs, ← hu]; exact he)
        clear he HR Hl hu hs hkl hlen
        generalize gl l k = v at *
        go_wp2_with fail
        go_round
        case rel => exact ⟨k + 1, N2, by omega, hN2, rfl, by go_num, HS⟩
        case measure => simp [intOf]; omega
      · by_cases hbad : (0 < k ∧ gl l k = 0) ∨ (k = 9 ∧ 1 < gl l k)
        · have HD : Hid (ld l = (0, 0)) := lead_bad HR.out hkl (by omega) (by omega) hbad
          clear HR Hl hs hkl hlen
          rcases hbad with ⟨hk0, hv0⟩ | ⟨hk9, hv1⟩
          · rw [hv0] at hx1
            clear h128 hv hv0
            go_wp2_with fail
            go_ret2
            exact ⟨by rw [HD.out]; rfl, rfl⟩
          · generalize gl l k = v at *
            subst hk9
            go_wp2_with fail
            go_ret2
            exact ⟨by rw [HD.out]; rfl, rfl⟩
        · obtain ⟨N2, hor, hN2, he⟩ := digit_or N (gl l k) s hN
          have HD : Hid (ld l = (N2, k + 1)) := lead_good HR.out hkl (by omega) (by omega) hbad (N2 := N2) (by rw [← hs]; exact he)
          obtain ⟨k1, hk1⟩ : ∃ k1 : Nat, k1 = k + 1 := ⟨_, rfl⟩
          have hk1i : (k : Int) + 1 = (k1 : Int) := by omega
          rw [← hk1] at HD
          clear he HR Hl hs hkl hlen hk1
          generalize gl l k = v at *
          by_cases hk0 : k = 0
          · have hz : (k : Int) < 1 := by omega
            have hz9 : ((k : Int) == 9) = false := by simp; omega
            clear hbad hk0
            go_wp2_with fail
            go_ret2
            exact ⟨by rw [HD.out]; rfl, rfl⟩
          · have hv0 : 0 < v := by omega
            have hk0' : 0 < k := by omega
            by_cases hk9 : k = 9
            · have hv1 : v < 2 := by omega
              have hvb : ((v : Int) == 0) = false := by simp; omega
              have hvc : decide ((1 : Int) < (v : Int)) = false := by simp; omega
              have hz9 : ((k : Int) == 9) = true := by simp; omega
              clear hbad hk0 hk9
              go_wp2_with fail
              go_ret2
              exact ⟨by rw [HD.out]; rfl, rfl⟩
            · have hz9 : ((k : Int) == 9) = false := by simp; omega
              clear hbad hk0
              go_wp2_with fail
              go_ret2
              exact ⟨by rw [HD.out]; rfl, rfl⟩
    · have hk2 : k = 10 := by omega
      subst hk2
      have HD : Hid (ld l = (0, 0)) := lead_over HR.out (by omega)
      clear HR Hl hlen
      go_wp2_with fail
      go_ret2
      exact ⟨by rw [HD.out]; rfl, rfl⟩

theorem leading_none (x : Option Addr) (c : Nat) (w : World) :
    Calls Try.prog 39 #[.slice x 0 c] w fun e w' => e = .returned (.tuple #[.int .u64 0, .int .i64 0]) ∧ w' = w := by
  have hcut : ∀ v : World, (Instr.slice 22 (.slice x 0 c) none (some (.int .i64 0)) none).run Try.prog v = .ok (.slice x 0 c) v := fun v => cut_head x 0 c 0 v (by omega)
  go_enter Try.func39, Try.ntmps39
  go_wp2_with fail
  refine wp_loop_rounds 1 ?_
  rw [rounds_succ]
  go_wp2_with fail
  go_ret2
  exact ⟨rfl, rfl⟩

theorem leading_any (x : Option Addr) (n c : Nat) (l : List Nat) (w : World) (hl : Sl w x n c l) (hn : n ≤ 140737488355328) :
    Calls Try.prog 39 #[.slice x n c] w fun e w' => e = .returned (.tuple #[.int .u64 ((ld l).1 : Int), .int .i64 ((ld l).2 : Int)]) ∧ w' = w := by
  by_cases h0 : n = 0
  · subst h0
    have : l = [] := List.eq_nil_of_length_eq_zero hl.len
    subst this
    exact leading_none x c w
  · rcases hl.row with h | ⟨b, o, rfl, _, _⟩
    · exact absurd h h0
    · by_cases h10 : n ≤ 10
      · exact leading_short b o n c l w hl hn h10
      · exact leading_long b o n c l w hl hn (by omega)

end Go.Proofs.Ytjodeceaogngfaa
