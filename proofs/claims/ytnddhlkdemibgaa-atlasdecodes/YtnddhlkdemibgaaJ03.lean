/-
  6 texts of this proof, one behind the other: WiLead, WiRead, WiTake, WiRef, WiRefUv, WiRefTake.
-/
import Derived.Test.YtnddhlkdemibgaaJ02
import Derived.Deep.QuietTactic
import Derived.BigQuiet
import Derived.Deep.RegionHeld3
/-
  What leading of package wire does: a contract over plain lists ('WiPlain').
  Conditions: bytes that are looked at lie in memory.
-/
namespace Go.Proofs.Ytnddhlkdemibgaa
open Go.RowKit Wi By
set_option linter.unusedVariables false
set_option linter.unusedSimpArgs false
set_option maxRecDepth 100000

def ld (l : List Nat) : Nat × Nat := match lead l with | none => (0, 0) | some q => q

theorem ld_none {l : List Nat} (h : lead l = none) : ld l = (0, 0) := by unfold ld; rw [h]
theorem ld_some {l : List Nat} {q : Nat × Nat} (h : lead l = some q) : ld l = q := by unfold ld; rw [h]

theorem or_add (N d s : Nat) (h : N < 2 ^ s) : N ||| d * 2 ^ s = N + d * 2 ^ s := by
  have := Nat.two_pow_add_eq_or_of_lt h d
  rw [Nat.or_comm, Nat.mul_comm d, ← this, Nat.add_comm]

/- One digit more, by shifting and by or. -/
theorem digit_or (N d s : Nat) (hN : N < 18446744073709551616) : ∃ N2 : Nat, bits .or .u64 (N : Int) (IntKind.u64.wrap ((d : Int) * 2 ^ s)) = (N2 : Int) ∧ N2 < 18446744073709551616 ∧ (N < 2 ^ s → d * 2 ^ s < 18446744073709551616 → N2 = N + d * 2 ^ s) := by
  have e : IntKind.u64.wrap ((d : Int) * 2 ^ s) = ((d * 2 ^ s % 18446744073709551616 : Nat) : Int) := by
    rw [IntKind.wrap_u64, Int.natCast_emod, Int.natCast_mul, Int.natCast_pow]
    rfl
  refine ⟨N ||| (d * 2 ^ s % 18446744073709551616), ?_, ?_, fun h1 h2 => ?_⟩
  · rw [e]
    exact u64_or_nat N _ hN (Nat.mod_lt _ (by omega))
  · exact Nat.or_lt_two_pow (n := 64) hN (Nat.mod_lt _ (by omega))
  · rw [Nat.mod_eq_of_lt h2]
    exact or_add N d s h1

theorem drop_cons {l : List Nat} {k : Nat} (h : k < l.length) : l.drop k = gl l k :: l.drop (k + 1) := by
  rw [List.drop_eq_getElem_cons h]
  simp [gl, h]

def Lead (l : List Nat) (k N : Nat) : Prop := (k ≤ 9 ∧ leadF (l.drop k) k N = lead l ∧ N < 128 ^ k) ∨ (k = 10 ∧ lead l = none)

theorem pow7 (k : Nat) : 128 ^ k = 2 ^ (7 * k) := by rw [Nat.pow_mul]

theorem lead_more {l : List Nat} {k N N2 : Nat} (h : Lead l k N) (hk : k < l.length) (hk9 : k ≤ 9) (hv : 128 ≤ gl l k) (hv2 : gl l k < 256)
    (hN2 : N < 2 ^ (7 * k) → (gl l k - 128) * 2 ^ (7 * k) < 18446744073709551616 → N2 = N + (gl l k - 128) * 2 ^ (7 * k)) : Lead l (k + 1) N2 := by
  rcases h with ⟨_, h1, h2⟩ | ⟨h1, _⟩
  · rw [drop_cons hk, leadF, if_neg (by omega), if_pos hv] at h1
    by_cases h8 : k ≤ 8
    · left
      have hp : 128 ^ k ≤ 128 ^ 8 := Nat.pow_le_pow_right (by omega) h8
      have hm : (gl l k - 128) * 128 ^ k ≤ 127 * 128 ^ k := Nat.mul_le_mul_right _ (by omega)
      have e := hN2 (by rw [← pow7]; exact h2) (by rw [← pow7]; omega)
      rw [← pow7] at e
      refine ⟨by omega, by rw [e]; exact h1, ?_⟩
      rw [e, Nat.pow_succ]
      omega
    · right
      refine ⟨by omega, ?_⟩
      rw [← h1]
      exact leadF_ten _ _ _ (by omega)
  · omega

theorem lead_bad {l : List Nat} {k N : Nat} (h : Lead l k N) (hk : k < l.length) (hk9 : k ≤ 9) (hv : gl l k < 128) (hb : (0 < k ∧ gl l k = 0) ∨ (k = 9 ∧ 1 < gl l k)) : ld l = (0, 0) := by
  rcases h with ⟨_, h1, h2⟩ | ⟨h1, _⟩
  · rw [drop_cons hk, leadF, if_neg (by omega), if_neg (by omega), if_pos hb] at h1
    exact ld_none h1.symm
  · omega

theorem lead_good {l : List Nat} {k N N2 : Nat} (h : Lead l k N) (hk : k < l.length) (hk9 : k ≤ 9) (hv : gl l k < 128) (hb : ¬ ((0 < k ∧ gl l k = 0) ∨ (k = 9 ∧ 1 < gl l k)))
    (hN2 : N < 2 ^ (7 * k) → gl l k * 2 ^ (7 * k) < 18446744073709551616 → N2 = N + gl l k * 2 ^ (7 * k)) : ld l = (N2, k + 1) := by
  rcases h with ⟨_, h1, h2⟩ | ⟨h1, _⟩
  · rw [drop_cons hk, leadF, if_neg (by omega), if_neg (by omega), if_neg hb] at h1
    have e := hN2 (by rw [← pow7]; exact h2) (by
      rw [← pow7]
      by_cases h9 : k = 9
      · subst h9
        have : gl l 9 ≤ 1 := by omega
        omega
      · have hp : 128 ^ k ≤ 128 ^ 8 := Nat.pow_le_pow_right (by omega) (by omega)
        have hm : gl l k * 128 ^ k ≤ 127 * 128 ^ k := Nat.mul_le_mul_right _ (by omega)
        omega)
    rw [← pow7] at e
    rw [ld_some h1.symm, e]
  · omega

theorem lead_over {l : List Nat} {k N : Nat} (h : Lead l k N) (hk : l.length ≤ k ∨ k = 10) : ld l = (0, 0) := by
  rcases h with ⟨h0, h1, h2⟩ | ⟨h1, h2⟩
  · rw [List.drop_eq_nil_of_le (by omega)] at h1
    exact ld_none h1.symm
  · exact ld_none h2

set_option maxHeartbeats 1000000 in
set_option maxRecDepth 100000 in
theorem leading_short (b o n c : Nat) (l : List Nat) (w : World) (hl : Sl w (some ⟨b, o, none⟩) n c l) (hn : n ≤ 140737488355328) (hle : n ≤ 10) :
    Calls Try.prog 93 #[.slice (some ⟨b, o, none⟩) n c] w fun e w' => e = .returned (.tuple #[.int .u64 ((ld l).1 : Int), .int .i64 ((ld l).2 : Int)]) ∧ w' = w := by
  have hcut : ∀ v : World, (Instr.slice 52 (.slice (some ⟨b, o, none⟩) n c) none (some (.int .i64 (n : Int))) none).run Try.prog v = .ok (.slice (some ⟨b, o, none⟩) n c) v := fun v => cut_head (some ⟨b, o, none⟩) n c n v (by have := hl.le; omega)
  have Hl : Hid (Sl w (some ⟨b, o, none⟩) n c l) := hl
  have hlen := hl.len
  clear hl
  go_enter Try.func93, Try.ntmps93
  go_wp2_with fail
  go_loop [4, 13] (fun a i => ∃ k N : Nat, k ≤ n ∧ N < 18446744073709551616 ∧ a = .int .u64 N ∧ i = .int .i64 k ∧ Hid (Lead l k N)) (fun _ i => n - (intOf i).toNat)
  case atStart => exact ⟨0, 0, by omega, by omega, rfl, rfl, .inl ⟨by omega, rfl, by simp⟩⟩
  case round =>
    obtain ⟨k, N, hk, hN, rfl, rfl, HR⟩ := hrel
    clear hcut
    by_cases hlt : k < n
    · have hx1 : w.cell? ⟨b, o + k, none⟩ = some (.int .u8 (gl l k : Int)) := by
        rcases Hl.out.row with h0 | ⟨b', o', ha, _, hc⟩
        · omega
        · cases ha
          exact hc k (by omega)
      have hv := gl_lt Hl.out.lt k
      have hkl : k < l.length := by omega
      obtain ⟨s, hs⟩ : ∃ s : Nat, s = 7 * k := ⟨_, rfl⟩
      have hs7 : (7 : Int) * (k : Int) = (s : Int) := by omega
      have hs64 : s < 64 := by omega
      by_cases h128 : 128 ≤ gl l k
      · obtain ⟨u, hu⟩ : ∃ u : Nat, u = gl l k - 128 := ⟨_, rfl⟩
        have hu1 : (gl l k : Int) - 128 = (u : Int) := by omega
        have hu2 : u < 128 := by omega
        obtain ⟨N2, hor, hN2, he⟩ := digit_or N u s hN
        have HS : Hid (Lead l (k + 1) N2) := lead_more HR.out hkl (by omega) h128 hv (by rw [← hs, ← hu]; exact he)
        clear he HR Hl hu hs hkl hlen
        generalize gl l k = v at *
        go_wp2_with fail
        go_round
        case rel => exact ⟨k + 1, N2, by omega, hN2, rfl, by go_num, HS⟩
        case measure => simp [intOf]; omega
      · by_cases hbad : (0 < k ∧ gl l k = 0) ∨ (k = 9 ∧ 1 < gl l k)
        · have HD : Hid (ld l = (0, 0)) := lead_bad HR.out hkl (by omega) (by omega) hbad
          clear HR Hl hs hkl hlen
          rcases hbad with ⟨hk0, hv0⟩ | ⟨hk9, hv1⟩
          · rw [hv0] at hx1
            clear h128 hv hv0
            go_wp2_with fail
            go_ret2
            exact ⟨by rw [HD.out]; rfl, rfl⟩
          · generalize gl l k = v at *
            subst hk9
            go_wp2_with fail
            go_ret2
            exact ⟨by rw [HD.out]; rfl, rfl⟩
        · obtain ⟨N2, hor, hN2, he⟩ := digit_or N (gl l k) s hN
          have HD : Hid (ld l = (N2, k + 1)) := lead_good HR.out hkl (by omega) (by omega) hbad (N2 := N2) (by rw [← hs]; exact he)
          obtain ⟨k1, hk1⟩ : ∃ k1 : Nat, k1 = k + 1 := ⟨_, rfl⟩
          have hk1i : (k : Int) + 1 = (k1 : Int) := by omega
          rw [← hk1] at HD
          clear he HR Hl hs hkl hlen hk1
          generalize gl l k = v at *
          by_cases hk0 : k = 0
          · have hz : (k : Int) < 1 := by omega
            have hz9 : ((k : Int) == 9) = false := by simp; omega
            clear hbad hk0
            go_wp2_with fail
            go_ret2
            exact ⟨by rw [HD.out]; rfl, rfl⟩
          · have hv0 : 0 < v := by omega
            have hk0' : 0 < k := by omega
            by_cases hk9 : k = 9
            · have hv1 : v < 2 := by omega
              have hvb : ((v : Int) == 0) = false := by simp; omega
              have hvc : decide ((1 : Int) < (v : Int)) = false := by simp; omega
              have hz9 : ((k : Int) == 9) = true := by simp; omega
              clear hbad hk0 hk9
              go_wp2_with fail
              go_ret2
              exact ⟨by rw [HD.out]; rfl, rfl⟩
            · have hz9 : ((k : Int) == 9) = false := by simp; omega
              clear hbad hk0
              go_wp2_with fail
              go_ret2
              exact ⟨by rw [HD.out]; rfl, rfl⟩
    · have hk2 : k = n := by omega
      subst hk2
      have HD : Hid (ld l = (0, 0)) := lead_over HR.out (by omega)
      clear HR Hl hlen
      go_wp2_with fail
      go_ret2
      exact ⟨by rw [HD.out]; rfl, rfl⟩

set_option maxHeartbeats 1000000 in
set_option maxRecDepth 100000 in
theorem leading_long (b o n c : Nat) (l : List Nat) (w : World) (hl : Sl w (some ⟨b, o, none⟩) n c l) (hn : n ≤ 140737488355328) (hle : 10 < n) :
    Calls Try.prog 93 #[.slice (some ⟨b, o, none⟩) n c] w fun e w' => e = .returned (.tuple #[.int .u64 ((ld l).1 : Int), .int .i64 ((ld l).2 : Int)]) ∧ w' = w := by
  have hcut : ∀ v : World, (Instr.slice 52 (.slice (some ⟨b, o, none⟩) n c) none (some (.int .i64 (10 : Int))) none).run Try.prog v = .ok (.slice (some ⟨b, o, none⟩) 10 c) v := fun v => cut_head (some ⟨b, o, none⟩) n c 10 v (by have := hl.le; omega)
  have Hl : Hid (Sl w (some ⟨b, o, none⟩) n c l) := hl
  have hlen := hl.len
  clear hl
  go_enter Try.func93, Try.ntmps93
  go_wp2_with fail
  go_loop [4, 13] (fun a i => ∃ k N : Nat, k ≤ 10 ∧ N < 18446744073709551616 ∧ a = .int .u64 N ∧ i = .int .i64 k ∧ Hid (Lead l k N)) (fun _ i => 10 - (intOf i).toNat)
  case atStart => exact ⟨0, 0, by omega, by omega, rfl, rfl, .inl ⟨by omega, rfl, by simp⟩⟩
  case round =>
    obtain ⟨k, N, hk, hN, rfl, rfl, HR⟩ := hrel
    clear hcut
    by_cases hlt : k < 10
    · have hx1 : w.cell? ⟨b, o + k, none⟩ = some (.int .u8 (gl l k : Int)) := by
        rcases Hl.out.row with h0 | ⟨b', o', ha, _, hc⟩
        · omega
        · cases ha
          exact hc k (by omega)
      have hv := gl_lt Hl.out.lt k
      have hkl : k < l.length := by omega
      obtain ⟨s, hs⟩ : ∃ s : Nat, s = 7 * k := ⟨_, rfl⟩
      have hs7 : (7 : Int) * (k : Int) = (s : Int) := by omega
      have hs64 : s < 64 := by omega
      by_cases h128 : 128 ≤ gl l k
      · obtain ⟨u, hu⟩ : ∃ u : Nat, u = gl l k - 128 := ⟨_, rfl⟩
        have hu1 : (gl l k : Int) - 128 = (u : Int) := by omega
        have hu2 : u < 128 := by omega
        obtain ⟨N2, hor, hN2, he⟩ := digit_or N u s hN
        have HS : Hid (Lead l (k + 1) N2) := lead_more HR.out hkl (by omega) h128 hv (by rw [← hs, ← hu]; exact he)
        clear he HR Hl hu hs hkl hlen
        generalize gl l k = v at *
        go_wp2_with fail
        go_round
        case rel => exact ⟨k + 1, N2, by omega, hN2, rfl, by go_num, HS⟩
        case measure => simp [intOf]; omega
      · by_cases hbad : (0 < k ∧ gl l k = 0) ∨ (k = 9 ∧ 1 < gl l k)
        · have HD : Hid (ld l = (0, 0)) := lead_bad HR.out hkl (by omega) (by omega) hbad
          clear HR Hl hs hkl hlen
          rcases hbad with ⟨hk0, hv0⟩ | ⟨hk9, hv1⟩
          · rw [hv0] at hx1
            clear h128 hv hv0
            go_wp2_with fail
            go_ret2
            exact ⟨by rw [HD.out]; rfl, rfl⟩
          · generalize gl l k = v at *
            subst hk9
            go_wp2_with fail
            go_ret2
            exact ⟨by rw [HD.out]; rfl, rfl⟩
        · obtain ⟨N2, hor, hN2, he⟩ := digit_or N (gl l k) s hN
          have HD : Hid (ld l = (N2, k + 1)) := lead_good HR.out hkl (by omega) (by omega) hbad (N2 := N2) (by rw [← hs]; exact he)
          obtain ⟨k1, hk1⟩ : ∃ k1 : Nat, k1 = k + 1 := ⟨_, rfl⟩
          have hk1i : (k : Int) + 1 = (k1 : Int) := by omega
          rw [← hk1] at HD
          clear he HR Hl hs hkl hlen hk1
          generalize gl l k = v at *
          by_cases hk0 : k = 0
          · have hz : (k : Int) < 1 := by omega
            have hz9 : ((k : Int) == 9) = false := by simp; omega
            clear hbad hk0
            go_wp2_with fail
            go_ret2
            exact ⟨by rw [HD.out]; rfl, rfl⟩
          · have hv0 : 0 < v := by omega
            have hk0' : 0 < k := by omega
            by_cases hk9 : k = 9
            · have hv1 : v < 2 := by omega
              have hvb : ((v : Int) == 0) = false := by simp; omega
              have hvc : decide ((1 : Int) < (v : Int)) = false := by simp; omega
              have hz9 : ((k : Int) == 9) = true := by simp; omega
              clear hbad hk0 hk9
              go_wp2_with fail
              go_ret2
              exact ⟨by rw [HD.out]; rfl, rfl⟩
            · have hz9 : ((k : Int) == 9) = false := by simp; omega
              clear hbad hk0
              go_wp2_with fail
              go_ret2
              exact ⟨by rw [HD.out]; rfl, rfl⟩
    · have hk2 : k = 10 := by omega
      subst hk2
      have HD : Hid (ld l = (0, 0)) := lead_over HR.out (by omega)
      clear HR Hl hlen
      go_wp2_with fail
      go_ret2
      exact ⟨by rw [HD.out]; rfl, rfl⟩

theorem leading_none (x : Option Addr) (c : Nat) (w : World) :
    Calls Try.prog 93 #[.slice x 0 c] w fun e w' => e = .returned (.tuple #[.int .u64 0, .int .i64 0]) ∧ w' = w := by
  have hcut : ∀ v : World, (Instr.slice 52 (.slice x 0 c) none (some (.int .i64 0)) none).run Try.prog v = .ok (.slice x 0 c) v := fun v => cut_head x 0 c 0 v (by omega)
  go_enter Try.func93, Try.ntmps93
  go_wp2_with fail
  refine wp_loop_rounds 1 ?_
  rw [rounds_succ]
  go_wp2_with fail
  go_ret2
  exact ⟨rfl, rfl⟩

theorem leading_any (x : Option Addr) (n c : Nat) (l : List Nat) (w : World) (hl : Sl w x n c l) (hn : n ≤ 140737488355328) :
    Calls Try.prog 93 #[.slice x n c] w fun e w' => e = .returned (.tuple #[.int .u64 ((ld l).1 : Int), .int .i64 ((ld l).2 : Int)]) ∧ w' = w := by
  by_cases h0 : n = 0
  · subst h0
    have : l = [] := List.eq_nil_of_length_eq_zero hl.len
    subst this
    exact leading_none x c w
  · rcases hl.row with h | ⟨b, o, rfl, _, _⟩
    · exact absurd h h0
    · by_cases h10 : n ≤ 10
      · exact leading_short b o n c l w hl hn h10
      · exact leading_long b o n c l w hl hn (by omega)

end Go.Proofs.Ytnddhlkdemibgaa

/-
  What Read and the reader's methods of package wire do: contracts over plain lists ('WiPlain').
  Conditions: bytes that are looked at lie in memory.
-/
namespace Go.Proofs.Ytnddhlkdemibgaa
open Go.RowKit Wi By
set_option linter.unusedVariables false
set_option linter.unusedSimpArgs false
set_option maxRecDepth 100000

/- A list that is a part of another one: in the same block. -/
def From (x x' : Option Addr) : Prop := ∀ a', x' = some a' → ∃ a, x = some a ∧ a.block = a'.block

theorem From.refl (x : Option Addr) : From x x := fun a h => ⟨a, h, rfl⟩
theorem From.trans {x y z : Option Addr} (h : From x y) (k : From y z) : From x z := fun a ha => by
  obtain ⟨b, hb, e⟩ := k a ha
  obtain ⟨c, hc, e2⟩ := h b hb
  exact ⟨c, hc, e2.trans e⟩
theorem From.cut (x : Option Addr) (c k : Nat) : From x (cutTo x c k) := fun a ha => cutTo_block ha
theorem From.ap {x y : Option Addr} {p : Nat} (h : From x y) (hx : ∀ a, x = some a → a.block ≠ p) : ∀ a, y = some a → a.block ≠ p := fun a ha => by
  obtain ⟨b, hb, e⟩ := h a ha
  rw [← e]
  exact hx b hb

def PGo (w w' : World) (p : Nat) (x : Option Addr) (l' : List Nat) (e' : Nat) : Prop := Turn p w w' ∧ ∃ x' n' c', PRd w' p x' n' c' l' e' ∧ From x x'

/- bytes.Clone, in new memory. -/
theorem clone_sl (x : Option Addr) (n c : Nat) (l : List Nat) (w : World) (hl : Sl w x n c l) (hn : n ≤ 140737488355328) :
    Calls Try.prog 71 #[.slice x n c] w fun e w' => ∃ y cy, e = .returned (.slice y n cy) ∧ Below w.heap.size w w' ∧ Sl w' y n cy l ∧ ∀ a, y = some a → w.heap.size ≤ a.block ∧ a.block < w'.heap.size := by
  cases x with
  | none =>
    obtain ⟨rfl, rfl⟩ := hl.nil' rfl
    have h0 : l = [] := List.eq_nil_of_length_eq_zero hl.len
    subst h0
    exact (clone_nil w).mono fun e w' h => ⟨none, 0, h.1, by rw [h.2]; exact Below.refl _ _, Sl.empty _, fun a ha => by cases ha⟩
  | some ad =>
    obtain ⟨g, cy, w', hrun, h1, h0, h2, h3, h4, h5⟩ := bytes_copy w (some ad) n c (gl l) hl.row (fun h => by cases h) hn
    have hcy : n ≤ cy := by
      rcases h0.2 with ⟨h, _⟩ | ⟨g', c', cur, h, _, _, hc, _⟩
      · cases h
      · injection h with _ _ h; rw [h]; exact hc
    have H1 : Hid (Below w.heap.size w w' ∧ Sl w' (some ⟨g, 0, none⟩) n cy l) := ⟨h1, hl.len, hcy, (fun h => by cases h), h5, hl.lt⟩
    have he : ∀ w : World, (binOp .eql 52 (.slice (some ad) n c) (.slice none 0 0)).run Try.prog w = .ok (.bool false) w := fun _ => by kernel_rfl
    clear h1 h0 h4 h5 hl hcy
    go_enter Try.func71, Try.ntmps71
    go_wp2_with (at_builtin; refine wpList_append_run rfl _ _ 52 rfl _ _ rfl rfl hrun ?_; clear hrun)
    go_ret
    exact ⟨some ⟨g, 0, none⟩, cy, rfl, H1.out.1, H1.out.2, fun a ha => by cases ha; exact ⟨h2, h3⟩⟩

/- Read(b). -/
theorem prd_new (w : World) (y : Option Addr) (n cy : Nat) (l : List Nat) (hy : Sl w y n cy l) (ha : ∀ a, y = some a → a.block < w.heap.size) (hn : n ≤ 140737488355328) :
    PRd (w.alloc (.cells #[.slice y n cy, .int .i64 0] 100)) w.heap.size y n cy l 0 :=
  ⟨by simp, by simp, fun j => frozen_new _ _ _ j, hy.below ((Below.refl _ _).alloc (Nat.le_refl _) _), fun a h => by have := ha a h; omega, hn⟩

theorem read_any (x : Option Addr) (n c : Nat) (l : List Nat) (w : World) (hl : Sl w x n c l) (hn : n ≤ 140737488355328) :
    Calls Try.prog 47 #[.slice x n c] w fun e w' => ∃ p y cy, e = .returned (.pointer (some ⟨p, 0, none⟩)) ∧ w.heap.size ≤ p ∧ Below w.heap.size w w' ∧ PRd w' p y n cy l 0 ∧ ∀ a, y = some a → w.heap.size ≤ a.block ∧ a.block < w'.heap.size := by
  have hc := clone_sl x n c l w hl hn
  clear hl
  go_enter Try.func47, Try.ntmps47
  go_wp2_with (go_at_call 71; refine hc.mono ?_; rintro e w2 ⟨y, cy, rfl, hb, hy, ha⟩; clear hc)
  go_ret
  exact ⟨w2.heap.size, y, cy, rfl, hb.size, hb.alloc hb.size _, prd_new w2 y n cy l hy (fun a h => (ha a h).2) hn, fun a h => ⟨(ha a h).1, by have := (ha a h).2; simp; omega⟩⟩

/- Err, Left, Done. -/
theorem perr_any (p e : Nat) (w : World) (hc : w.cell? ⟨p, 1, none⟩ = some (.int .i64 (e : Int))) :
    Calls Try.prog 73 #[.pointer (some ⟨p, 0, none⟩)] w fun ed w' => ed = .returned (.int .i64 (e : Int)) ∧ w' = w := by
  go_enter Try.func73, Try.ntmps73
  go_wp2_with fail
  go_ret
  exact ⟨rfl, rfl⟩

theorem pleft_any (p n c : Nat) (x : Option Addr) (w : World) (hc : w.cell? ⟨p, 0, none⟩ = some (.slice x n c)) :
    Calls Try.prog 74 #[.pointer (some ⟨p, 0, none⟩)] w fun ed w' => ed = .returned (.int .i64 (n : Int)) ∧ w' = w := by
  go_enter Try.func74, Try.ntmps74
  go_wp2_with fail
  go_ret
  exact ⟨rfl, rfl⟩

theorem pdone_any (p n c e : Nat) (x : Option Addr) (l : List Nat) (w : World) (h : PRd w p x n c l e) :
    Calls Try.prog 50 #[.pointer (some ⟨p, 0, none⟩)] w fun ed w' => ed = .returned (.int .i64 (rDone l e : Int)) ∧ w' = w := by
  have h1 := perr_any p e w h.wrong
  have h2 := pleft_any p n c x w h.rest
  have hlen := h.sl.len
  by_cases he : e = 0
  · subst he
    by_cases h0 : n = 0
    · have HD : Hid (rDone l 0 = 0) := (by unfold rDone; rw [if_neg (by omega), if_neg (by omega)] : rDone l 0 = 0)
      subst h0
      clear h
      go_enter Try.func50, Try.ntmps50
      go_wp2_with (first
        | (go_at_call 73; refine h1.mono ?_; rintro e w' ⟨rfl, rfl⟩; clear h1)
        | (go_at_call 74; refine h2.mono ?_; rintro e w' ⟨rfl, rfl⟩; clear h2))
      go_ret
      exact ⟨by rw [HD.out]; rfl, rfl⟩
    · have HD : Hid (rDone l 0 = 5) := (by unfold rDone; rw [if_neg (by omega), if_pos (by omega)] : rDone l 0 = 5)
      have hpos : 0 < n := by omega
      clear h
      go_enter Try.func50, Try.ntmps50
      go_wp2_with (first
        | (go_at_call 73; refine h1.mono ?_; rintro e w' ⟨rfl, rfl⟩; clear h1)
        | (go_at_call 74; refine h2.mono ?_; rintro e w' ⟨rfl, rfl⟩; clear h2))
      go_ret
      exact ⟨by rw [HD.out]; rfl, rfl⟩
  · have HD : Hid (rDone l e = e) := (by unfold rDone; rw [if_pos he] : rDone l e = e)
    have hne : ((e : Int) != 0) = true := by simp; omega
    clear h h2
    go_enter Try.func50, Try.ntmps50
    go_wp2_with (go_at_call 73; refine h1.mono ?_; rintro e w' ⟨rfl, rfl⟩; clear h1)
    go_ret
    exact ⟨by rw [HD.out]; rfl, rfl⟩

/- Uvarint(). -/
theorem puv_any (p n c e : Nat) (x : Option Addr) (l : List Nat) (w : World) (h : PRd w p x n c l e) :
    Calls Try.prog 88 #[.pointer (some ⟨p, 0, none⟩)] w fun ed w' => ed = .returned (.int .u64 ((rUv l e).1 : Int)) ∧ PGo w w' p x (rUv l e).2.1 (rUv l e).2.2 := by
  have h1 := perr_any p e w h.wrong
  have hsm := h.small
  by_cases he : e = 0
  · subst he
    have h2 := leading_any x n c l w h.sl hsm
    have hc0 := h.rest
    have hc1 := h.wrong
    have hf0 := h.fr 0
    have hf1 := h.fr 1
    cases hl : lead l with
    | none =>
      rw [ld_none hl] at h2
      have HD : Hid (rUv l 0 = (0, l, 5) ∧ PGo w (w.setCell ⟨p, 1, none⟩ (.int .i64 5)) p x l 5) := ⟨rUv_no hl, (Turn.refl p w).setCell rfl _, x, n, c, h.setWrong 5, From.refl x⟩
      clear h hl
      go_enter Try.func88, Try.ntmps88
      go_wp2_with (first
        | (go_at_call 73; refine h1.mono ?_; rintro e w' ⟨rfl, rfl⟩; clear h1)
        | (go_at_call 93; refine h2.mono ?_; rintro e w' ⟨rfl, rfl⟩; clear h2))
      go_ret
      rw [HD.out.1]
      exact ⟨rfl, HD.out.2⟩
    | some q =>
      obtain ⟨N, k⟩ := q
      rw [ld_some hl] at h2
      have hk := (lead_canon h.sl.lt hl).2.2.1
      have hN := (lead_canon h.sl.lt hl).2.2.2
      have hkp := lead_pos h.sl.lt hl
      rw [h.sl.len] at hk
      have hcut := fun v => wcut_from x n c k v hk
      have hk0 : ((k : Int) == 0) = false := by simp; omega
      have HD : Hid (rUv l 0 = (N, l.drop k, 0) ∧ PGo w (w.setCell ⟨p, 0, none⟩ (.slice (cutTo x c k) (n - k) (c - k))) p x (l.drop k) 0) :=
        ⟨rUv_yes hl, (Turn.refl p w).setCell rfl _, _, _, _, h.setRest (h.sl.from k hk) ((From.cut x c k).ap h.ap) (by omega), From.cut x c k⟩
      clear h hl
      go_enter Try.func88, Try.ntmps88
      go_wp2_with (first
        | (go_at_call 73; refine h1.mono ?_; rintro e w' ⟨rfl, rfl⟩; clear h1)
        | (go_at_call 93; refine h2.mono ?_; rintro e w' ⟨rfl, rfl⟩; clear h2))
      go_ret
      rw [HD.out.1]
      exact ⟨rfl, HD.out.2⟩
  · have HD : Hid (rUv l e = (0, l, e) ∧ PGo w w p x l e) := ⟨rUv_bad he, Turn.refl p w, x, n, c, h, From.refl x⟩
    have hne : ((e : Int) != 0) = true := by simp; omega
    clear h
    go_enter Try.func88, Try.ntmps88
    go_wp2_with (go_at_call 73; refine h1.mono ?_; rintro e w' ⟨rfl, rfl⟩; clear h1)
    go_ret
    rw [HD.out.1]
    exact ⟨rfl, HD.out.2⟩

/- refuse(begin, wrong). -/
theorem prefuse_any (p n c e e' n' c' : Nat) (x x' : Option Addr) (l l' : List Nat) (w : World) (h : PRd w p x n c l e) (hs : Sl w x' n' c' l') (ha : ∀ a, x' = some a → a.block ≠ p) (hn : n' ≤ 140737488355328) :
    Calls Try.prog 89 #[.pointer (some ⟨p, 0, none⟩), .slice x' n' c', .int .i64 (e' : Int)] w fun ed w' => ed = .returned (.tuple #[]) ∧ PGo w w' p x' l' e' := by
  have hc0 := h.rest
  have hf0 := h.fr 0
  have hg := h.setRest hs ha hn
  have hc1 := hg.wrong
  have hf1 := hg.fr 1
  have HD : Hid (PGo w ((w.setCell ⟨p, 0, none⟩ (.slice x' n' c')).setCell ⟨p, 1, none⟩ (.int .i64 (e' : Int))) p x' l' e') := ⟨((Turn.refl p w).setCell rfl _).setCell rfl _, x', n', c', hg.setWrong e', From.refl x'⟩
  clear h hg hs ha
  go_enter Try.func89, Try.ntmps89
  go_wp2_with fail
  go_end0
  exact ⟨rfl, HD.out⟩

end Go.Proofs.Ytnddhlkdemibgaa

/-
  What the reader's fixed, Fixed4, Fixed8, Byte, Number and Bytes of package wire do: contracts over plain lists ('WiPlain').
  Conditions: bytes that are looked at lie in memory.
-/
namespace Go.Proofs.Ytnddhlkdemibgaa
open Go.RowKit Wi By
set_option linter.unusedVariables false
set_option linter.unusedSimpArgs false
set_option maxRecDepth 100000

theorem pow8 (k : Nat) : 256 ^ k = 2 ^ (8 * k) := by rw [Nat.pow_mul]

theorem le_digit {l : List Nat} {k N N2 : Nat} (hl : ∀ v ∈ l, v < 256) (hk : k < l.length) (hk7 : k ≤ 7) (hN : N = le (l.take k))
    (h : N < 2 ^ (8 * k) → gl l k * 2 ^ (8 * k) < 18446744073709551616 → N2 = N + gl l k * 2 ^ (8 * k)) : N2 = le (l.take (k + 1)) := by
  have h1 : le (l.take k) < 256 ^ (l.take k).length := le_lt _ (fun v hv => hl v (List.mem_of_mem_take hv))
  rw [List.length_take, Nat.min_eq_left (by omega)] at h1
  have hv := gl_lt hl k
  have hp : 256 ^ k ≤ 256 ^ 7 := Nat.pow_le_pow_right (by omega) hk7
  have hm : gl l k * 256 ^ k ≤ 255 * 256 ^ k := Nat.mul_le_mul_right _ (by omega)
  have e := h (by rw [← pow8, hN]; exact h1) (by rw [← pow8]; omega)
  rw [e, ← pow8, hN, le_take_succ l k hk]
  rfl

theorem rFx_bad {s : Nat} {l : List Nat} {e : Nat} (h : e ≠ 0) : rFx s l e = (0, l, e) := by unfold rFx; rw [if_pos h]
theorem rFx_no {s : Nat} {l : List Nat} (h : l.length < s) : rFx s l 0 = (0, l, 5) := by unfold rFx; rw [if_neg (by omega), if_pos h]
theorem rFx_yes {s : Nat} {l : List Nat} (h : s ≤ l.length) : rFx s l 0 = (le (l.take s), l.drop s, 0) := by unfold rFx; rw [if_neg (by omega), if_neg (by omega)]

theorem rFx_lt (s : Nat) (l : List Nat) (e : Nat) (hl : ∀ v ∈ l, v < 256) (hs : 0 < s) : (rFx s l e).1 < 256 ^ s := by
  by_cases h : e = 0
  · subst h
    by_cases h2 : l.length < s
    · rw [rFx_no h2]; exact Nat.pow_pos (by omega)
    · rw [rFx_yes (by omega)]
      have := le_lt (l.take s) (fun v hv => hl v (List.mem_of_mem_take hv))
      rw [List.length_take, Nat.min_eq_left (by omega)] at this
      exact this
  · rw [rFx_bad h]; exact Nat.pow_pos (by omega)

/- Number(most). -/
theorem rNum_bad {t : Int} {l : List Nat} {e : Nat} (h : e ≠ 0) : rNum t l e = (0, l, e) := by unfold rNum; rw [if_pos h]
theorem rNum_no {t : Int} {l : List Nat} (h : (rUv l 0).2.2 ≠ 0) : rNum t l 0 = (0, (rUv l 0).2.1, (rUv l 0).2.2) := by unfold rNum; rw [if_neg (by omega), if_pos h]
theorem rNum_long {t : Int} {l : List Nat} (h : (rUv l 0).2.2 = 0) (ht : t < 0 ∨ t < ((rUv l 0).1 : Int)) : rNum t l 0 = (0, l, 3) := by unfold rNum; rw [if_neg (by omega), if_neg (by omega), if_pos ht]
theorem rNum_yes {t : Int} {l : List Nat} (h : (rUv l 0).2.2 = 0) (ht : ¬ (t < 0 ∨ t < ((rUv l 0).1 : Int))) : rNum t l 0 = rUv l 0 := by unfold rNum; rw [if_neg (by omega), if_neg (by omega), if_neg ht]

theorem rNum_lt (t : Int) (l : List Nat) (e : Nat) (ht : t ≤ 9223372036854775807) : (rNum t l e).1 < 9223372036854775808 := by
  by_cases h : e = 0
  · subst h
    by_cases h2 : (rUv l 0).2.2 = 0
    · by_cases h3 : t < 0 ∨ t < ((rUv l 0).1 : Int)
      · rw [rNum_long h2 h3]; show 0 < _; omega
      · rw [rNum_yes h2 h3]; omega
    · rw [rNum_no h2]; show 0 < _; omega
  · rw [rNum_bad h]; show 0 < _; omega

theorem pnum_any (p n c e : Nat) (t : Int) (x : Option Addr) (l : List Nat) (w : World) (h : PRd w p x n c l e) (ht1 : -9223372036854775808 ≤ t) (ht2 : t ≤ 9223372036854775807) :
    Calls Try.prog 72 #[.pointer (some ⟨p, 0, none⟩), .int .i64 t] w fun ed w' => ed = .returned (.int .i64 ((rNum t l e).1 : Int)) ∧ PGo w w' p x (rNum t l e).2.1 (rNum t l e).2.2 := by
  have h1 := perr_any p e w h.wrong
  have hsm := h.small
  by_cases he : e = 0
  · subst he
    have hc0 := h.rest
    have hu : Calls Try.prog 88 #[.pointer (some ⟨p, 0, none⟩)] w fun ed w' => ed = .returned (.int .u64 ((rUv l 0).1 : Int)) ∧ w'.cell? ⟨p, 1, none⟩ = some (.int .i64 ((rUv l 0).2.2 : Int)) ∧ PGo w w' p x (rUv l 0).2.1 (rUv l 0).2.2 :=
      (puv_any p n c 0 x l w h).mono fun ed w' ⟨h1, h2⟩ => ⟨h1, by obtain ⟨_, x', n', c', h3, _⟩ := h2; exact h3.wrong, h2⟩
    have hN := rUv_lt l 0 h.sl.lt
    by_cases he2 : (rUv l 0).2.2 = 0
    · by_cases hlong : t < 0 ∨ t < ((rUv l 0).1 : Int)
      · have HD : Hid (rNum t l 0 = (0, l, 3)) := rNum_long he2 hlong
        have hr : ∀ v, PGo w v p x (rUv l 0).2.1 (rUv l 0).2.2 → Calls Try.prog 89 #[.pointer (some ⟨p, 0, none⟩), .slice x n c, .int .i64 3] v fun ed w' => ed = .returned (.tuple #[]) ∧ PGo w w' p x l 3 := fun v hv => by
          obtain ⟨t1, x', n', c', h3, h4⟩ := hv
          exact (prefuse_any p n' c' _ 3 n c x' x _ l v h3 (h.sl.turn t1 h.ap) h.ap hsm).mono fun ed w' ⟨h5, h6⟩ => ⟨h5, t1.trans h6.1, h6.2⟩
        rw [he2] at hu hr
        generalize (rUv l 0).1 = N at *
        generalize (rUv l 0).2.1 = l2 at *
        clear h he2
        by_cases hneg : t < 0
        · clear hlong
          go_enter Try.func72, Try.ntmps72
          go_wp2_with (first
            | (go_at_call 73; refine h1.mono ?_; rintro e w' ⟨rfl, rfl⟩; clear h1)
            | (go_at_call 88; refine hu.mono ?_; rintro e w2 ⟨rfl, hc2, hg⟩; clear hu)
            | (go_at_call 89; refine (hr _ hg).mono ?_; rintro e w3 ⟨rfl, hg3⟩; clear hr))
          go_ret
          rw [HD.out]
          exact ⟨rfl, hg3⟩
        · have hl2 : t < (N : Int) := by omega
          have hneg' : (0 : Int) ≤ t := by omega
          clear hlong hneg
          go_enter Try.func72, Try.ntmps72
          go_wp2_with (first
            | (go_at_call 73; refine h1.mono ?_; rintro e w' ⟨rfl, rfl⟩; clear h1)
            | (go_at_call 88; refine hu.mono ?_; rintro e w2 ⟨rfl, hc2, hg⟩; clear hu)
            | (go_at_call 89; refine (hr _ hg).mono ?_; rintro e w3 ⟨rfl, hg3⟩; clear hr))
          go_ret
          rw [HD.out]
          exact ⟨rfl, hg3⟩
      · have HD : Hid (rNum t l 0 = ((rUv l 0).1, (rUv l 0).2.1, 0)) := by
          show rNum t l 0 = _
          rw [rNum_yes he2 hlong]
          exact Prod.ext rfl (Prod.ext rfl he2)
        rw [he2] at hu
        generalize (rUv l 0).1 = N at *
        generalize (rUv l 0).2.1 = l2 at *
        have hl2 : (N : Int) ≤ t := by omega
        have hneg' : (0 : Int) ≤ t := by omega
        clear h hlong he2
        go_enter Try.func72, Try.ntmps72
        go_wp2_with (first
          | (go_at_call 73; refine h1.mono ?_; rintro e w' ⟨rfl, rfl⟩; clear h1)
          | (go_at_call 88; refine hu.mono ?_; rintro e w2 ⟨rfl, hc2, hg⟩; clear hu))
        go_ret
        rw [HD.out]
        exact ⟨rfl, hg⟩
    · have HD : Hid (rNum t l 0 = (0, (rUv l 0).2.1, (rUv l 0).2.2)) := rNum_no he2
      generalize (rUv l 0).1 = N at *
      generalize (rUv l 0).2.1 = l2 at *
      generalize (rUv l 0).2.2 = e2 at *
      have hne : ((e2 : Int) != 0) = true := by simp; omega
      clear h
      go_enter Try.func72, Try.ntmps72
      go_wp2_with (first
        | (go_at_call 73; refine h1.mono ?_; rintro e w' ⟨rfl, rfl⟩; clear h1)
        | (go_at_call 88; refine hu.mono ?_; rintro e w2 ⟨rfl, hc2, hg⟩; clear hu))
      go_ret
      rw [HD.out]
      exact ⟨rfl, hg⟩
  · have HD : Hid (rNum t l e = (0, l, e) ∧ PGo w w p x l e) := ⟨rNum_bad he, Turn.refl p w, x, n, c, h, From.refl x⟩
    have hne : ((e : Int) != 0) = true := by simp; omega
    clear h
    go_enter Try.func72, Try.ntmps72
    go_wp2_with (go_at_call 73; refine h1.mono ?_; rintro e w' ⟨rfl, rfl⟩; clear h1)
    go_ret
    rw [HD.out.1]
    exact ⟨rfl, HD.out.2⟩

/- Bytes(most). -/
theorem rBy_bad {t : Int} {l : List Nat} {e : Nat} (h : e ≠ 0) : rBy t l e = ([], l, e) := by unfold rBy; rw [if_pos h]
theorem rBy_no {t : Int} {l : List Nat} (h : (rNum t l 0).2.2 ≠ 0) : rBy t l 0 = ([], (rNum t l 0).2.1, (rNum t l 0).2.2) := by unfold rBy; rw [if_neg (by omega), if_pos h]
theorem rBy_few {t : Int} {l : List Nat} (h : (rNum t l 0).2.2 = 0) (h2 : (rNum t l 0).2.1.length < (rNum t l 0).1) : rBy t l 0 = ([], l, 5) := by unfold rBy; rw [if_neg (by omega), if_neg (by omega), if_pos h2]
theorem rBy_yes {t : Int} {l : List Nat} (h : (rNum t l 0).2.2 = 0) (h2 : (rNum t l 0).1 ≤ (rNum t l 0).2.1.length) : rBy t l 0 = ((rNum t l 0).2.1.take (rNum t l 0).1, (rNum t l 0).2.1.drop (rNum t l 0).1, 0) := by unfold rBy; rw [if_neg (by omega), if_neg (by omega), if_neg (by omega)]

def PTold (w w' : World) (p : Nat) (x : Option Addr) (v : Value) (k l' : List Nat) (e' : Nat) : Prop := PGo w w' p x l' e' ∧ ∃ y cy, v = .slice y k.length cy ∧ Sl w' y k.length cy k ∧ ∀ a, y = some a → w.heap.size ≤ a.block

end Go.Proofs.Ytnddhlkdemibgaa

/-
  What the document's reader does: next, wrong, ReadUvarint, ReadVarint, Done: contracts over plain lists ('WiPlain').
  Conditions: bytes that are looked at lie in memory.
-/
namespace Go.Proofs.Ytnddhlkdemibgaa
open Go.RowKit Wi By
set_option linter.unusedVariables false
set_option linter.unusedSimpArgs false
set_option maxRecDepth 100000

def RGo (w w' : World) (q : Nat) (x : Option Addr) (n c : Nat) (L l' : List Nat) (e' : Nat) : Prop := Turn q w w' ∧ ∃ t', RRd w' q x n c L t' e' ∧ L.drop t' = l'

theorem RRd.drewN {w : World} {q : Nat} {x : Option Addr} {n c : Nat} {L : List Nat} {t e : Nat} (h : RRd w q x n c L t e) (m : Nat) : RRd (w.drewN m) q x n c L t e :=
  ⟨h.bytes, h.place, h.bad, h.fr, h.sl.heap rfl, h.ap, h.le, h.small⟩

/- next(r). -/
theorem next_no (q n c t e : Nat) (x : Option Addr) (L : List Nat) (w : World) (h : RRd w q x n c L t e) (hd : e ≠ 0 ∨ n ≤ t) :
    Calls Try.prog 90 #[.pointer (some ⟨q, 0, none⟩)] w fun ed w' => ed = .returned (.tuple #[.int .u8 0, .bool false]) ∧ Turn q w w' ∧ RRd w' q x n c L t e := by
  have h0 := h.bytes
  have h1 := h.place
  have h2 := h.bad
  have H : Hid (RRd w q x n c L t e) := h
  clear h
  by_cases he : e = 0
  · subst he
    have hg : (((0 : Nat) : Int) != 0) = false := rfl
    have hg2 : n ≤ t := by omega
    clear hd
    go_enter Try.func90, Try.ntmps90
    go_wp2_with fail
    go_quiet (fail)
    go_wp2_with fail
    go_ret2
    exact ⟨rfl, (Turn.refl q w).drewN _, H.out.drewN _⟩
  · have hg : ((e : Int) != 0) = true := by simp; omega
    clear hd he
    go_enter Try.func90, Try.ntmps90
    go_wp2_with fail
    go_quiet (fail)
    go_wp2_with fail
    go_ret2
    exact ⟨rfl, (Turn.refl q w).drewN _, H.out.drewN _⟩

theorem next_yes (q n c t : Nat) (x : Option Addr) (L : List Nat) (w : World) (h : RRd w q x n c L t 0) (ht : t < n) :
    Calls Try.prog 90 #[.pointer (some ⟨q, 0, none⟩)] w fun ed w' => ed = .returned (.tuple #[.int .u8 (gl L t : Int), .bool true]) ∧ Turn q w w' ∧ RRd w' q x n c L (t + 1) 0 := by
  rcases h.sl.row with h0 | ⟨b, o, rfl, hb, hcell⟩
  · omega
  have h0 := h.bytes
  have h1 := h.place
  have h2 := h.bad
  have hsm := h.small
  have H : Hid (RRd w q (some ⟨b, o, none⟩) n c L t 0) := h
  have hf1 := h.fr 1
  obtain ⟨t1, ht1⟩ : ∃ t1, t1 = t + 1 := ⟨_, rfl⟩
  have ht1i : (t : Int) + 1 = (t1 : Int) := by omega
  have ht1s : (t1 : Int) - 1 = (t : Int) := by omega
  have Ht1 : Hid (t1 = t + 1) := ht1
  have hg : (((0 : Nat) : Int) != 0) = false := rfl
  have hg2 : decide ((n : Int) ≤ (t : Int)) = false := by simp; omega
  clear h hcell ht1
  go_enter Try.func90, Try.ntmps90
  go_wp2_with fail
  go_quiet (fail)
  go_wp2_with fail
  have hw2 : RRd ((w.drewN nq).setCell ⟨q, 1, none⟩ (.int .i64 (t1 : Int))) q (some ⟨b, o, none⟩) n c L t1 0 := (H.out.drewN nq).setPlace t1 (by have := Ht1.out; omega)
  have tw2 : Turn q w ((w.drewN nq).setCell ⟨q, 1, none⟩ (.int .i64 (t1 : Int))) := ((Turn.refl q w).drewN nq).setCell rfl _
  clear h0 h1 h2 H hf1 hb
  generalize (w.drewN nq).setCell ⟨q, 1, none⟩ (.int .i64 (t1 : Int)) = w2 at *
  have g0 := hw2.bytes
  have g1 := hw2.place
  have g2 : w2.cell? ⟨b, o + t, none⟩ = some (.int .u8 (gl L t : Int)) := by
    rcases hw2.sl.row with h0 | ⟨b', o', ha, _, hc⟩
    · omega
    · cases ha
      exact hc t ht
  have H2 : Hid (RRd w2 q (some ⟨b, o, none⟩) n c L t1 0 ∧ Turn q w w2) := ⟨hw2, tw2⟩
  clear hw2 tw2
  go_quiet (fail)
  go_wp2_with fail
  go_ret2
  rw [← Ht1.out]
  exact ⟨rfl, H2.out.2.drewN _, H2.out.1.drewN _⟩

/- wrong(r, e, at). -/
theorem wrong_any (q n c t e e' t' : Nat) (x : Option Addr) (L : List Nat) (w : World) (h : RRd w q x n c L t e) (ht : t' ≤ n) :
    Calls Try.prog 76 #[.pointer (some ⟨q, 0, none⟩), .int .i64 (e' : Int), .int .i64 (t' : Int)] w fun ed w' => ed = .returned (.tuple #[]) ∧ Turn q w w' ∧ RRd w' q x n c L (if e = 0 then t' else t) (if e = 0 then e' else e) := by
  have h2 := h.bad
  by_cases he : e = 0
  · subst he
    have hf2 := h.fr 2
    have hs := h.setBad e'
    have h1 := hs.place
    have hf1 := hs.fr 1
    have HD : Hid (Turn q w ((w.setCell ⟨q, 2, none⟩ (.int .i64 (e' : Int))).setCell ⟨q, 1, none⟩ (.int .i64 (t' : Int))) ∧ RRd ((w.setCell ⟨q, 2, none⟩ (.int .i64 (e' : Int))).setCell ⟨q, 1, none⟩ (.int .i64 (t' : Int))) q x n c L t' e') :=
      ⟨((Turn.refl q w).setCell rfl _).setCell rfl _, hs.setPlace t' ht⟩
    clear h hs ht
    go_enter Try.func76, Try.ntmps76
    go_wp2_with fail
    go_end0
    exact ⟨rfl, HD.out.1, HD.out.2⟩
  · have hne : ((e : Int) == 0) = false := by simp; omega
    have HD : Hid (RRd w q x n c L t e) := h
    clear h ht
    go_enter Try.func76, Try.ntmps76
    go_wp2_with fail
    go_end0
    exact ⟨rfl, Turn.refl q w, HD.out⟩

end Go.Proofs.Ytnddhlkdemibgaa

/-
  What the document's ReadUvarint and ReadVarint do: contracts over plain lists ('WiPlain').
  Conditions: bytes that are looked at lie in memory.
-/
namespace Go.Proofs.Ytnddhlkdemibgaa
open Go.RowKit Wi By
set_option linter.unusedVariables false
set_option linter.unusedSimpArgs false
set_option maxRecDepth 100000

theorem lead_of_ld {l : List Nat} (hl : ∀ v ∈ l, v < 256) (h : ld l = (0, 0)) : lead l = none := by
  cases hq : lead l with
  | none => rfl
  | some p =>
    obtain ⟨n, k⟩ := p
    have := lead_pos hl hq
    rw [ld_some hq] at h
    injection h with _ h
    omega

theorem lead_of_ld_some {l : List Nat} {N k : Nat} (h : ld l = (N, k + 1)) : lead l = some (N, k + 1) := by
  cases hq : lead l with
  | none =>
    rw [ld_none hq] at h
    injection h with _ h
    omega
  | some p => rw [← h, ld_some hq]

theorem RRd.rest_lt {w : World} {q : Nat} {x : Option Addr} {n c : Nat} {L : List Nat} {t e : Nat} (h : RRd w q x n c L t e) : ∀ v ∈ L.drop t, v < 256 := fun v hv => h.sl.lt v (List.mem_of_mem_drop hv)

theorem ruv_bad (q n c t e : Nat) (x : Option Addr) (L : List Nat) (w : World) (h : RRd w q x n c L t e) (he : e ≠ 0) :
    Calls Try.prog 75 #[.pointer (some ⟨q, 0, none⟩)] w fun ed w' => ed = .returned (.int .u64 0) ∧ RGo w w' q x n c L (L.drop t) e := by
  have h1 := h.place
  have hnx := next_no q n c t e x L w h (.inl he)
  have hW : ∀ v, RRd v q x n c L t e → Turn q w v → Calls Try.prog 76 #[.pointer (some ⟨q, 0, none⟩), .int .i64 5, .int .i64 (t : Int)] v fun ed w' => ed = .returned (.tuple #[]) ∧ RGo w w' q x n c L (L.drop t) e := fun v hv tv =>
    (wrong_any q n c t e 5 t x L v hv h.le).mono fun ed w' ⟨a1, a2, a3⟩ => by
      rw [if_neg he, if_neg he] at a3
      exact ⟨a1, tv.trans a2, t, a3, rfl⟩
  clear h
  go_enter Try.func75, Try.ntmps75
  go_wp2_with fail
  refine wp_loop_rounds 1 ?_
  rw [rounds_succ]
  go_wp2_with (first
    | (go_at_call 90; refine hnx.mono ?_; rintro e w2 ⟨rfl, t2, hr2⟩; have hW2 := hW _ hr2 t2; clear hnx hW hr2 t2)
    | (go_at_call 76; refine hW2.mono ?_; rintro e w3 ⟨rfl, hg3⟩; clear hW2))
  go_ret
  exact ⟨rfl, hg3⟩

set_option maxHeartbeats 2000000 in
set_option maxRecDepth 100000 in
theorem ruv_go (q n c t : Nat) (x : Option Addr) (L : List Nat) (w : World) (h : RRd w q x n c L t 0) :
    Calls Try.prog 75 #[.pointer (some ⟨q, 0, none⟩)] w fun ed w' => ed = .returned (.int .u64 ((rUv (L.drop t) 0).1 : Int)) ∧ RGo w w' q x n c L (rUv (L.drop t) 0).2.1 (rUv (L.drop t) 0).2.2 := by
  have h1 := h.place
  have hsm := h.small
  have hle := h.le
  have hb := h.rest_lt
  have hlen : (L.drop t).length = n - t := by rw [List.length_drop, h.sl.len]
  have HL : Hid (∀ k, gl (L.drop t) k = gl L (t + k)) := fun k => gl_drop L t k
  obtain ⟨l, hl⟩ : ∃ l, l = L.drop t := ⟨_, rfl⟩
  have HLl : Hid (l = L.drop t) := hl
  rw [← hl] at hb hlen HL
  have H : Hid (RRd w q x n c L t 0) := h
  clear h hl
  go_enter Try.func75, Try.ntmps75
  go_wp2_with fail
  go_loopw [4, 5] (fun a i wr => ∃ k N : Nat, k ≤ 10 ∧ N < 18446744073709551616 ∧ a = .int .u64 N ∧ i = .int .i64 k ∧ Hid (Lead l k N ∧ RRd wr q x n c L (t + k) 0 ∧ Turn q w wr)) (fun _ i _ => 10 - (intOf i).toNat)
  case atStart => exact ⟨0, 0, by omega, by omega, rfl, rfl, .inl ⟨by omega, rfl, by simp⟩, H.out, Turn.refl q w⟩
  case round =>
    obtain ⟨k, N, hk, hN, rfl, rfl, HR⟩ := hrel
    clear H
    obtain ⟨hLd, hRR, hTT⟩ := HR.out
    have hW : ∀ v s, RRd v q x n c L s 0 → Turn q wr v → Calls Try.prog 76 #[.pointer (some ⟨q, 0, none⟩), .int .i64 5, .int .i64 (t : Int)] v fun ed w' => ed = .returned (.tuple #[]) ∧ RGo w w' q x n c L l 5 := fun v s hv tv =>
      (wrong_any q n c s 0 5 t x L v hv hle).mono fun ed w' ⟨a1, a2, a3⟩ => ⟨a1, hTT.trans (tv.trans a2), t, a3, HLl.out.symm⟩
    clear HR
    by_cases hlt : k < 10
    · by_cases hmore : t + k < n
      · have hkl : k < l.length := by omega
        have hnx := next_yes q n c (t + k) x L wr hRR hmore
        rw [← HL.out k] at hnx
        have hv := gl_lt hb k
        obtain ⟨s, hs⟩ : ∃ s : Nat, s = 7 * k := ⟨_, rfl⟩
        have hs7 : (7 : Int) * (k : Int) = (s : Int) := by omega
        have hs64 : s < 64 := by omega
        have HT : Hid (Turn q w wr) := hTT
        obtain ⟨k1, hk1⟩ : ∃ k1 : Nat, k1 = t + k + 1 := ⟨_, rfl⟩
        rw [← hk1] at hnx
        have Hk1 : Hid (k1 = t + k + 1) := hk1
        clear hRR hTT hk1
        by_cases h128 : 128 ≤ gl l k
        · obtain ⟨u, hu⟩ : ∃ u : Nat, u = gl l k - 128 := ⟨_, rfl⟩
          have hu1 : (gl l k : Int) % 128 = (u : Int) := by omega
          have hu2 : u < 128 := by omega
          by_cases hover : k = 9 ∧ 1 < u
          · have HD : Hid (rUv l 0 = (0, l, 5)) := by
              refine rUv_no ?_
              rcases lead_more hLd hkl (by omega) h128 hv (N2 := N + (gl l k - 128) * 2 ^ (7 * k)) (fun _ _ => rfl) with ⟨a, _⟩ | ⟨_, b⟩
              · omega
              · exact b
            obtain ⟨hk9, hu3⟩ := hover
            have hz9 : ((k : Int) == 9) = true := by simp; omega
            clear hLd hs hu hkl hb hlen hk9 HL
            generalize gl l k = v at *
            go_wp2_with (first
              | (go_at_call 90; refine hnx.mono ?_; rintro e w2 ⟨rfl, t2, hr2⟩; have hW2 := hW _ _ hr2 t2; clear hnx hW hr2 t2)
              | (go_at_call 76; refine hW2.mono ?_; rintro e w3 ⟨rfl, hg3⟩; clear hW2))
            go_ret
            rw [← HLl.out, HD.out]
            exact ⟨rfl, hg3⟩
          · obtain ⟨N2, hor, hN2, he⟩ := digit_or N u s hN
            have HS : Hid (Lead l (k + 1) N2) := lead_more hLd hkl (by omega) h128 hv (by rw [← hs, ← hu]; exact he)
            clear he hLd hs hu hkl hb hlen hW HL
            generalize gl l k = v at *
            by_cases hk9 : k = 9
            · have hz9 : ((k : Int) == 9) = true := by simp; omega
              have hu4 : u < 2 := by omega
              have hu5 : decide ((1 : Int) < (u : Int)) = false := by simp; omega
              clear hover hk9
              go_wp2_with (go_at_call 90; refine hnx.mono ?_; rintro e w2 ⟨rfl, t2, hr2⟩; have HR2 : Hid (RRd w2 q x n c L k1 0 ∧ Turn q wr w2) := ⟨hr2, t2⟩; clear hnx hr2 t2)
              go_roundw
              case rel => exact ⟨k + 1, N2, by omega, hN2, rfl, by go_num, HS.out, by rw [← Nat.add_assoc, ← Hk1.out]; exact HR2.out.1, HT.out.trans HR2.out.2⟩
              case measure => simp [intOf]; omega
            · have hz9 : ((k : Int) == 9) = false := by simp; omega
              clear hover hk9
              go_wp2_with (go_at_call 90; refine hnx.mono ?_; rintro e w2 ⟨rfl, t2, hr2⟩; have HR2 : Hid (RRd w2 q x n c L k1 0 ∧ Turn q wr w2) := ⟨hr2, t2⟩; clear hnx hr2 t2)
              go_roundw
              case rel => exact ⟨k + 1, N2, by omega, hN2, rfl, by go_num, HS.out, by rw [← Nat.add_assoc, ← Hk1.out]; exact HR2.out.1, HT.out.trans HR2.out.2⟩
              case measure => simp [intOf]; omega
        · have hu1 : (gl l k : Int) % 128 = (gl l k : Int) := by omega
          by_cases hbad : (0 < k ∧ gl l k = 0) ∨ (k = 9 ∧ 1 < gl l k)
          · have HD : Hid (rUv l 0 = (0, l, 5)) := rUv_no (lead_of_ld hb (lead_bad hLd hkl (by omega) (by omega) hbad))
            obtain ⟨N2, hor, hN2, _⟩ := digit_or N (gl l k) s hN
            clear hLd hs hkl hb hlen HL
            generalize gl l k = v at *
            by_cases hk9 : k = 9 ∧ 1 < v
            · obtain ⟨hk9, hv1⟩ := hk9
              have hz9 : ((k : Int) == 9) = true := by simp; omega
              clear hbad hk9
              go_wp2_with (first
                | (go_at_call 90; refine hnx.mono ?_; rintro e w2 ⟨rfl, t2, hr2⟩; have hW2 := hW _ _ hr2 t2; clear hnx hW hr2 t2)
                | (go_at_call 76; refine hW2.mono ?_; rintro e w3 ⟨rfl, hg3⟩; clear hW2))
              go_ret
              rw [← HLl.out, HD.out]
              exact ⟨rfl, hg3⟩
            · have hk0 : 0 < k := by omega
              have hv0 : v = 0 := by omega
              subst hv0
              by_cases hk9 : k = 9
              · have hz9 : ((k : Int) == 9) = true := by simp; omega
                clear hbad hk9
                go_wp2_with (first
                  | (go_at_call 90; refine hnx.mono ?_; rintro e w2 ⟨rfl, t2, hr2⟩; have hW2 := hW _ _ hr2 t2; clear hnx hW hr2 t2)
                  | (go_at_call 76; refine hW2.mono ?_; rintro e w3 ⟨rfl, hg3⟩; clear hW2))
                go_ret
                rw [← HLl.out, HD.out]
                exact ⟨rfl, hg3⟩
              · have hz9 : ((k : Int) == 9) = false := by simp; omega
                clear hbad hk9
                go_wp2_with (first
                  | (go_at_call 90; refine hnx.mono ?_; rintro e w2 ⟨rfl, t2, hr2⟩; have hW2 := hW _ _ hr2 t2; clear hnx hW hr2 t2)
                  | (go_at_call 76; refine hW2.mono ?_; rintro e w3 ⟨rfl, hg3⟩; clear hW2))
                go_ret
                rw [← HLl.out, HD.out]
                exact ⟨rfl, hg3⟩
          · obtain ⟨N2, hor, hN2, he⟩ := digit_or N (gl l k) s hN
            have HD : Hid (rUv l 0 = (N2, l.drop (k + 1), 0)) := rUv_yes (lead_of_ld_some (lead_good hLd hkl (by omega) (by omega) hbad (N2 := N2) (by rw [← hs]; exact he)))
            clear he hLd hs hkl hb hlen hW HL
            generalize gl l k = v at *
            by_cases hk0 : k = 0
            · have hz : (k : Int) < 1 := by omega
              have hz9 : ((k : Int) == 9) = false := by simp; omega
              clear hbad hk0
              by_cases hv0 : v = 0
              · have hvb : ((v : Int) == 0) = true := by simp; omega
                clear hv0
                go_wp2_with (go_at_call 90; refine hnx.mono ?_; rintro e w2 ⟨rfl, t2, hr2⟩; have HR2 : Hid (RRd w2 q x n c L k1 0 ∧ Turn q wr w2) := ⟨hr2, t2⟩; clear hnx hr2 t2)
                go_ret
                rw [← HLl.out, HD.out]
                exact ⟨rfl, HT.out.trans HR2.out.2, k1, HR2.out.1, by rw [Hk1.out, HLl.out, List.drop_drop, Nat.add_assoc]⟩
              · have hvb : ((v : Int) == 0) = false := by simp; omega
                clear hv0
                go_wp2_with (go_at_call 90; refine hnx.mono ?_; rintro e w2 ⟨rfl, t2, hr2⟩; have HR2 : Hid (RRd w2 q x n c L k1 0 ∧ Turn q wr w2) := ⟨hr2, t2⟩; clear hnx hr2 t2)
                go_ret
                rw [← HLl.out, HD.out]
                exact ⟨rfl, HT.out.trans HR2.out.2, k1, HR2.out.1, by rw [Hk1.out, HLl.out, List.drop_drop, Nat.add_assoc]⟩
            · have hv0 : 0 < v := by omega
              have hvb : ((v : Int) == 0) = false := by simp; omega
              have hk0' : 0 < k := by omega
              by_cases hk9 : k = 9
              · have hv1 : v < 2 := by omega
                have hvc : decide ((1 : Int) < (v : Int)) = false := by simp; omega
                have hz9 : ((k : Int) == 9) = true := by simp; omega
                clear hbad hk0 hk9
                go_wp2_with (go_at_call 90; refine hnx.mono ?_; rintro e w2 ⟨rfl, t2, hr2⟩; have HR2 : Hid (RRd w2 q x n c L k1 0 ∧ Turn q wr w2) := ⟨hr2, t2⟩; clear hnx hr2 t2)
                go_ret
                rw [← HLl.out, HD.out]
                exact ⟨rfl, HT.out.trans HR2.out.2, k1, HR2.out.1, by rw [Hk1.out, HLl.out, List.drop_drop, Nat.add_assoc]⟩
              · have hz9 : ((k : Int) == 9) = false := by simp; omega
                clear hbad hk0 hk9
                go_wp2_with (go_at_call 90; refine hnx.mono ?_; rintro e w2 ⟨rfl, t2, hr2⟩; have HR2 : Hid (RRd w2 q x n c L k1 0 ∧ Turn q wr w2) := ⟨hr2, t2⟩; clear hnx hr2 t2)
                go_ret
                rw [← HLl.out, HD.out]
                exact ⟨rfl, HT.out.trans HR2.out.2, k1, HR2.out.1, by rw [Hk1.out, HLl.out, List.drop_drop, Nat.add_assoc]⟩
      · have hnx := next_no q n c (t + k) 0 x L wr hRR (.inr (by omega))
        have HD : Hid (rUv l 0 = (0, l, 5)) := rUv_no (lead_of_ld hb (lead_over hLd (.inl (by omega))))
        clear hLd hRR hTT hb hlen HL hmore
        go_wp2_with (first
          | (go_at_call 90; refine hnx.mono ?_; rintro e w2 ⟨rfl, t2, hr2⟩; have hW2 := hW _ _ hr2 t2; clear hnx hW hr2 t2)
          | (go_at_call 76; refine hW2.mono ?_; rintro e w3 ⟨rfl, hg3⟩; clear hW2))
        go_ret
        rw [← HLl.out, HD.out]
        exact ⟨rfl, hg3⟩
    · have hk2 : k = 10 := by omega
      have HD : Hid (rUv l 0 = (0, l, 5)) := rUv_no (lead_of_ld hb (lead_over hLd (.inr hk2)))
      have hW2 := hW wr _ hRR (Turn.refl q wr)
      subst hk2
      clear hLd hRR hTT hb hlen HL hW
      go_wp2_with (go_at_call 76; refine hW2.mono ?_; rintro e w3 ⟨rfl, hg3⟩; clear hW2)
      go_ret
      rw [← HLl.out, HD.out]
      exact ⟨rfl, hg3⟩

theorem ruv_any (q n c t e : Nat) (x : Option Addr) (L : List Nat) (w : World) (h : RRd w q x n c L t e) :
    Calls Try.prog 75 #[.pointer (some ⟨q, 0, none⟩)] w fun ed w' => ed = .returned (.int .u64 ((rUv (L.drop t) e).1 : Int)) ∧ RGo w w' q x n c L (rUv (L.drop t) e).2.1 (rUv (L.drop t) e).2.2 := by
  by_cases he : e = 0
  · subst he
    exact ruv_go q n c t x L w h
  · rw [rUv_bad he]
    exact ruv_bad q n c t e x L w h he

end Go.Proofs.Ytnddhlkdemibgaa

/-
  What the document's ReadFixed, ReadNumber and ReadBytes do: contracts over plain lists ('WiPlain').
  Conditions: bytes that are looked at lie in memory.
-/
namespace Go.Proofs.Ytnddhlkdemibgaa
open Go.RowKit Wi By
set_option linter.unusedVariables false
set_option linter.unusedSimpArgs false
set_option maxRecDepth 100000

/- ReadNumber(r, most). -/
theorem rnum_any (q n c t e : Nat) (b : Int) (x : Option Addr) (L : List Nat) (w : World) (h : RRd w q x n c L t e) (hb1 : -9223372036854775808 ≤ b) (hb2 : b ≤ 9223372036854775807) :
    Calls Try.prog 52 #[.pointer (some ⟨q, 0, none⟩), .int .i64 b] w fun ed w' => ed = .returned (.int .i64 ((rNum b (L.drop t) e).1 : Int)) ∧ RGo w w' q x n c L (rNum b (L.drop t) e).2.1 (rNum b (L.drop t) e).2.2 := by
  have h1 := h.place
  have hu : Calls Try.prog 75 #[.pointer (some ⟨q, 0, none⟩)] w fun ed w' => ed = .returned (.int .u64 ((rUv (L.drop t) e).1 : Int)) ∧ w'.cell? ⟨q, 2, none⟩ = some (.int .i64 ((rUv (L.drop t) e).2.2 : Int)) ∧ RGo w w' q x n c L (rUv (L.drop t) e).2.1 (rUv (L.drop t) e).2.2 :=
    (ruv_any q n c t e x L w h).mono fun ed w' ⟨a1, a2⟩ => ⟨a1, by obtain ⟨_, t', a3, _⟩ := a2; exact a3.bad, a2⟩
  have hN := rUv_lt (L.drop t) e h.rest_lt
  by_cases he2 : (rUv (L.drop t) e).2.2 = 0
  · have he : e = 0 := by
      by_cases he : e = 0
      · exact he
      · rw [rUv_bad he] at he2
        exact he2
    subst he
    by_cases hlong : b < 0 ∨ b < ((rUv (L.drop t) 0).1 : Int)
    · have HD : Hid (rNum b (L.drop t) 0 = (0, L.drop t, 3)) := rNum_long he2 hlong
      have hr : ∀ v, RGo w v q x n c L (rUv (L.drop t) 0).2.1 0 → Calls Try.prog 76 #[.pointer (some ⟨q, 0, none⟩), .int .i64 3, .int .i64 (t : Int)] v fun ed w' => ed = .returned (.tuple #[]) ∧ RGo w w' q x n c L (L.drop t) 3 := fun v hv => by
        obtain ⟨t1, t', h3, _⟩ := hv
        exact (wrong_any q n c t' 0 3 t x L v h3 h.le).mono fun ed w' ⟨a1, a2, a3⟩ => ⟨a1, t1.trans a2, t, a3, rfl⟩
      rw [he2] at hu
      generalize (rUv (L.drop t) 0).1 = N at *
      generalize (rUv (L.drop t) 0).2.1 = l2 at *
      clear h he2
      by_cases hneg : b < 0
      · clear hlong
        go_enter Try.func52, Try.ntmps52
        go_wp2_with (first
          | (go_at_call 75; refine hu.mono ?_; rintro e w2 ⟨rfl, hc2, hg⟩; have hr2 := hr _ hg; clear hu hr hg)
          | (go_at_call 76; refine hr2.mono ?_; rintro e w3 ⟨rfl, hg3⟩; clear hr2))
        go_ret
        rw [HD.out]
        exact ⟨rfl, hg3⟩
      · have hl2 : b < (N : Int) := by omega
        have hneg' : (0 : Int) ≤ b := by omega
        clear hlong hneg
        go_enter Try.func52, Try.ntmps52
        go_wp2_with (first
          | (go_at_call 75; refine hu.mono ?_; rintro e w2 ⟨rfl, hc2, hg⟩; have hr2 := hr _ hg; clear hu hr hg)
          | (go_at_call 76; refine hr2.mono ?_; rintro e w3 ⟨rfl, hg3⟩; clear hr2))
        go_ret
        rw [HD.out]
        exact ⟨rfl, hg3⟩
    · have HD : Hid (rNum b (L.drop t) 0 = ((rUv (L.drop t) 0).1, (rUv (L.drop t) 0).2.1, 0)) := by
        show rNum b (L.drop t) 0 = _
        rw [rNum_yes he2 hlong]
        exact Prod.ext rfl (Prod.ext rfl he2)
      rw [he2] at hu
      generalize (rUv (L.drop t) 0).1 = N at *
      generalize (rUv (L.drop t) 0).2.1 = l2 at *
      have hl2 : (N : Int) ≤ b := by omega
      have hneg' : (0 : Int) ≤ b := by omega
      clear h hlong he2
      go_enter Try.func52, Try.ntmps52
      go_wp2_with (go_at_call 75; refine hu.mono ?_; rintro e w2 ⟨rfl, hc2, hg⟩; clear hu)
      go_ret
      rw [HD.out]
      exact ⟨rfl, hg⟩
  · have HD : Hid (rNum b (L.drop t) e = (0, (rUv (L.drop t) e).2.1, (rUv (L.drop t) e).2.2)) := by
      show rNum b (L.drop t) e = _
      by_cases he : e = 0
      · subst he; exact rNum_no he2
      · rw [rNum_bad he, rUv_bad he]
    generalize (rUv (L.drop t) e).1 = N at *
    generalize (rUv (L.drop t) e).2.1 = l2 at *
    generalize (rUv (L.drop t) e).2.2 = e2 at *
    have hne : ((e2 : Int) != 0) = true := by simp; omega
    clear h
    go_enter Try.func52, Try.ntmps52
    go_wp2_with (go_at_call 75; refine hu.mono ?_; rintro e w2 ⟨rfl, hc2, hg⟩; clear hu)
    go_ret
    rw [HD.out]
    exact ⟨rfl, hg⟩

end Go.Proofs.Ytnddhlkdemibgaa
