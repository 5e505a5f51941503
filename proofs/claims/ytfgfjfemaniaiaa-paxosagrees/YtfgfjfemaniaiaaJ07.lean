/-
  5 texts of this proof, one behind the other: WiLead, WiRead, WiTake, PxPlain, PxMem.
-/
import Derived.Test.YtfgfjfemaniaiaaJ06
import Derived.Test.YtfgfjfemaniaiaaJ02
import Derived.Test.YtfgfjfemaniaiaaJ03
import Derived.Test.YtfgfjfemaniaiaaJ05
import Derived.Lib.ConvBytes
import Derived.Laws.ResultCell
/-
  What leading of package wire does: a contract over plain lists ('WiPlain').
  Conditions: bytes that are looked at lie in memory.
-/
namespace Go.Proofs.Ytfgfjfemaniaiaa
open Go.RowKit Wi By
set_option linter.unusedVariables false
set_option linter.unusedSimpArgs false
set_option maxRecDepth 100000

def ld (l : List Nat) : Nat × Nat := match lead l with | none => (0, 0) | some q => q

theorem ld_none {l : List Nat} (h : lead l = none) : ld l = (0, 0) := by unfold ld; rw [h]
theorem ld_some {l : List Nat} {q : Nat × Nat} (h : lead l = some q) : ld l = q := by unfold ld; rw [h]

theorem or_add (N d s : Nat) (h : N < 2 ^ s) : N ||| d * 2 ^ s = N + d * 2 ^ s := by
  have := Nat.two_pow_add_eq_or_of_lt h d
  rw [Nat.or_comm, Nat.mul_comm d, ← this, Nat.add_comm]

/- One digit more, by shifting and by or. -/
theorem digit_or (N d s : Nat) (hN : N < 18446744073709551616) : ∃ N2 : Nat, bits .or .u64 (N : Int) (IntKind.u64.wrap ((d : Int) * 2 ^ s)) = (N2 : Int) ∧ N2 < 18446744073709551616 ∧ (N < 2 ^ s → d * 2 ^ s < 18446744073709551616 → N2 = N + d * 2 ^ s) := by
  have e : IntKind.u64.wrap ((d : Int) * 2 ^ s) = ((d * 2 ^ s % 18446744073709551616 : Nat) : Int) := by
    rw [IntKind.wrap_u64, Int.natCast_emod, Int.natCast_mul, Int.natCast_pow]
    rfl
  refine ⟨N ||| (d * 2 ^ s % 18446744073709551616), ?_, ?_, fun h1 h2 => ?_⟩
  · rw [e]
    exact u64_or_nat N _ hN (Nat.mod_lt _ (by omega))
  · exact Nat.or_lt_two_pow (n := 64) hN (Nat.mod_lt _ (by omega))
  · rw [Nat.mod_eq_of_lt h2]
    exact or_add N d s h1

theorem drop_cons {l : List Nat} {k : Nat} (h : k < l.length) : l.drop k = gl l k :: l.drop (k + 1) := by
  rw [List.drop_eq_getElem_cons h]
  simp [gl, h]

def Lead (l : List Nat) (k N : Nat) : Prop := (k ≤ 9 ∧ leadF (l.drop k) k N = lead l ∧ N < 128 ^ k) ∨ (k = 10 ∧ lead l = none)

theorem pow7 (k : Nat) : 128 ^ k = 2 ^ (7 * k) := by rw [Nat.pow_mul]

theorem lead_more {l : List Nat} {k N N2 : Nat} (h : Lead l k N) (hk : k < l.length) (hk9 : k ≤ 9) (hv : 128 ≤ gl l k) (hv2 : gl l k < 256)
    (hN2 : N < 2 ^ (7 * k) → (gl l k - 128) * 2 ^ (7 * k) < 18446744073709551616 → N2 = N + (gl l k - 128) * 2 ^ (7 * k)) : Lead l (k + 1) N2 := by
  rcases h with ⟨_, h1, h2⟩ | ⟨h1, _⟩
  · rw [drop_cons hk, leadF, if_neg (by omega), if_pos hv] at h1
    by_cases h8 : k ≤ 8
    · left
      have hp : 128 ^ k ≤ 128 ^ 8 := Nat.pow_le_pow_right (by omega) h8
      have hm : (gl l k - 128) * 128 ^ k ≤ 127 * 128 ^ k := Nat.mul_le_mul_right _ (by omega)
      have e := hN2 (by rw [← pow7]; exact h2) (by rw [← pow7]; omega)
      rw [← pow7] at e
      refine ⟨by omega, by rw [e]; exact h1, ?_⟩
      rw [e, Nat.pow_succ]
      omega
    · right
      refine ⟨by omega, ?_⟩
      rw [← h1]
      exact leadF_ten _ _ _ (by omega)
  · omega

theorem lead_bad {l : List Nat} {k N : Nat} (h : Lead l k N) (hk : k < l.length) (hk9 : k ≤ 9) (hv : gl l k < 128) (hb : (0 < k ∧ gl l k = 0) ∨ (k = 9 ∧ 1 < gl l k)) : ld l = (0, 0) := by
  rcases h with ⟨_, h1, h2⟩ | ⟨h1, _⟩
  · rw [drop_cons hk, leadF, if_neg (by omega), if_neg (by omega), if_pos hb] at h1
    exact ld_none h1.symm
  · omega

theorem lead_good {l : List Nat} {k N N2 : Nat} (h : Lead l k N) (hk : k < l.length) (hk9 : k ≤ 9) (hv : gl l k < 128) (hb : ¬ ((0 < k ∧ gl l k = 0) ∨ (k = 9 ∧ 1 < gl l k)))
    (hN2 : N < 2 ^ (7 * k) → gl l k * 2 ^ (7 * k) < 18446744073709551616 → N2 = N + gl l k * 2 ^ (7 * k)) : ld l = (N2, k + 1) := by
  rcases h with ⟨_, h1, h2⟩ | ⟨h1, _⟩
  · rw [drop_cons hk, leadF, if_neg (by omega), if_neg (by omega), if_neg hb] at h1
    have e := hN2 (by rw [← pow7]; exact h2) (by
      rw [← pow7]
      by_cases h9 : k = 9
      · subst h9
        have : gl l 9 ≤ 1 := by omega
        omega
      · have hp : 128 ^ k ≤ 128 ^ 8 := Nat.pow_le_pow_right (by omega) (by omega)
        have hm : gl l k * 128 ^ k ≤ 127 * 128 ^ k := Nat.mul_le_mul_right _ (by omega)
        omega)
    rw [← pow7] at e
    rw [ld_some h1.symm, e]
  · omega

theorem lead_over {l : List Nat} {k N : Nat} (h : Lead l k N) (hk : l.length ≤ k ∨ k = 10) : ld l = (0, 0) := by
  rcases h with ⟨h0, h1, h2⟩ | ⟨h1, h2⟩
  · rw [List.drop_eq_nil_of_le (by omega)] at h1
    exact ld_none h1.symm
  · exact ld_none h2

set_option maxHeartbeats 1000000 in
set_option maxRecDepth 100000 in
theorem leading_short (b o n c : Nat) (l : List Nat) (w : World) (hl : Sl w (some ⟨b, o, none⟩) n c l) (hn : n ≤ 140737488355328) (hle : n ≤ 10) :
    Calls Try.prog 80 #[.slice (some ⟨b, o, none⟩) n c] w fun e w' => e = .returned (.tuple #[.int .u64 ((ld l).1 : Int), .int .i64 ((ld l).2 : Int)]) ∧ w' = w := by
  have hcut : ∀ v : World, (Instr.slice 35 (.slice (some ⟨b, o, none⟩) n c) none (some (.int .i64 (n : Int))) none).run Try.prog v = .ok (.slice (some ⟨b, o, none⟩) n c) v := fun v => cut_head (some ⟨b, o, none⟩) n c n v (by have := hl.le; omega)
  have Hl : Hid (Sl w (some ⟨b, o, none⟩) n c l) := hl
  have hlen := hl.len
  clear hl
  go_enter Try.func80, Try.ntmps80
  go_wp2_with fail
  go_loop [4, 13] (fun a i => ∃ k N : Nat, k ≤ n ∧ N < 18446744073709551616 ∧ a = .int .u64 N ∧ i = .int .i64 k ∧ Hid (Lead l k N)) (fun _ i => n - (intOf i).toNat)
  case atStart => exact ⟨0, 0, by omega, by omega, rfl, rfl, .inl ⟨by omega, rfl, by simp⟩⟩
  case round =>
    obtain ⟨k, N, hk, hN, rfl, rfl, HR⟩ := hrel
    clear hcut
    by_cases hlt : k < n
    · have hx1 : w.cell? ⟨b, o + k, none⟩ = some (.int .u8 (gl l k : Int)) := by
        rcases Hl.out.row with h0 | ⟨b', o', ha, _, hc⟩
        · omega
        · cases ha
          exact hc k (by omega)
      have hv := gl_lt Hl.out.lt k
      have hkl : k < l.length := by omega
      obtain ⟨s, hs⟩ : ∃ s : Nat, s = 7 * k := ⟨_, rfl⟩
      have hs7 : (7 : Int) * (k : Int) = (s : Int) := by omega
      have hs64 : s < 64 := by omega
      by_cases h128 : 128 ≤ gl l k
      · obtain ⟨u, hu⟩ : ∃ u : Nat, u = gl l k - 128 := ⟨_, rfl⟩
        have hu1 : (gl l k : Int) - 128 = (u : Int) := by omega
        have hu2 : u < 128 := by omega
        obtain ⟨N2, hor, hN2, he⟩ := digit_or N u s hN
        have HS : Hid (Lead l (k + 1) N2) := lead_more HR.out hkl (by omega) h128 hv (by rw [← hs, ← hu]; exact he)
        clear he HR Hl hu hs hkl hlen
        generalize gl l k = v at *
        go_wp2_with fail
        go_round
        case rel => exact ⟨k + 1, N2, by omega, hN2, rfl, by go_num, HS⟩
        case measure => simp [intOf]; omega
      · by_cases hbad : (0 < k ∧ gl l k = 0) ∨ (k = 9 ∧ 1 < gl l k)
        · have HD : Hid (ld l = (0, 0)) := lead_bad HR.out hkl (by omega) (by omega) hbad
          clear HR Hl hs hkl hlen
          rcases hbad with ⟨hk0, hv0⟩ | ⟨hk9, hv1⟩
          · rw [hv0] at hx1
            clear h128 hv hv0
            go_wp2_with fail
            go_ret2
            exact ⟨by rw [HD.out]; rfl, rfl⟩
          · generalize gl l k = v at *
            subst hk9
            go_wp2_with fail
            go_ret2
            exact ⟨by rw [HD.out]; rfl, rfl⟩
        · obtain ⟨N2, hor, hN2, he⟩ := digit_or N (gl l k) s hN
          have HD : Hid (ld l = (N2, k + 1)) := lead_good HR.out hkl (by omega) (by omega) hbad (N2 := N2) (by rw [← hs]; exact he)
          obtain ⟨k1, hk1⟩ : ∃ k1 : Nat, k1 = k + 1 := ⟨_, rfl⟩
          have hk1i : (k : Int) + 1 = (k1 : Int) := by omega
          rw [← hk1] at HD
          clear he HR Hl hs hkl hlen hk1
          generalize gl l k = v at *
          by_cases hk0 : k = 0
          · have hz : (k : Int) < 1 := by omega
            have hz9 : ((k : Int) == 9) = false := by simp; omega
            clear hbad hk0
            go_wp2_with fail
            go_ret2
            exact ⟨by rw [HD.out]; rfl, rfl⟩
          · have hv0 : 0 < v := by omega
            have hk0' : 0 < k := by omega
            by_cases hk9 : k = 9
            · have hv1 : v < 2 := by omega
              have hvb : ((v : Int) == 0) = false := by simp; omega
              have hvc : decide ((1 : Int) < (v : Int)) = false := by simp; omega
              have hz9 : ((k : Int) == 9) = true := by simp; omega
              clear hbad hk0 hk9
              go_wp2_with fail
              go_ret2
              exact ⟨by rw [HD.out]; rfl, rfl⟩
            · have hz9 : ((k : Int) == 9) = false := by simp; omega
              clear hbad hk0
              go_wp2_with fail
              go_ret2
              exact ⟨by rw [HD.out]; rfl, rfl⟩
    · have hk2 : k = n := by omega
      subst hk2
      have HD : Hid (ld l = (0, 0)) := lead_over HR.out (by omega)
      clear HR Hl hlen
      go_wp2_with fail
      go_ret2
      exact ⟨by rw [HD.out]; rfl, rfl⟩

set_option maxHeartbeats 1000000 in
set_option maxRecDepth 100000 in
theorem leading_long (b o n c : Nat) (l : List Nat) (w : World) (hl : Sl w (some ⟨b, o, none⟩) n c l) (hn : n ≤ 140737488355328) (hle : 10 < n) :
    Calls Try.prog 80 #[.slice (some ⟨b, o, none⟩) n c] w fun e w' => e = .returned (.tuple #[.int .u64 ((ld l).1 : Int), .int .i64 ((ld l).2 : Int)]) ∧ w' = w := by
  have hcut : ∀ v : World, (Instr.slice 35 (.slice (some ⟨b, o, none⟩) n c) none (some (.int .i64 (10 : Int))) none).run Try.prog v = .ok (.slice (some ⟨b, o, none⟩) 10 c) v := fun v => cut_head (some ⟨b, o, none⟩) n c 10 v (by have := hl.le; omega)
  have Hl : Hid (Sl w (some ⟨b, o, none⟩) n c l) := hl
  have hlen := hl.len
  clear hl
  go_enter Try.func80, Try.ntmps80
  go_wp2_with fail
  go_loop [4, 13] (fun a i => ∃ k N : Nat, k ≤ 10 ∧ N < 18446744073709551616 ∧ a = .int .u64 N ∧ i = .int .i64 k ∧ Hid (Lead l k N)) (fun _ i => 10 - (intOf i).toNat)
  case atStart => exact ⟨0, 0, by omega, by omega, rfl, rfl, .inl ⟨by omega, rfl, by simp⟩⟩
  case round =>
    obtain ⟨k, N, hk, hN, rfl, rfl, HR⟩ := hrel
    clear hcut
    by_cases hlt : k < 10
    · have hx1 : w.cell? ⟨b, o + k, none⟩ = some (.int .u8 (gl l k : Int)) := by
        rcases Hl.out.row with h0 | ⟨b', o', ha, _, hc⟩
        · omega
        · cases ha
          exact hc k (by omega)
      have hv := gl_lt Hl.out.lt k
      have hkl : k < l.length := by omega
      obtain ⟨s, hs⟩ : ∃ s : Nat, s = 7 * k := ⟨_, rfl⟩
      have hs7 : (7 : Int) * (k : Int) = (s : Int) := by omega
      have hs64 : s < 64 := by omega
      by_cases h128 : 128 ≤ gl l k
      · obtain ⟨u, hu⟩ : ∃ u : Nat, u = gl l k - 128 := ⟨_, rfl⟩
        have hu1 : (gl l k : Int) - 128 = (u : Int) := by omega
        have hu2 : u < 128 := by omega
        obtain ⟨N2, hor, hN2, he⟩ := digit_or N u s hN
        have HS : Hid (Lead l (k + 1) N2) := lead_more HR.out hkl (by omega) h128 hv (by rw [← hs, ← hu]; exact he)
        clear he HR Hl hu hs hkl hlen
        generalize gl l k = v at *
        go_wp2_with fail
        go_round
        case rel => exact ⟨k + 1, N2, by omega, hN2, rfl, by go_num, HS⟩
        case measure => simp [intOf]; omega
      · by_cases hbad : (0 < k ∧ gl l k = 0) ∨ (k = 9 ∧ 1 < gl l k)
        · have HD : Hid (ld l = (0, 0)) := lead_bad HR.out hkl (by omega) (by omega) hbad
          clear HR Hl hs hkl hlen
          rcases hbad with ⟨hk0, hv0⟩ | ⟨hk9, hv1⟩
          · rw [hv0] at hx1
            clear h128 hv hv0
            go_wp2_with fail
            go_ret2
            exact ⟨by rw [HD.out]; rfl, rfl⟩
          · generalize gl l k = v at *
            subst hk9
            go_wp2_with fail
            go_ret2
            exact ⟨by rw [HD.out]; rfl, rfl⟩
        · obtain ⟨N2, hor, hN2, he⟩ := digit_or N (gl l k) s hN
          have HD : Hid (ld l = (N2, k + 1)) := lead_good HR.out hkl (by omega) (by omega) hbad (N2 := N2) (by rw [← hs]; exact he)
          obtain ⟨k1, hk1⟩ : ∃ k1 : Nat, k1 = k + 1 := ⟨_, rfl⟩
          have hk1i : (k : Int) + 1 = (k1 : Int) := by omega
          rw [← hk1] at HD
          clear he HR Hl hs hkl hlen hk1
          generalize gl l k = v at *
          by_cases hk0 : k = 0
          · have hz : (k : Int) < 1 := by omega
            have hz9 : ((k : Int) == 9) = false := by simp; omega
            clear hbad hk0
            go_wp2_with fail
            go_ret2
            exact ⟨by rw [HD.out]; rfl, rfl⟩
          · have hv0 : 0 < v := by omega
            have hk0' : 0 < k := by omega
            by_cases hk9 : k = 9
            · have hv1 : v < 2 := by omega
              have hvb : ((v : Int) == 0) = false := by simp; omega
              have hvc : decide ((1 : Int) < (v : Int)) = false := by simp; omega
              have hz9 : ((k : Int) == 9) = true := by simp; omega
              clear hbad hk0 hk9
              go_wp2_with fail
              go_ret2
              exact ⟨by rw [HD.out]; rfl, rfl⟩
            · have hz9 : ((k : Int) == 9) = false := by simp; omega
              clear hbad hk0
              go_wp2_with fail
              go_ret2
              exact ⟨by rw [HD.out]; rfl, rfl⟩
    · have hk2 : k = 10 := by omega
      subst hk2
      have HD : Hid (ld l = (0, 0)) := lead_over HR.out (by omega)
      clear HR Hl hlen
      go_wp2_with fail
      go_ret2
      exact ⟨by rw [HD.out]; rfl, rfl⟩

theorem leading_none (x : Option Addr) (c : Nat) (w : World) :
    Calls Try.prog 80 #[.slice x 0 c] w fun e w' => e = .returned (.tuple #[.int .u64 0, .int .i64 0]) ∧ w' = w := by
  have hcut : ∀ v : World, (Instr.slice 35 (.slice x 0 c) none (some (.int .i64 0)) none).run Try.prog v = .ok (.slice x 0 c) v := fun v => cut_head x 0 c 0 v (by omega)
  go_enter Try.func80, Try.ntmps80
  go_wp2_with fail
  refine wp_loop_rounds 1 ?_
  rw [rounds_succ]
  go_wp2_with fail
  go_ret2
  exact ⟨rfl, rfl⟩

theorem leading_any (x : Option Addr) (n c : Nat) (l : List Nat) (w : World) (hl : Sl w x n c l) (hn : n ≤ 140737488355328) :
    Calls Try.prog 80 #[.slice x n c] w fun e w' => e = .returned (.tuple #[.int .u64 ((ld l).1 : Int), .int .i64 ((ld l).2 : Int)]) ∧ w' = w := by
  by_cases h0 : n = 0
  · subst h0
    have : l = [] := List.eq_nil_of_length_eq_zero hl.len
    subst this
    exact leading_none x c w
  · rcases hl.row with h | ⟨b, o, rfl, _, _⟩
    · exact absurd h h0
    · by_cases h10 : n ≤ 10
      · exact leading_short b o n c l w hl hn h10
      · exact leading_long b o n c l w hl hn (by omega)

end Go.Proofs.Ytfgfjfemaniaiaa

/-
  What Read and the reader's methods of package wire do: contracts over plain lists ('WiPlain').
  Conditions: bytes that are looked at lie in memory.
-/
namespace Go.Proofs.Ytfgfjfemaniaiaa
open Go.RowKit Wi By
set_option linter.unusedVariables false
set_option linter.unusedSimpArgs false
set_option maxRecDepth 100000

/- A list that is a part of another one: in the same block. -/
def From (x x' : Option Addr) : Prop := ∀ a', x' = some a' → ∃ a, x = some a ∧ a.block = a'.block

theorem From.refl (x : Option Addr) : From x x := fun a h => ⟨a, h, rfl⟩
theorem From.trans {x y z : Option Addr} (h : From x y) (k : From y z) : From x z := fun a ha => by
  obtain ⟨b, hb, e⟩ := k a ha
  obtain ⟨c, hc, e2⟩ := h b hb
  exact ⟨c, hc, e2.trans e⟩
theorem From.cut (x : Option Addr) (c k : Nat) : From x (cutTo x c k) := fun a ha => cutTo_block ha
theorem From.ap {x y : Option Addr} {p : Nat} (h : From x y) (hx : ∀ a, x = some a → a.block ≠ p) : ∀ a, y = some a → a.block ≠ p := fun a ha => by
  obtain ⟨b, hb, e⟩ := h a ha
  rw [← e]
  exact hx b hb

def PGo (w w' : World) (p : Nat) (x : Option Addr) (l' : List Nat) (e' : Nat) : Prop := Turn p w w' ∧ ∃ x' n' c', PRd w' p x' n' c' l' e' ∧ From x x'

/- bytes.Clone, in new memory. -/
theorem clone_sl (x : Option Addr) (n c : Nat) (l : List Nat) (w : World) (hl : Sl w x n c l) (hn : n ≤ 140737488355328) :
    Calls Try.prog 60 #[.slice x n c] w fun e w' => ∃ y cy, e = .returned (.slice y n cy) ∧ Below w.heap.size w w' ∧ Sl w' y n cy l ∧ ∀ a, y = some a → w.heap.size ≤ a.block ∧ a.block < w'.heap.size := by
  cases x with
  | none =>
    obtain ⟨rfl, rfl⟩ := hl.nil' rfl
    have h0 : l = [] := List.eq_nil_of_length_eq_zero hl.len
    subst h0
    exact (clone_nil w).mono fun e w' h => ⟨none, 0, h.1, by rw [h.2]; exact Below.refl _ _, Sl.empty _, fun a ha => by cases ha⟩
  | some ad =>
    obtain ⟨g, cy, w', hrun, h1, h0, h2, h3, h4, h5⟩ := bytes_copy w (some ad) n c (gl l) hl.row (fun h => by cases h) hn
    have hcy : n ≤ cy := by
      rcases h0.2 with ⟨h, _⟩ | ⟨g', c', cur, h, _, _, hc, _⟩
      · cases h
      · injection h with _ _ h; rw [h]; exact hc
    have H1 : Hid (Below w.heap.size w w' ∧ Sl w' (some ⟨g, 0, none⟩) n cy l) := ⟨h1, hl.len, hcy, (fun h => by cases h), h5, hl.lt⟩
    have he : ∀ w : World, (binOp .eql 35 (.slice (some ad) n c) (.slice none 0 0)).run Try.prog w = .ok (.bool false) w := fun _ => by kernel_rfl
    clear h1 h0 h4 h5 hl hcy
    go_enter Try.func60, Try.ntmps60
    go_wp2_with (at_builtin; refine wpList_append_run rfl _ _ 35 rfl _ _ rfl rfl hrun ?_; clear hrun)
    go_ret
    exact ⟨some ⟨g, 0, none⟩, cy, rfl, H1.out.1, H1.out.2, fun a ha => by cases ha; exact ⟨h2, h3⟩⟩

/- Read(b). -/
theorem prd_new (w : World) (y : Option Addr) (n cy : Nat) (l : List Nat) (hy : Sl w y n cy l) (ha : ∀ a, y = some a → a.block < w.heap.size) (hn : n ≤ 140737488355328) :
    PRd (w.alloc (.cells #[.slice y n cy, .int .i64 0] 104)) w.heap.size y n cy l 0 :=
  ⟨by simp, by simp, fun j => frozen_new _ _ _ j, hy.below ((Below.refl _ _).alloc (Nat.le_refl _) _), fun a h => by have := ha a h; omega, hn⟩

theorem read_any (x : Option Addr) (n c : Nat) (l : List Nat) (w : World) (hl : Sl w x n c l) (hn : n ≤ 140737488355328) :
    Calls Try.prog 39 #[.slice x n c] w fun e w' => ∃ p y cy, e = .returned (.pointer (some ⟨p, 0, none⟩)) ∧ w.heap.size ≤ p ∧ Below w.heap.size w w' ∧ PRd w' p y n cy l 0 ∧ ∀ a, y = some a → w.heap.size ≤ a.block ∧ a.block < w'.heap.size := by
  have hc := clone_sl x n c l w hl hn
  clear hl
  go_enter Try.func39, Try.ntmps39
  go_wp2_with (go_at_call 60; refine hc.mono ?_; rintro e w2 ⟨y, cy, rfl, hb, hy, ha⟩; clear hc)
  go_ret
  exact ⟨w2.heap.size, y, cy, rfl, hb.size, hb.alloc hb.size _, prd_new w2 y n cy l hy (fun a h => (ha a h).2) hn, fun a h => ⟨(ha a h).1, by have := (ha a h).2; simp; omega⟩⟩

/- Err, Left, Done. -/
theorem perr_any (p e : Nat) (w : World) (hc : w.cell? ⟨p, 1, none⟩ = some (.int .i64 (e : Int))) :
    Calls Try.prog 61 #[.pointer (some ⟨p, 0, none⟩)] w fun ed w' => ed = .returned (.int .i64 (e : Int)) ∧ w' = w := by
  go_enter Try.func61, Try.ntmps61
  go_wp2_with fail
  go_ret
  exact ⟨rfl, rfl⟩

theorem pleft_any (p n c : Nat) (x : Option Addr) (w : World) (hc : w.cell? ⟨p, 0, none⟩ = some (.slice x n c)) :
    Calls Try.prog 65 #[.pointer (some ⟨p, 0, none⟩)] w fun ed w' => ed = .returned (.int .i64 (n : Int)) ∧ w' = w := by
  go_enter Try.func65, Try.ntmps65
  go_wp2_with fail
  go_ret
  exact ⟨rfl, rfl⟩

theorem pdone_any (p n c e : Nat) (x : Option Addr) (l : List Nat) (w : World) (h : PRd w p x n c l e) :
    Calls Try.prog 45 #[.pointer (some ⟨p, 0, none⟩)] w fun ed w' => ed = .returned (.int .i64 (rDone l e : Int)) ∧ w' = w := by
  have h1 := perr_any p e w h.wrong
  have h2 := pleft_any p n c x w h.rest
  have hlen := h.sl.len
  by_cases he : e = 0
  · subst he
    by_cases h0 : n = 0
    · have HD : Hid (rDone l 0 = 0) := (by unfold rDone; rw [if_neg (by omega), if_neg (by omega)] : rDone l 0 = 0)
      subst h0
      clear h
      go_enter Try.func45, Try.ntmps45
      go_wp2_with (first
        | (go_at_call 61; refine h1.mono ?_; rintro e w' ⟨rfl, rfl⟩; clear h1)
        | (go_at_call 65; refine h2.mono ?_; rintro e w' ⟨rfl, rfl⟩; clear h2))
      go_ret
      exact ⟨by rw [HD.out]; rfl, rfl⟩
    · have HD : Hid (rDone l 0 = 5) := (by unfold rDone; rw [if_neg (by omega), if_pos (by omega)] : rDone l 0 = 5)
      have hpos : 0 < n := by omega
      clear h
      go_enter Try.func45, Try.ntmps45
      go_wp2_with (first
        | (go_at_call 61; refine h1.mono ?_; rintro e w' ⟨rfl, rfl⟩; clear h1)
        | (go_at_call 65; refine h2.mono ?_; rintro e w' ⟨rfl, rfl⟩; clear h2))
      go_ret
      exact ⟨by rw [HD.out]; rfl, rfl⟩
  · have HD : Hid (rDone l e = e) := (by unfold rDone; rw [if_pos he] : rDone l e = e)
    have hne : ((e : Int) != 0) = true := by simp; omega
    clear h h2
    go_enter Try.func45, Try.ntmps45
    go_wp2_with (go_at_call 61; refine h1.mono ?_; rintro e w' ⟨rfl, rfl⟩; clear h1)
    go_ret
    exact ⟨by rw [HD.out]; rfl, rfl⟩

/- Uvarint(). -/
theorem puv_any (p n c e : Nat) (x : Option Addr) (l : List Nat) (w : World) (h : PRd w p x n c l e) :
    Calls Try.prog 62 #[.pointer (some ⟨p, 0, none⟩)] w fun ed w' => ed = .returned (.int .u64 ((rUv l e).1 : Int)) ∧ PGo w w' p x (rUv l e).2.1 (rUv l e).2.2 := by
  have h1 := perr_any p e w h.wrong
  have hsm := h.small
  by_cases he : e = 0
  · subst he
    have h2 := leading_any x n c l w h.sl hsm
    have hc0 := h.rest
    have hc1 := h.wrong
    have hf0 := h.fr 0
    have hf1 := h.fr 1
    cases hl : lead l with
    | none =>
      rw [ld_none hl] at h2
      have HD : Hid (rUv l 0 = (0, l, 5) ∧ PGo w (w.setCell ⟨p, 1, none⟩ (.int .i64 5)) p x l 5) := ⟨rUv_no hl, (Turn.refl p w).setCell rfl _, x, n, c, h.setWrong 5, From.refl x⟩
      clear h hl
      go_enter Try.func62, Try.ntmps62
      go_wp2_with (first
        | (go_at_call 61; refine h1.mono ?_; rintro e w' ⟨rfl, rfl⟩; clear h1)
        | (go_at_call 80; refine h2.mono ?_; rintro e w' ⟨rfl, rfl⟩; clear h2))
      go_ret
      rw [HD.out.1]
      exact ⟨rfl, HD.out.2⟩
    | some q =>
      obtain ⟨N, k⟩ := q
      rw [ld_some hl] at h2
      have hk := (lead_canon h.sl.lt hl).2.2.1
      have hN := (lead_canon h.sl.lt hl).2.2.2
      have hkp := lead_pos h.sl.lt hl
      rw [h.sl.len] at hk
      have hcut := fun v => wcut_from x n c k v hk
      have hk0 : ((k : Int) == 0) = false := by simp; omega
      have HD : Hid (rUv l 0 = (N, l.drop k, 0) ∧ PGo w (w.setCell ⟨p, 0, none⟩ (.slice (cutTo x c k) (n - k) (c - k))) p x (l.drop k) 0) :=
        ⟨rUv_yes hl, (Turn.refl p w).setCell rfl _, _, _, _, h.setRest (h.sl.from k hk) ((From.cut x c k).ap h.ap) (by omega), From.cut x c k⟩
      clear h hl
      go_enter Try.func62, Try.ntmps62
      go_wp2_with (first
        | (go_at_call 61; refine h1.mono ?_; rintro e w' ⟨rfl, rfl⟩; clear h1)
        | (go_at_call 80; refine h2.mono ?_; rintro e w' ⟨rfl, rfl⟩; clear h2))
      go_ret
      rw [HD.out.1]
      exact ⟨rfl, HD.out.2⟩
  · have HD : Hid (rUv l e = (0, l, e) ∧ PGo w w p x l e) := ⟨rUv_bad he, Turn.refl p w, x, n, c, h, From.refl x⟩
    have hne : ((e : Int) != 0) = true := by simp; omega
    clear h
    go_enter Try.func62, Try.ntmps62
    go_wp2_with (go_at_call 61; refine h1.mono ?_; rintro e w' ⟨rfl, rfl⟩; clear h1)
    go_ret
    rw [HD.out.1]
    exact ⟨rfl, HD.out.2⟩

/- refuse(begin, wrong). -/
theorem prefuse_any (p n c e e' n' c' : Nat) (x x' : Option Addr) (l l' : List Nat) (w : World) (h : PRd w p x n c l e) (hs : Sl w x' n' c' l') (ha : ∀ a, x' = some a → a.block ≠ p) (hn : n' ≤ 140737488355328) :
    Calls Try.prog 63 #[.pointer (some ⟨p, 0, none⟩), .slice x' n' c', .int .i64 (e' : Int)] w fun ed w' => ed = .returned (.tuple #[]) ∧ PGo w w' p x' l' e' := by
  have hc0 := h.rest
  have hf0 := h.fr 0
  have hg := h.setRest hs ha hn
  have hc1 := hg.wrong
  have hf1 := hg.fr 1
  have HD : Hid (PGo w ((w.setCell ⟨p, 0, none⟩ (.slice x' n' c')).setCell ⟨p, 1, none⟩ (.int .i64 (e' : Int))) p x' l' e') := ⟨((Turn.refl p w).setCell rfl _).setCell rfl _, x', n', c', hg.setWrong e', From.refl x'⟩
  clear h hg hs ha
  go_enter Try.func63, Try.ntmps63
  go_wp2_with fail
  go_end0
  exact ⟨rfl, HD.out⟩

end Go.Proofs.Ytfgfjfemaniaiaa

/-
  What the reader's fixed, Fixed4, Fixed8, Byte, Number and Bytes of package wire do: contracts over plain lists ('WiPlain').
  Conditions: bytes that are looked at lie in memory.
-/
namespace Go.Proofs.Ytfgfjfemaniaiaa
open Go.RowKit Wi By
set_option linter.unusedVariables false
set_option linter.unusedSimpArgs false
set_option maxRecDepth 100000

theorem pow8 (k : Nat) : 256 ^ k = 2 ^ (8 * k) := by rw [Nat.pow_mul]

theorem le_digit {l : List Nat} {k N N2 : Nat} (hl : ∀ v ∈ l, v < 256) (hk : k < l.length) (hk7 : k ≤ 7) (hN : N = le (l.take k))
    (h : N < 2 ^ (8 * k) → gl l k * 2 ^ (8 * k) < 18446744073709551616 → N2 = N + gl l k * 2 ^ (8 * k)) : N2 = le (l.take (k + 1)) := by
  have h1 : le (l.take k) < 256 ^ (l.take k).length := le_lt _ (fun v hv => hl v (List.mem_of_mem_take hv))
  rw [List.length_take, Nat.min_eq_left (by omega)] at h1
  have hv := gl_lt hl k
  have hp : 256 ^ k ≤ 256 ^ 7 := Nat.pow_le_pow_right (by omega) hk7
  have hm : gl l k * 256 ^ k ≤ 255 * 256 ^ k := Nat.mul_le_mul_right _ (by omega)
  have e := h (by rw [← pow8, hN]; exact h1) (by rw [← pow8]; omega)
  rw [e, ← pow8, hN, le_take_succ l k hk]
  rfl

theorem rFx_bad {s : Nat} {l : List Nat} {e : Nat} (h : e ≠ 0) : rFx s l e = (0, l, e) := by unfold rFx; rw [if_pos h]
theorem rFx_no {s : Nat} {l : List Nat} (h : l.length < s) : rFx s l 0 = (0, l, 5) := by unfold rFx; rw [if_neg (by omega), if_pos h]
theorem rFx_yes {s : Nat} {l : List Nat} (h : s ≤ l.length) : rFx s l 0 = (le (l.take s), l.drop s, 0) := by unfold rFx; rw [if_neg (by omega), if_neg (by omega)]

theorem rFx_lt (s : Nat) (l : List Nat) (e : Nat) (hl : ∀ v ∈ l, v < 256) (hs : 0 < s) : (rFx s l e).1 < 256 ^ s := by
  by_cases h : e = 0
  · subst h
    by_cases h2 : l.length < s
    · rw [rFx_no h2]; exact Nat.pow_pos (by omega)
    · rw [rFx_yes (by omega)]
      have := le_lt (l.take s) (fun v hv => hl v (List.mem_of_mem_take hv))
      rw [List.length_take, Nat.min_eq_left (by omega)] at this
      exact this
  · rw [rFx_bad h]; exact Nat.pow_pos (by omega)

/- Number(most). -/
theorem rNum_bad {t : Int} {l : List Nat} {e : Nat} (h : e ≠ 0) : rNum t l e = (0, l, e) := by unfold rNum; rw [if_pos h]
theorem rNum_no {t : Int} {l : List Nat} (h : (rUv l 0).2.2 ≠ 0) : rNum t l 0 = (0, (rUv l 0).2.1, (rUv l 0).2.2) := by unfold rNum; rw [if_neg (by omega), if_pos h]
theorem rNum_long {t : Int} {l : List Nat} (h : (rUv l 0).2.2 = 0) (ht : t < 0 ∨ t < ((rUv l 0).1 : Int)) : rNum t l 0 = (0, l, 3) := by unfold rNum; rw [if_neg (by omega), if_neg (by omega), if_pos ht]
theorem rNum_yes {t : Int} {l : List Nat} (h : (rUv l 0).2.2 = 0) (ht : ¬ (t < 0 ∨ t < ((rUv l 0).1 : Int))) : rNum t l 0 = rUv l 0 := by unfold rNum; rw [if_neg (by omega), if_neg (by omega), if_neg ht]

theorem rNum_lt (t : Int) (l : List Nat) (e : Nat) (ht : t ≤ 9223372036854775807) : (rNum t l e).1 < 9223372036854775808 := by
  by_cases h : e = 0
  · subst h
    by_cases h2 : (rUv l 0).2.2 = 0
    · by_cases h3 : t < 0 ∨ t < ((rUv l 0).1 : Int)
      · rw [rNum_long h2 h3]; show 0 < _; omega
      · rw [rNum_yes h2 h3]; omega
    · rw [rNum_no h2]; show 0 < _; omega
  · rw [rNum_bad h]; show 0 < _; omega

theorem pnum_any (p n c e : Nat) (t : Int) (x : Option Addr) (l : List Nat) (w : World) (h : PRd w p x n c l e) (ht1 : -9223372036854775808 ≤ t) (ht2 : t ≤ 9223372036854775807) :
    Calls Try.prog 40 #[.pointer (some ⟨p, 0, none⟩), .int .i64 t] w fun ed w' => ed = .returned (.int .i64 ((rNum t l e).1 : Int)) ∧ PGo w w' p x (rNum t l e).2.1 (rNum t l e).2.2 := by
  have h1 := perr_any p e w h.wrong
  have hsm := h.small
  by_cases he : e = 0
  · subst he
    have hc0 := h.rest
    have hu : Calls Try.prog 62 #[.pointer (some ⟨p, 0, none⟩)] w fun ed w' => ed = .returned (.int .u64 ((rUv l 0).1 : Int)) ∧ w'.cell? ⟨p, 1, none⟩ = some (.int .i64 ((rUv l 0).2.2 : Int)) ∧ PGo w w' p x (rUv l 0).2.1 (rUv l 0).2.2 :=
      (puv_any p n c 0 x l w h).mono fun ed w' ⟨h1, h2⟩ => ⟨h1, by obtain ⟨_, x', n', c', h3, _⟩ := h2; exact h3.wrong, h2⟩
    have hN := rUv_lt l 0 h.sl.lt
    by_cases he2 : (rUv l 0).2.2 = 0
    · by_cases hlong : t < 0 ∨ t < ((rUv l 0).1 : Int)
      · have HD : Hid (rNum t l 0 = (0, l, 3)) := rNum_long he2 hlong
        have hr : ∀ v, PGo w v p x (rUv l 0).2.1 (rUv l 0).2.2 → Calls Try.prog 63 #[.pointer (some ⟨p, 0, none⟩), .slice x n c, .int .i64 3] v fun ed w' => ed = .returned (.tuple #[]) ∧ PGo w w' p x l 3 := fun v hv => by
          obtain ⟨t1, x', n', c', h3, h4⟩ := hv
          exact (prefuse_any p n' c' _ 3 n c x' x _ l v h3 (h.sl.turn t1 h.ap) h.ap hsm).mono fun ed w' ⟨h5, h6⟩ => ⟨h5, t1.trans h6.1, h6.2⟩
        rw [he2] at hu hr
        generalize (rUv l 0).1 = N at *
        generalize (rUv l 0).2.1 = l2 at *
        clear h he2
        by_cases hneg : t < 0
        · clear hlong
          go_enter Try.func40, Try.ntmps40
          go_wp2_with (first
            | (go_at_call 61; refine h1.mono ?_; rintro e w' ⟨rfl, rfl⟩; clear h1)
            | (go_at_call 62; refine hu.mono ?_; rintro e w2 ⟨rfl, hc2, hg⟩; clear hu)
            | (go_at_call 63; refine (hr _ hg).mono ?_; rintro e w3 ⟨rfl, hg3⟩; clear hr))
          go_ret
          rw [HD.out]
          exact ⟨rfl, hg3⟩
        · have hl2 : t < (N : Int) := by omega
          have hneg' : (0 : Int) ≤ t := by omega
          clear hlong hneg
          go_enter Try.func40, Try.ntmps40
          go_wp2_with (first
            | (go_at_call 61; refine h1.mono ?_; rintro e w' ⟨rfl, rfl⟩; clear h1)
            | (go_at_call 62; refine hu.mono ?_; rintro e w2 ⟨rfl, hc2, hg⟩; clear hu)
            | (go_at_call 63; refine (hr _ hg).mono ?_; rintro e w3 ⟨rfl, hg3⟩; clear hr))
          go_ret
          rw [HD.out]
          exact ⟨rfl, hg3⟩
      · have HD : Hid (rNum t l 0 = ((rUv l 0).1, (rUv l 0).2.1, 0)) := by
          show rNum t l 0 = _
          rw [rNum_yes he2 hlong]
          exact Prod.ext rfl (Prod.ext rfl he2)
        rw [he2] at hu
        generalize (rUv l 0).1 = N at *
        generalize (rUv l 0).2.1 = l2 at *
        have hl2 : (N : Int) ≤ t := by omega
        have hneg' : (0 : Int) ≤ t := by omega
        clear h hlong he2
        go_enter Try.func40, Try.ntmps40
        go_wp2_with (first
          | (go_at_call 61; refine h1.mono ?_; rintro e w' ⟨rfl, rfl⟩; clear h1)
          | (go_at_call 62; refine hu.mono ?_; rintro e w2 ⟨rfl, hc2, hg⟩; clear hu))
        go_ret
        rw [HD.out]
        exact ⟨rfl, hg⟩
    · have HD : Hid (rNum t l 0 = (0, (rUv l 0).2.1, (rUv l 0).2.2)) := rNum_no he2
      generalize (rUv l 0).1 = N at *
      generalize (rUv l 0).2.1 = l2 at *
      generalize (rUv l 0).2.2 = e2 at *
      have hne : ((e2 : Int) != 0) = true := by simp; omega
      clear h
      go_enter Try.func40, Try.ntmps40
      go_wp2_with (first
        | (go_at_call 61; refine h1.mono ?_; rintro e w' ⟨rfl, rfl⟩; clear h1)
        | (go_at_call 62; refine hu.mono ?_; rintro e w2 ⟨rfl, hc2, hg⟩; clear hu))
      go_ret
      rw [HD.out]
      exact ⟨rfl, hg⟩
  · have HD : Hid (rNum t l e = (0, l, e) ∧ PGo w w p x l e) := ⟨rNum_bad he, Turn.refl p w, x, n, c, h, From.refl x⟩
    have hne : ((e : Int) != 0) = true := by simp; omega
    clear h
    go_enter Try.func40, Try.ntmps40
    go_wp2_with (go_at_call 61; refine h1.mono ?_; rintro e w' ⟨rfl, rfl⟩; clear h1)
    go_ret
    rw [HD.out.1]
    exact ⟨rfl, HD.out.2⟩

/- Bytes(most). -/
theorem rBy_bad {t : Int} {l : List Nat} {e : Nat} (h : e ≠ 0) : rBy t l e = ([], l, e) := by unfold rBy; rw [if_pos h]
theorem rBy_no {t : Int} {l : List Nat} (h : (rNum t l 0).2.2 ≠ 0) : rBy t l 0 = ([], (rNum t l 0).2.1, (rNum t l 0).2.2) := by unfold rBy; rw [if_neg (by omega), if_pos h]
theorem rBy_few {t : Int} {l : List Nat} (h : (rNum t l 0).2.2 = 0) (h2 : (rNum t l 0).2.1.length < (rNum t l 0).1) : rBy t l 0 = ([], l, 5) := by unfold rBy; rw [if_neg (by omega), if_neg (by omega), if_pos h2]
theorem rBy_yes {t : Int} {l : List Nat} (h : (rNum t l 0).2.2 = 0) (h2 : (rNum t l 0).1 ≤ (rNum t l 0).2.1.length) : rBy t l 0 = ((rNum t l 0).2.1.take (rNum t l 0).1, (rNum t l 0).2.1.drop (rNum t l 0).1, 0) := by unfold rBy; rw [if_neg (by omega), if_neg (by omega), if_neg (by omega)]

def PTold (w w' : World) (p : Nat) (x : Option Addr) (v : Value) (k l' : List Nat) (e' : Nat) : Prop := PGo w w' p x l' e' ∧ ∃ y cy, v = .slice y k.length cy ∧ Sl w' y k.length cy k ∧ ∀ a, y = some a → w.heap.size ≤ a.block

theorem pbytes_any (p n c e : Nat) (t : Int) (x : Option Addr) (l : List Nat) (w : World) (h : PRd w p x n c l e) (ht1 : -9223372036854775808 ≤ t) (ht2 : t ≤ 9223372036854775807) :
    Calls Try.prog 44 #[.pointer (some ⟨p, 0, none⟩), .int .i64 t] w fun ed w' => ∃ v, ed = .returned v ∧ PTold w w' p x v (rBy t l e).1 (rBy t l e).2.1 (rBy t l e).2.2 := by
  have h1 := perr_any p e w h.wrong
  have hsm := h.small
  by_cases he : e = 0
  · subst he
    have hc0 := h.rest
    have hu : Calls Try.prog 40 #[.pointer (some ⟨p, 0, none⟩), .int .i64 t] w fun ed w' => ed = .returned (.int .i64 ((rNum t l 0).1 : Int)) ∧ Turn p w w' ∧ ∃ x' c', PRd w' p x' (rNum t l 0).2.1.length c' (rNum t l 0).2.1 (rNum t l 0).2.2 ∧ From x x' :=
      (pnum_any p n c 0 t x l w h ht1 ht2).mono fun ed w' ⟨h1, h2, x', n', c', h3, h4⟩ => ⟨h1, h2, x', c', by rw [h3.sl.len]; exact h3, h4⟩
    have hN := rNum_lt t l 0 ht2
    by_cases he2 : (rNum t l 0).2.2 = 0
    · by_cases hfew : (rNum t l 0).2.1.length < (rNum t l 0).1
      · have HD : Hid (rBy t l 0 = ([], l, 5)) := rBy_few he2 hfew
        have hr : ∀ v x' n' c' l' e', Turn p w v → PRd v p x' n' c' l' e' → Calls Try.prog 63 #[.pointer (some ⟨p, 0, none⟩), .slice x n c, .int .i64 5] v fun ed w' => ed = .returned (.tuple #[]) ∧ PGo w w' p x l 5 := fun v x' n' c' l' e' t1 h3 =>
          (prefuse_any p n' c' _ 5 n c x' x _ l v h3 (h.sl.turn t1 h.ap) h.ap hsm).mono fun ed w' ⟨h5, h6⟩ => ⟨h5, t1.trans h6.1, h6.2⟩
        rw [he2] at hu
        generalize (rNum t l 0).1 = N at *
        generalize (rNum t l 0).2.1 = l2 at *
        clear h he2
        go_enter Try.func44, Try.ntmps44
        go_wp2_with (first
          | (go_at_call 61; refine h1.mono ?_; rintro e w' ⟨rfl, rfl⟩; clear h1)
          | (go_at_call 40; refine hu.mono ?_; rintro e w2 ⟨rfl, t2, x2, c2, hg, _⟩; have hd0 := hg.rest; have hd1 := hg.wrong; have hr2 := hr _ _ _ _ _ _ t2 hg; clear hu hr hg)
          | (go_at_call 63; refine hr2.mono ?_; rintro e w3 ⟨rfl, hg3⟩; clear hr2))
        go_ret
        rw [HD.out]
        exact ⟨_, rfl, hg3, none, 0, rfl, Sl.empty _, fun a ha => by cases ha⟩
      · have hle : (rNum t l 0).1 ≤ (rNum t l 0).2.1.length := by omega
        have HD : Hid (rBy t l 0 = ((rNum t l 0).2.1.take (rNum t l 0).1, (rNum t l 0).2.1.drop (rNum t l 0).1, 0)) := rBy_yes he2 hle
        rw [he2] at hu
        generalize (rNum t l 0).1 = N at *
        generalize (rNum t l 0).2.1 = l2 at *
        obtain ⟨m, hm⟩ : ∃ m, m = l2.length := ⟨_, rfl⟩
        rw [← hm] at hu hle
        have Hm : Hid (m = l2.length) := hm
        clear h he2 hfew hm
        go_enter Try.func44, Try.ntmps44
        go_wp2_with (first
          | (go_at_call 61; refine h1.mono ?_; rintro e w' ⟨rfl, rfl⟩; clear h1)
          | (go_at_call 40; refine hu.mono ?_; rintro e w2 ⟨rfl, t2, x2, c2, hg, hfr⟩; have hd0 := hg.rest; have hd1 := hg.wrong; have HG : Hid (PRd w2 p x2 m c2 l2 0 ∧ Turn p w' w2 ∧ From x x2) := ⟨hg, t2, hfr⟩; have hhead := fun v => cut_head x2 m c2 N v (Nat.le_trans hle hg.sl.le); have hcut := fun v => wcut_from x2 m c2 N v hle; have hcl := clone_sl x2 N c2 (l2.take N) w2 (hg.sl.head N hle) (Nat.le_trans hle hg.small); clear hu hg t2 hfr)
          | (go_at_call 60; refine hcl.mono ?_; rintro e w3 ⟨y, cy, rfl, hb3, hy3, hyb⟩; have hk3 := HG.out.1.below hb3; have he0 := hk3.rest; have hf0 := hk3.fr 0; have H3 : Hid (Below w2.heap.size w2 w3 ∧ Sl w3 y N cy (l2.take N) ∧ PRd w3 p x2 m c2 l2 0 ∧ ∀ a, y = some a → w2.heap.size ≤ a.block) := ⟨hb3, hy3, hk3, fun a ha => (hyb a ha).1⟩; clear hcl hhead hb3 hy3 hk3 hyb))
        go_ret
        rw [HD.out]
        obtain ⟨g1, g2, g3⟩ := HG.out
        obtain ⟨k1, k2, k3, k4⟩ := H3.out
        have t3 : Turn p w' w3 := g2.trans (Turn.of_below k1)
        have hlen : (l2.take N).length = N := by rw [List.length_take]; have := Hm.out; omega
        have hyp : ∀ a, y = some a → a.block ≠ p := fun a ha => by
          have h1 := k4 a ha
          have h2 := g1.lt
          omega
        refine ⟨_, rfl, ⟨t3.setCell rfl _, _, _, _, k3.setRest (k3.sl.from N hle) ((From.cut x2 c2 N).ap k3.ap) (by have := k3.small; omega), g3.trans (From.cut x2 c2 N)⟩, y, cy, by rw [hlen]; rfl, ?_, fun a ha => Nat.le_trans g2.size (k4 a ha)⟩
        rw [hlen]
        exact k2.turn ((Turn.refl p w3).setCell rfl _) hyp
    · have HD : Hid (rBy t l 0 = ([], (rNum t l 0).2.1, (rNum t l 0).2.2)) := rBy_no he2
      generalize (rNum t l 0).1 = N at *
      generalize (rNum t l 0).2.1 = l2 at *
      generalize (rNum t l 0).2.2 = e2 at *
      have hne : ((e2 : Int) != 0) = true := by simp; omega
      clear h
      go_enter Try.func44, Try.ntmps44
      go_wp2_with (first
        | (go_at_call 61; refine h1.mono ?_; rintro e w' ⟨rfl, rfl⟩; clear h1)
        | (go_at_call 40; refine hu.mono ?_; rintro e w2 ⟨rfl, t2, x2, c2, hg, hfr⟩; have hd1 := hg.wrong; clear hu))
      go_ret
      rw [HD.out]
      exact ⟨_, rfl, ⟨t2, x2, _, c2, hg, hfr⟩, none, 0, rfl, Sl.empty _, fun a ha => by cases ha⟩
  · have HD : Hid (rBy t l e = ([], l, e) ∧ PGo w w p x l e) := ⟨rBy_bad he, Turn.refl p w, x, n, c, h, From.refl x⟩
    have hne : ((e : Int) != 0) = true := by simp; omega
    clear h
    go_enter Try.func44, Try.ntmps44
    go_wp2_with (go_at_call 61; refine h1.mono ?_; rintro e w' ⟨rfl, rfl⟩; clear h1)
    go_ret
    rw [HD.out.1]
    exact ⟨_, rfl, HD.out.2, none, 0, rfl, Sl.empty _, fun a ha => by cases ha⟩

end Go.Proofs.Ytfgfjfemaniaiaa

/-
  Decrees and messages of package paxos as plain bytes: how they are written, and what any bytes are.
  Conditions: none.
-/
namespace Go.Proofs.Ytfgfjfemaniaiaa.Px
open Go.RowKit Wi By Fl Ba
set_option linter.unusedVariables false
set_option linter.unusedSimpArgs false
set_option maxRecDepth 100000

structure Dc where
  mon : Nat
  ser : Nat
  val : ByteArray

structure Ac where
  p : Bt
  a : Bt
  d : List Nat

structure Ms where
  kind : Nat
  num : Nat
  st : Ac
  known : Nat
  decs : List Dc

def most : Nat := 2147483647

def noAc : Ac := ⟨z0, z0, []⟩

def dbytes (d : Dc) : List Nat := uv d.mon ++ uv d.ser ++ (uv d.val.size ++ nat d.val)

def wBal (b : Bt) : List Nat := uv b.1.toNat ++ uv b.2.toNat

def dcs (l : List Dc) : List Nat := (l.map dbytes).flatten

/- A message's bytes, without their seal. -/
def body (m : Ms) (fr : Nat) : List Nat :=
  uv fr ++ uv m.kind ++ uv m.num ++
    (if m.kind = 4 then [] else if m.kind = 5 then uv m.known ++ dcs m.decs else wBal m.st.p ++ wBal m.st.a ++ (uv m.st.d.length ++ m.st.d))

def sealStep (s v : Nat) : Nat := (s ^^^ v) * 1099511628211 % 18446744073709551616
def fnv (l : List Nat) : Nat := l.foldl sealStep 14695981039346656037
def sealed (l : List Nat) : List Nat := l ++ fx (fnv l) 8

def encM (m : Ms) (fr : Nat) : List Nat := sealed (body m fr)

/- The readers. -/
def rDc (n : Nat) (l : List Nat) (e : Nat) : Dc × List Nat × Nat :=
  (⟨(rNum ((n : Int) - 1) l e).1, (rNum 2147483647 (rNum ((n : Int) - 1) l e).2.1 (rNum ((n : Int) - 1) l e).2.2).1,
    str (rBy 4096 (rNum 2147483647 (rNum ((n : Int) - 1) l e).2.1 (rNum ((n : Int) - 1) l e).2.2).2.1 (rNum 2147483647 (rNum ((n : Int) - 1) l e).2.1 (rNum ((n : Int) - 1) l e).2.2).2.2).1⟩,
    (rBy 4096 (rNum 2147483647 (rNum ((n : Int) - 1) l e).2.1 (rNum ((n : Int) - 1) l e).2.2).2.1 (rNum 2147483647 (rNum ((n : Int) - 1) l e).2.1 (rNum ((n : Int) - 1) l e).2.2).2.2).2)

def dOf (n : Nat) (v : List Nat) : Option Dc :=
  if rDone (rDc n v 0).2.1 (rDc n v 0).2.2 = 0 ∧ 1 ≤ (rDc n v 0).1.ser then some (rDc n v 0).1 else none

def rBal (n : Nat) (l : List Nat) (e : Nat) : Bt × List Nat × Nat :=
  ((((rNum 2147483647 l e).1 : Int), ((rNum ((n : Int) - 1) (rNum 2147483647 l e).2.1 (rNum 2147483647 l e).2.2).1 : Int)), (rNum ((n : Int) - 1) (rNum 2147483647 l e).2.1 (rNum 2147483647 l e).2.2).2)

/- So many decrees, as far as they can be read. -/
def rDcs (n : Nat) : Nat → List Nat → Nat → List Dc × List Nat × Nat
  | 0, l, e => ([], l, e)
  | k + 1, l, e => if e = 0 then ((rDc n l e).1 :: (rDcs n k (rDc n l e).2.1 (rDc n l e).2.2).1, (rDcs n k (rDc n l e).2.1 (rDc n l e).2.2).2) else ([], l, e)

def told (first known : Nat) : Int := min ((known : Int) - first + 1) 64

def mayState (a : Ac) (n : Nat) : Bool := mayA a.p a.a a.d.length && !zb a.p && (zb a.a || (dOf n a.d).isSome)

def mayM (m : Ms) (fr n : Nat) : Bool :=
  if m.kind = 1 then decide (1 ≤ m.num) && mayState m.st n && decide (m.st.p.2 = (fr : Int)) && zb m.st.a
  else if m.kind = 2 then decide (1 ≤ m.num) && mayState m.st n && decide (m.st.p.2 = (fr : Int)) && (decide (m.st.a.1 = m.st.p.1) && decide (m.st.a.2 = m.st.p.2))
  else if m.kind = 3 then decide (1 ≤ m.num) && mayState m.st n
  else if m.kind = 4 then true
  else if m.kind = 5 then decide (1 ≤ m.num) && decide (0 < m.decs.length) && m.decs.all (fun d => decide (1 ≤ d.ser))
  else false

/- What is read behind the kind and the number. -/
def rRest (n k u : Nat) (l : List Nat) (e : Nat) : Ms × List Nat × Nat :=
  if k = 4 then (⟨k, u, noAc, 0, []⟩, l, e)
  else if k = 5 then
    (⟨k, u, noAc, (rNum 2147483647 l e).1, (rDcs n (told u (rNum 2147483647 l e).1).toNat (rNum 2147483647 l e).2.1 (rNum 2147483647 l e).2.2).1⟩, (rDcs n (told u (rNum 2147483647 l e).1).toNat (rNum 2147483647 l e).2.1 (rNum 2147483647 l e).2.2).2)
  else
    (⟨k, u, ⟨(rBal n l e).1, (rBal n (rBal n l e).2.1 (rBal n l e).2.2).1, (rBy 4104 (rBal n (rBal n l e).2.1 (rBal n l e).2.2).2.1 (rBal n (rBal n l e).2.1 (rBal n l e).2.2).2.2).1⟩, 0, []⟩,
      (rBy 4104 (rBal n (rBal n l e).2.1 (rBal n l e).2.2).2.1 (rBal n (rBal n l e).2.1 (rBal n l e).2.2).2.2).2)

def rMsg (n : Nat) (l : List Nat) : Nat × Ms × List Nat × Nat :=
  ((rNum ((n : Int) - 1) l 0).1,
    rRest n (rNum 5 (rNum ((n : Int) - 1) l 0).2.1 (rNum ((n : Int) - 1) l 0).2.2).1
      (rNum 2147483647 (rNum 5 (rNum ((n : Int) - 1) l 0).2.1 (rNum ((n : Int) - 1) l 0).2.2).2.1 (rNum 5 (rNum ((n : Int) - 1) l 0).2.1 (rNum ((n : Int) - 1) l 0).2.2).2.2).1
      (rNum 2147483647 (rNum 5 (rNum ((n : Int) - 1) l 0).2.1 (rNum ((n : Int) - 1) l 0).2.2).2.1 (rNum 5 (rNum ((n : Int) - 1) l 0).2.1 (rNum ((n : Int) - 1) l 0).2.2).2.2).2.1
      (rNum 2147483647 (rNum 5 (rNum ((n : Int) - 1) l 0).2.1 (rNum ((n : Int) - 1) l 0).2.2).2.1 (rNum 5 (rNum ((n : Int) - 1) l 0).2.1 (rNum ((n : Int) - 1) l 0).2.2).2.2).2.2)

def isSealed (b : List Nat) : Bool := decide (8 ≤ b.length) && decide (sealed (b.take (b.length - 8)) = b)

/- The message that bytes are, of the monitor fr of n. -/
def decM (n fr : Nat) (b : List Nat) : Option Ms :=
  if isSealed b = true ∧ rDone (rMsg n (b.take (b.length - 8))).2.2.1 (rMsg n (b.take (b.length - 8))).2.2.2 = 0 ∧ (rMsg n (b.take (b.length - 8))).1 = fr ∧ mayM (rMsg n (b.take (b.length - 8))).2.1 fr n = true
  then some (rMsg n (b.take (b.length - 8))).2.1 else none

theorem fnv_lt (l : List Nat) : fnv l < 18446744073709551616 := by
  unfold fnv
  have : ∀ (l : List Nat) (s : Nat), s < 18446744073709551616 → l.foldl sealStep s < 18446744073709551616 := fun l => by
    induction l with
    | nil => intro s h; exact h
    | cons v l ih => intro s h; exact ih _ (Nat.mod_lt _ (by omega))
  exact this l _ (by omega)

theorem dbytes_lt (d : Dc) : ∀ v ∈ dbytes d, v < 256 := fun v hv => by
  unfold dbytes at hv
  simp only [List.mem_append] at hv
  rcases hv with (h | h) | h | h
  · exact uv_lt _ v h
  · exact uv_lt _ v h
  · exact uv_lt _ v h
  · exact nat_lt _ v h

end Go.Proofs.Ytfgfjfemaniaiaa.Px

/-
  Lists of bytes in both words; what wire's writers and readers make, told alike.
  Conditions: bytes that are looked at lie in memory.
-/
namespace Go.Proofs.Ytfgfjfemaniaiaa.Px
open Go.RowKit Wi By Fl Ba
set_option linter.unusedVariables false
set_option linter.unusedSimpArgs false
set_option maxRecDepth 100000

theorem toW {w : World} {x : Option Addr} {n c : Nat} {l : List Nat} (h : Fl.Sl w x n c l) : Go.Proofs.Ytfgfjfemaniaiaa.Sl w x n c l := ⟨h.len, h.le, h.nil, h.row, h.lt⟩
theorem ofW {w : World} {x : Option Addr} {n c : Nat} {l : List Nat} (h : Go.Proofs.Ytfgfjfemaniaiaa.Sl w x n c l) : Fl.Sl w x n c l := ⟨h.len, h.le, h.nil, h.row, h.lt⟩

theorem ownL_vl {w w' : World} {R : Value} {l : List Nat} (h : OwnL w' w.heap.size R l) (hl : ∀ u ∈ l, u < 256) (hb : Below w.heap.size w w') : ∃ y m cy, R = .slice y m cy ∧ m = l.length ∧ Vl w w' y m cy l := by
  obtain ⟨x, c, h1, h2, h3⟩ := h.sl hl
  refine ⟨x, l.length, c, h1, rfl, hb, ofW h2, fun a ha => ⟨(h3 a ha).1, ?_⟩⟩
  subst ha
  rcases h.2 with ⟨h0, _⟩ | ⟨g, cap, cur, hv, _, h5, _⟩
  · rw [h1] at h0
    cases h0
  · rw [h1] at hv
    injection hv with hv _ _
    injection hv with hv
    rw [hv]
    exact ⟨_, _, h5⟩

theorem app_lt {l k : List Nat} (h : ∀ u ∈ l, u < 256) (h2 : ∀ u ∈ k, u < 256) : ∀ u ∈ l ++ k, u < 256 := fun u hu => by
  rcases List.mem_append.1 hu with q | q
  · exact h u q
  · exact h2 u q

theorem uvW (x : Option Addr) (n c : Nat) (l : List Nat) (N : Nat) (w : World) (hl : Fl.Sl w x n c l) (hN : N < 18446744073709551616) (hs : n ≤ 140737488350000) :
    Calls Try.prog 85 #[.slice x n c, .int .u64 N] w fun e w' => ∃ y m cy, e = .returned (.slice y m cy) ∧ Hid (m = n + (uv N).length ∧ Vl w w' y m cy (l ++ uv N)) :=
  (uvarint_any x n c l N w (toW hl) hN hs).mono fun e w' ⟨R, h1, h2, h3⟩ => by
    obtain ⟨y, m, cy, rfl, h4, h5⟩ := ownL_vl h2 (app_lt hl.lt (uv_lt N)) h3
    exact ⟨y, m, cy, h1, by rw [h4, List.length_append, hl.len], h5⟩

theorem byW (x : Option Addr) (n c : Nat) (l : List Nat) (y : Option Addr) (m d : Nat) (k : List Nat) (w : World) (hl : Fl.Sl w x n c l) (hk : Fl.Sl w y m d k) (hs : n + m ≤ 140737488350000) :
    Calls Try.prog 88 #[.slice x n c, .slice y m d] w fun e w' => ∃ y' m' cy, e = .returned (.slice y' m' cy) ∧ Hid (m' = n + ((uv m).length + m) ∧ Vl w w' y' m' cy (l ++ (uv m ++ k))) :=
  (bytes_any x n c l y m d k w (toW hl) (toW hk) hs).mono fun e w' ⟨R, h1, h2, h3⟩ => by
    obtain ⟨y', m', cy, rfl, h4, h5⟩ := ownL_vl h2 (app_lt hl.lt (app_lt (uv_lt m) hk.lt)) h3
    exact ⟨y', m', cy, h1, by rw [h4, List.length_append, List.length_append, hl.len, hk.len], h5⟩

theorem fx8W (x : Option Addr) (n c : Nat) (l : List Nat) (N : Nat) (w : World) (hl : Fl.Sl w x n c l) (hN : N < 18446744073709551616) (hs : n ≤ 140737488353000) :
    Calls Try.prog 78 #[.slice x n c, .int .u64 N] w fun e w' => ∃ y m cy, e = .returned (.slice y m cy) ∧ Hid (m = n + 8 ∧ Vl w w' y m cy (l ++ fx N 8)) :=
  (fixed8_any x n c l N w (toW hl) hN hs).mono fun e w' ⟨R, h1, h2, h3⟩ => by
    obtain ⟨y, m, cy, rfl, h4, h5⟩ := ownL_vl h2 (app_lt hl.lt (fx_lt N 8)) h3
    exact ⟨y, m, cy, h1, by rw [h4, List.length_append, hl.len, fx_len], h5⟩

theorem Vl.on {a b c : World} {y : Option Addr} {m cy : Nat} {l : List Nat} (h : Below a.heap.size a b) (k : Vl b c y m cy l) : Vl a c y m cy l :=
  ⟨Ba.on h k.1, k.2.1, fun q hq => ⟨Nat.le_trans h.size (k.2.2 q hq).1, (k.2.2 q hq).2⟩⟩

/- []byte(s). -/
theorem conv_text (s : ByteArray) (w : World) :
    ∃ c W1, (convert 9 35 (.string s)).run Try.prog w = .ok (.slice (some ⟨w.heap.size, 0, none⟩) s.size c) W1 ∧ Hid (Vl w W1 (some ⟨w.heap.size, 0, none⟩) s.size c (nat s)) := by
  have hr := Lib.run_convert_string_bytes (P := Try.prog) w 9 35 5 s Try.underlying9 Try.underlying35 Try.underlying5
  refine ⟨_, _, hr, ⟨rfl, rfl, rfl, by rw [Lib.bytesWorld_size]; omega, fun q hq => Lib.bytesWorld_at_old w _ s q hq⟩, ⟨nat_length s, ?_, (fun e => by cases e), .inr ⟨w.heap.size, 0, rfl, by rw [Lib.bytesWorld_size]; omega, fun j hj => ?_⟩, nat_lt s⟩, fun a ha => ?_⟩
  · exact grownCap_ge w s.size 0 5
  · rw [Nat.zero_add, Lib.bytesWorld_cell w _ s j hj]
    have h1 : j < s.data.toList.length := by rw [Array.length_toList]; exact hj
    simp [nat, Fl.gl, List.getD, List.getElem?_eq_getElem h1]
  · cases ha
    exact ⟨Nat.le_refl _, _, _, Lib.bytesWorld_at_new w _ s⟩

def dv (d : Dc) : Value := .agg #[.int .i64 d.mon, .int .i64 d.ser, .string d.val]

structure DOk (d : Dc) : Prop where
  mon : d.mon < 9223372036854775808
  ser : d.ser < 9223372036854775808
  val : d.val.size ≤ 4096

theorem dbytes_any (d : Dc) (hd : DOk d) (w : World) :
    Calls Try.prog 86 #[dv d] w fun e w' => ∃ y m cy, e = .returned (.slice y m cy) ∧ Hid (m ≤ 5000 ∧ Vl w w' y m cy (dbytes d)) := by
  obtain ⟨h1, h2, h3⟩ := hd
  obtain ⟨mon, ser, s⟩ := d
  dsimp only [dv] at *
  have HD : Hid (dbytes ⟨mon, ser, s⟩ = uv mon ++ uv ser ++ (uv s.size ++ nat s)) := rfl
  have u1 := uv_ten (n := mon) (by omega)
  have u2 := uv_ten (n := ser) (by omega)
  have u3 := uv_ten (n := s.size) (by omega)
  have HU : Hid ((uv mon).length ≤ 10 ∧ (uv ser).length ≤ 10 ∧ (uv s.size).length ≤ 10) := ⟨u1, u2, u3⟩
  clear u1 u2 u3
  have hU1 := fun W => uvW none 0 0 [] mon W (Fl.Sl.empty W) (by omega) (by omega)
  have i1 : (mon : Int) < 9223372036854775808 := by omega
  have i2 : (ser : Int) < 9223372036854775808 := by omega
  go_enter Try.func86, Try.ntmps86
  go_wp2_with (first
    | (
       go_at_call 85; refine (hU1 _).mono ?_; rintro e w1 ⟨y1, m1, c1, rfl, H1⟩; clear hU1
       have k0 := keep H1.out.2.1 (b := w.heap.size) (o := 0) (x := .int .i64 mon) (by first | assumption | go_simp)
       have k1 := keep H1.out.2.1 (b := w.heap.size) (o := 1) (x := .int .i64 ser) (by first | assumption | go_simp)
       have k2 := keep H1.out.2.1 (b := w.heap.size) (o := 2) (x := .string s) (by first | assumption | go_simp)
       have hU2 := uvW y1 m1 c1 _ ser w1 H1.out.2.2.1 (by omega) (by have := H1.out.1; have := HU.out.1; omega)
       have B1 := on (al _ _) H1.out.2.1)
    | (
       go_at_call 85; refine hU2.mono ?_; rintro e w2 ⟨y2, m2, c2, rfl, H2⟩; clear hU2
       have j0 := keep H2.out.2.1 (b := w.heap.size) (o := 0) (x := .int .i64 mon) (by first | assumption | go_simp)
       have j1 := keep H2.out.2.1 (b := w.heap.size) (o := 1) (x := .int .i64 ser) (by first | assumption | go_simp)
       have j2 := keep H2.out.2.1 (b := w.heap.size) (o := 2) (x := .string s) (by first | assumption | go_simp)
       clear k0 k1 k2
       have B2 := on B1 H2.out.2.1
       obtain ⟨cc, W3, hcv, H3⟩ := conv_text s w2
       have B3 := on B2 H3.out.1
       have hY := byW y2 m2 c2 _ (some ⟨w2.heap.size, 0, none⟩) s.size cc (nat s) W3 (H2.out.2.2.1.below H3.out.1) H3.out.2.1 (by have := H1.out.1; have := H2.out.1; have := HU.out.1; have := HU.out.2.1; omega))
    | (
       go_at_call 88; refine hY.mono ?_; rintro e w4 ⟨y4, m4, c4, rfl, H4⟩; clear hY))
  go_ret
  refine ⟨y4, m4, c4, rfl, ?_, ?_⟩
  · have := H1.out.1; have := H2.out.1; have := H4.out.1; have := HU.out; omega
  · have := Vl.on B3 H4.out.2
    rw [HD.out]
    simpa using this

end Go.Proofs.Ytfgfjfemaniaiaa.Px
