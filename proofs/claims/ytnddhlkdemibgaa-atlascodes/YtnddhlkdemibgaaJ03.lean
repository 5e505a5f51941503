/-
  6 texts of this proof, one behind the other: WiLead, WiRead, WiTake, AtPlain, AtMem, AtQuiet.
-/
import Derived.Test.YtnddhlkdemibgaaJ02
import Derived.Test.YtnddhlkdemibgaaJ01
import Derived.Laws.StructEq
import Derived.BigQuiet
/-
  What leading of package wire does: a contract over plain lists ('WiPlain').
  Conditions: bytes that are looked at lie in memory.
-/
namespace Go.Proofs.Ytnddhlkdemibgaa
open Go.RowKit Wi By
set_option linter.unusedVariables false
set_option linter.unusedSimpArgs false
set_option maxRecDepth 100000

def ld (l : List Nat) : Nat × Nat := match lead l with | none => (0, 0) | some q => q

theorem ld_none {l : List Nat} (h : lead l = none) : ld l = (0, 0) := by unfold ld; rw [h]
theorem ld_some {l : List Nat} {q : Nat × Nat} (h : lead l = some q) : ld l = q := by unfold ld; rw [h]

theorem or_add (N d s : Nat) (h : N < 2 ^ s) : N ||| d * 2 ^ s = N + d * 2 ^ s := by
  have := Nat.two_pow_add_eq_or_of_lt h d
  rw [Nat.or_comm, Nat.mul_comm d, ← this, Nat.add_comm]

/- One digit more, by shifting and by or. -/
theorem digit_or (N d s : Nat) (hN : N < 18446744073709551616) : ∃ N2 : Nat, bits .or .u64 (N : Int) (IntKind.u64.wrap ((d : Int) * 2 ^ s)) = (N2 : Int) ∧ N2 < 18446744073709551616 ∧ (N < 2 ^ s → d * 2 ^ s < 18446744073709551616 → N2 = N + d * 2 ^ s) := by
  have e : IntKind.u64.wrap ((d : Int) * 2 ^ s) = ((d * 2 ^ s % 18446744073709551616 : Nat) : Int) := by
    rw [IntKind.wrap_u64, Int.natCast_emod, Int.natCast_mul, Int.natCast_pow]
    rfl
  refine ⟨N ||| (d * 2 ^ s % 18446744073709551616), ?_, ?_, fun h1 h2 => ?_⟩
  · rw [e]
    exact u64_or_nat N _ hN (Nat.mod_lt _ (by omega))
  · exact Nat.or_lt_two_pow (n := 64) hN (Nat.mod_lt _ (by omega))
  · rw [Nat.mod_eq_of_lt h2]
    exact or_add N d s h1

theorem drop_cons {l : List Nat} {k : Nat} (h : k < l.length) : l.drop k = gl l k :: l.drop (k + 1) := by
  rw [List.drop_eq_getElem_cons h]
  simp [gl, h]

def Lead (l : List Nat) (k N : Nat) : Prop := (k ≤ 9 ∧ leadF (l.drop k) k N = lead l ∧ N < 128 ^ k) ∨ (k = 10 ∧ lead l = none)

theorem pow7 (k : Nat) : 128 ^ k = 2 ^ (7 * k) := by rw [Nat.pow_mul]

theorem lead_more {l : List Nat} {k N N2 : Nat} (h : Lead l k N) (hk : k < l.length) (hk9 : k ≤ 9) (hv : 128 ≤ gl l k) (hv2 : gl l k < 256)
    (hN2 : N < 2 ^ (7 * k) → (gl l k - 128) * 2 ^ (7 * k) < 18446744073709551616 → N2 = N + (gl l k - 128) * 2 ^ (7 * k)) : Lead l (k + 1) N2 := by
  rcases h with ⟨_, h1, h2⟩ | ⟨h1, _⟩
  · rw [drop_cons hk, leadF, if_neg (by omega), if_pos hv] at h1
    by_cases h8 : k ≤ 8
    · left
      have hp : 128 ^ k ≤ 128 ^ 8 := Nat.pow_le_pow_right (by omega) h8
      have hm : (gl l k - 128) * 128 ^ k ≤ 127 * 128 ^ k := Nat.mul_le_mul_right _ (by omega)
      have e := hN2 (by rw [← pow7]; exact h2) (by rw [← pow7]; omega)
      rw [← pow7] at e
      refine ⟨by omega, by rw [e]; exact h1, ?_⟩
      rw [e, Nat.pow_succ]
      omega
    · right
      refine ⟨by omega, ?_⟩
      rw [← h1]
      exact leadF_ten _ _ _ (by omega)
  · omega

theorem lead_bad {l : List Nat} {k N : Nat} (h : Lead l k N) (hk : k < l.length) (hk9 : k ≤ 9) (hv : gl l k < 128) (hb : (0 < k ∧ gl l k = 0) ∨ (k = 9 ∧ 1 < gl l k)) : ld l = (0, 0) := by
  rcases h with ⟨_, h1, h2⟩ | ⟨h1, _⟩
  · rw [drop_cons hk, leadF, if_neg (by omega), if_neg (by omega), if_pos hb] at h1
    exact ld_none h1.symm
  · omega

theorem lead_good {l : List Nat} {k N N2 : Nat} (h : Lead l k N) (hk : k < l.length) (hk9 : k ≤ 9) (hv : gl l k < 128) (hb : ¬ ((0 < k ∧ gl l k = 0) ∨ (k = 9 ∧ 1 < gl l k)))
    (hN2 : N < 2 ^ (7 * k) → gl l k * 2 ^ (7 * k) < 18446744073709551616 → N2 = N + gl l k * 2 ^ (7 * k)) : ld l = (N2, k + 1) := by
  rcases h with ⟨_, h1, h2⟩ | ⟨h1, _⟩
  · rw [drop_cons hk, leadF, if_neg (by omega), if_neg (by omega), if_neg hb] at h1
    have e := hN2 (by rw [← pow7]; exact h2) (by
      rw [← pow7]
      by_cases h9 : k = 9
      · subst h9
        have : gl l 9 ≤ 1 := by omega
        omega
      · have hp : 128 ^ k ≤ 128 ^ 8 := Nat.pow_le_pow_right (by omega) (by omega)
        have hm : gl l k * 128 ^ k ≤ 127 * 128 ^ k := Nat.mul_le_mul_right _ (by omega)
        omega)
    rw [← pow7] at e
    rw [ld_some h1.symm, e]
  · omega

theorem lead_over {l : List Nat} {k N : Nat} (h : Lead l k N) (hk : l.length ≤ k ∨ k = 10) : ld l = (0, 0) := by
  rcases h with ⟨h0, h1, h2⟩ | ⟨h1, h2⟩
  · rw [List.drop_eq_nil_of_le (by omega)] at h1
    exact ld_none h1.symm
  · exact ld_none h2

set_option maxHeartbeats 1000000 in
set_option maxRecDepth 100000 in
theorem leading_short (b o n c : Nat) (l : List Nat) (w : World) (hl : Sl w (some ⟨b, o, none⟩) n c l) (hn : n ≤ 140737488355328) (hle : n ≤ 10) :
    Calls Try.prog 93 #[.slice (some ⟨b, o, none⟩) n c] w fun e w' => e = .returned (.tuple #[.int .u64 ((ld l).1 : Int), .int .i64 ((ld l).2 : Int)]) ∧ w' = w := by
  have hcut : ∀ v : World, (Instr.slice 52 (.slice (some ⟨b, o, none⟩) n c) none (some (.int .i64 (n : Int))) none).run Try.prog v = .ok (.slice (some ⟨b, o, none⟩) n c) v := fun v => cut_head (some ⟨b, o, none⟩) n c n v (by have := hl.le; omega)
  have Hl : Hid (Sl w (some ⟨b, o, none⟩) n c l) := hl
  have hlen := hl.len
  clear hl
  go_enter Try.func93, Try.ntmps93
  go_wp2_with fail
  go_loop [4, 13] (fun a i => ∃ k N : Nat, k ≤ n ∧ N < 18446744073709551616 ∧ a = .int .u64 N ∧ i = .int .i64 k ∧ Hid (Lead l k N)) (fun _ i => n - (intOf i).toNat)
  case atStart => exact ⟨0, 0, by omega, by omega, rfl, rfl, .inl ⟨by omega, rfl, by simp⟩⟩
  case round =>
    obtain ⟨k, N, hk, hN, rfl, rfl, HR⟩ := hrel
    clear hcut
    by_cases hlt : k < n
    · have hx1 : w.cell? ⟨b, o + k, none⟩ = some (.int .u8 (gl l k : Int)) := by
        rcases Hl.out.row with h0 | ⟨b', o', ha, _, hc⟩
        · omega
        · cases ha
          exact hc k (by omega)
      have hv := gl_lt Hl.out.lt k
      have hkl : k < l.length := by omega
      obtain ⟨s, hs⟩ : ∃ s : Nat, s = 7 * k := ⟨_, rfl⟩
      have hs7 : (7 : Int) * (k : Int) = (s : Int) := by omega
      have hs64 : s < 64 := by omega
      by_cases h128 : 128 ≤ gl l k
      · obtain ⟨u, hu⟩ : ∃ u : Nat, u = gl l k - 128 := ⟨_, rfl⟩
        have hu1 : (gl l k : Int) - 128 = (u : Int) := by omega
        have hu2 : u < 128 := by omega
        obtain ⟨N2, hor, hN2, he⟩ := digit_or N u s hN
        have HS : Hid (Lead l (k + 1) N2) := lead_more HR.out hkl (by omega) h128 hv (by rw [← hs, ← hu]; exact he)
        clear he HR Hl hu hs hkl hlen
        generalize gl l k = v at *
        go_wp2_with fail
        go_round
        case rel => exact ⟨k + 1, N2, by omega, hN2, rfl, by go_num, HS⟩
        case measure => simp [intOf]; omega
      · by_cases hbad : (0 < k ∧ gl l k = 0) ∨ (k = 9 ∧ 1 < gl l k)
        · have HD : Hid (ld l = (0, 0)) := lead_bad HR.out hkl (by omega) (by omega) hbad
          clear HR Hl hs hkl hlen
          rcases hbad with ⟨hk0, hv0⟩ | ⟨hk9, hv1⟩
          · rw [hv0] at hx1
            clear h128 hv hv0
            go_wp2_with fail
            go_ret2
            exact ⟨by rw [HD.out]; rfl, rfl⟩
          · generalize gl l k = v at *
            subst hk9
            go_wp2_with fail
            go_ret2
            exact ⟨by rw [HD.out]; rfl, rfl⟩
        · obtain ⟨N2, hor, hN2, he⟩ := digit_or N (gl l k) s hN
          have HD : Hid (ld l = (N2, k + 1)) := lead_good HR.out hkl (by omega) (by omega) hbad (N2 := N2) (by rw [← hs]; exact he)
          obtain ⟨k1, hk1⟩ : ∃ k1 : Nat, k1 = k + 1 := ⟨_, rfl⟩
          have hk1i : (k : Int) + 1 = (k1 : Int) := by omega
          rw [← hk1] at HD
          clear he HR Hl hs hkl hlen hk1
          generalize gl l k = v at *
          by_cases hk0 : k = 0
          · have hz : (k : Int) < 1 := by omega
            have hz9 : ((k : Int) == 9) = false := by simp; omega
            clear hbad hk0
            go_wp2_with fail
            go_ret2
            exact ⟨by rw [HD.out]; rfl, rfl⟩
          · have hv0 : 0 < v := by omega
            have hk0' : 0 < k := by omega
            by_cases hk9 : k = 9
            · have hv1 : v < 2 := by omega
              have hvb : ((v : Int) == 0) = false := by simp; omega
              have hvc : decide ((1 : Int) < (v : Int)) = false := by simp; omega
              have hz9 : ((k : Int) == 9) = true := by simp; omega
              clear hbad hk0 hk9
              go_wp2_with fail
              go_ret2
              exact ⟨by rw [HD.out]; rfl, rfl⟩
            · have hz9 : ((k : Int) == 9) = false := by simp; omega
              clear hbad hk0
              go_wp2_with fail
              go_ret2
              exact ⟨by rw [HD.out]; rfl, rfl⟩
    · have hk2 : k = n := by omega
      subst hk2
      have HD : Hid (ld l = (0, 0)) := lead_over HR.out (by omega)
      clear HR Hl hlen
      go_wp2_with fail
      go_ret2
      exact ⟨by rw [HD.out]; rfl, rfl⟩

set_option maxHeartbeats 1000000 in
set_option maxRecDepth 100000 in
theorem leading_long (b o n c : Nat) (l : List Nat) (w : World) (hl : Sl w (some ⟨b, o, none⟩) n c l) (hn : n ≤ 140737488355328) (hle : 10 < n) :
    Calls Try.prog 93 #[.slice (some ⟨b, o, none⟩) n c] w fun e w' => e = .returned (.tuple #[.int .u64 ((ld l).1 : Int), .int .i64 ((ld l).2 : Int)]) ∧ w' = w := by
  have hcut : ∀ v : World, (Instr.slice 52 (.slice (some ⟨b, o, none⟩) n c) none (some (.int .i64 (10 : Int))) none).run Try.prog v = .ok (.slice (some ⟨b, o, none⟩) 10 c) v := fun v => cut_head (some ⟨b, o, none⟩) n c 10 v (by have := hl.le; omega)
  have Hl : Hid (Sl w (some ⟨b, o, none⟩) n c l) := hl
  have hlen := hl.len
  clear hl
  go_enter Try.func93, Try.ntmps93
  go_wp2_with fail
  go_loop [4, 13] (fun a i => ∃ k N : Nat, k ≤ 10 ∧ N < 18446744073709551616 ∧ a = .int .u64 N ∧ i = .int .i64 k ∧ Hid (Lead l k N)) (fun _ i => 10 - (intOf i).toNat)
  case atStart => exact ⟨0, 0, by omega, by omega, rfl, rfl, .inl ⟨by omega, rfl, by simp⟩⟩
  case round =>
    obtain ⟨k, N, hk, hN, rfl, rfl, HR⟩ := hrel
    clear hcut
    by_cases hlt : k < 10
    · have hx1 : w.cell? ⟨b, o + k, none⟩ = some (.int .u8 (gl l k : Int)) := by
        rcases Hl.out.row with h0 | ⟨b', o', ha, _, hc⟩
        · omega
        · cases ha
          exact hc k (by omega)
      have hv := gl_lt Hl.out.lt k
      have hkl : k < l.length := by omega
      obtain ⟨s, hs⟩ : ∃ s : Nat, s = 7 * k := ⟨_, rfl⟩
      have hs7 : (7 : Int) * (k : Int) = (s : Int) := by omega
      have hs64 : s < 64 := by omega
      by_cases h128 : 128 ≤ gl l k
      · obtain ⟨u, hu⟩ : ∃ u : Nat, u = gl l k - 128 := ⟨_, rfl⟩
        have hu1 : (gl l k : Int) - 128 = (u : Int) := by omega
        have hu2 : u < 128 := by omega
        obtain ⟨N2, hor, hN2, he⟩ := digit_or N u s hN
        have HS : Hid (Lead l (k + 1) N2) := lead_more HR.out hkl (by omega) h128 hv (by rw [← hs, ← hu]; exact he)
        clear he HR Hl hu hs hkl hlen
        generalize gl l k = v at *
        go_wp2_with fail
        go_round
        case rel => exact ⟨k + 1, N2, by omega, hN2, rfl, by go_num, HS⟩
        case measure => simp [intOf]; omega
      · by_cases hbad : (0 < k ∧ gl l k = 0) ∨ (k = 9 ∧ 1 < gl l k)
        · have HD : Hid (ld l = (0, 0)) := lead_bad HR.out hkl (by omega) (by omega) hbad
          clear HR Hl hs hkl hlen
          rcases hbad with ⟨hk0, hv0⟩ | ⟨hk9, hv1⟩
          · rw [hv0] at hx1
            clear h128 hv hv0
            go_wp2_with fail
            go_ret2
            exact ⟨by rw [HD.out]; rfl, rfl⟩
          · generalize gl l k = v at *
            subst hk9
            go_wp2_with fail
            go_ret2
            exact ⟨by rw [HD.out]; rfl, rfl⟩
        · obtain ⟨N2, hor, hN2, he⟩ := digit_or N (gl l k) s hN
          have HD : Hid (ld l = (N2, k + 1)) := lead_good HR.out hkl (by omega) (by omega) hbad (N2 := N2) (by rw [← hs]; exact he)
          obtain ⟨k1, hk1⟩ : ∃ k1 : Nat, k1 = k + 1 := ⟨_, rfl⟩
          have hk1i : (k : Int) + 1 = (k1 : Int) := by omega
          rw [← hk1] at HD
          clear he HR Hl hs hkl hlen hk1
          generalize gl l k = v at *
          by_cases hk0 : k = 0
          · have hz : (k : Int) < 1 := by omega
            have hz9 : ((k : Int) == 9) = false := by simp; omega
            clear hbad hk0
            go_wp2_with fail
            go_ret2
            exact ⟨by rw [HD.out]; rfl, rfl⟩
          · have hv0 : 0 < v := by omega
            have hk0' : 0 < k := by omega
            by_cases hk9 : k = 9
            · have hv1 : v < 2 := by omega
              have hvb : ((v : Int) == 0) = false := by simp; omega
              have hvc : decide ((1 : Int) < (v : Int)) = false := by simp; omega
              have hz9 : ((k : Int) == 9) = true := by simp; omega
              clear hbad hk0 hk9
              go_wp2_with fail
              go_ret2
              exact ⟨by rw [HD.out]; rfl, rfl⟩
            · have hz9 : ((k : Int) == 9) = false := by simp; omega
              clear hbad hk0
              go_wp2_with fail
              go_ret2
              exact ⟨by rw [HD.out]; rfl, rfl⟩
    · have hk2 : k = 10 := by omega
      subst hk2
      have HD : Hid (ld l = (0, 0)) := lead_over HR.out (by omega)
      clear HR Hl hlen
      go_wp2_with fail
      go_ret2
      exact ⟨by rw [HD.out]; rfl, rfl⟩

theorem leading_none (x : Option Addr) (c : Nat) (w : World) :
    Calls Try.prog 93 #[.slice x 0 c] w fun e w' => e = .returned (.tuple #[.int .u64 0, .int .i64 0]) ∧ w' = w := by
  have hcut : ∀ v : World, (Instr.slice 52 (.slice x 0 c) none (some (.int .i64 0)) none).run Try.prog v = .ok (.slice x 0 c) v := fun v => cut_head x 0 c 0 v (by omega)
  go_enter Try.func93, Try.ntmps93
  go_wp2_with fail
  refine wp_loop_rounds 1 ?_
  rw [rounds_succ]
  go_wp2_with fail
  go_ret2
  exact ⟨rfl, rfl⟩

theorem leading_any (x : Option Addr) (n c : Nat) (l : List Nat) (w : World) (hl : Sl w x n c l) (hn : n ≤ 140737488355328) :
    Calls Try.prog 93 #[.slice x n c] w fun e w' => e = .returned (.tuple #[.int .u64 ((ld l).1 : Int), .int .i64 ((ld l).2 : Int)]) ∧ w' = w := by
  by_cases h0 : n = 0
  · subst h0
    have : l = [] := List.eq_nil_of_length_eq_zero hl.len
    subst this
    exact leading_none x c w
  · rcases hl.row with h | ⟨b, o, rfl, _, _⟩
    · exact absurd h h0
    · by_cases h10 : n ≤ 10
      · exact leading_short b o n c l w hl hn h10
      · exact leading_long b o n c l w hl hn (by omega)

end Go.Proofs.Ytnddhlkdemibgaa

/-
  What Read and the reader's methods of package wire do: contracts over plain lists ('WiPlain').
  Conditions: bytes that are looked at lie in memory.
-/
namespace Go.Proofs.Ytnddhlkdemibgaa
open Go.RowKit Wi By
set_option linter.unusedVariables false
set_option linter.unusedSimpArgs false
set_option maxRecDepth 100000

/- A list that is a part of another one: in the same block. -/
def From (x x' : Option Addr) : Prop := ∀ a', x' = some a' → ∃ a, x = some a ∧ a.block = a'.block

theorem From.refl (x : Option Addr) : From x x := fun a h => ⟨a, h, rfl⟩
theorem From.trans {x y z : Option Addr} (h : From x y) (k : From y z) : From x z := fun a ha => by
  obtain ⟨b, hb, e⟩ := k a ha
  obtain ⟨c, hc, e2⟩ := h b hb
  exact ⟨c, hc, e2.trans e⟩
theorem From.cut (x : Option Addr) (c k : Nat) : From x (cutTo x c k) := fun a ha => cutTo_block ha
theorem From.ap {x y : Option Addr} {p : Nat} (h : From x y) (hx : ∀ a, x = some a → a.block ≠ p) : ∀ a, y = some a → a.block ≠ p := fun a ha => by
  obtain ⟨b, hb, e⟩ := h a ha
  rw [← e]
  exact hx b hb

def PGo (w w' : World) (p : Nat) (x : Option Addr) (l' : List Nat) (e' : Nat) : Prop := Turn p w w' ∧ ∃ x' n' c', PRd w' p x' n' c' l' e' ∧ From x x'

/- bytes.Clone, in new memory. -/
theorem clone_sl (x : Option Addr) (n c : Nat) (l : List Nat) (w : World) (hl : Sl w x n c l) (hn : n ≤ 140737488355328) :
    Calls Try.prog 71 #[.slice x n c] w fun e w' => ∃ y cy, e = .returned (.slice y n cy) ∧ Below w.heap.size w w' ∧ Sl w' y n cy l ∧ ∀ a, y = some a → w.heap.size ≤ a.block ∧ a.block < w'.heap.size := by
  cases x with
  | none =>
    obtain ⟨rfl, rfl⟩ := hl.nil' rfl
    have h0 : l = [] := List.eq_nil_of_length_eq_zero hl.len
    subst h0
    exact (clone_nil w).mono fun e w' h => ⟨none, 0, h.1, by rw [h.2]; exact Below.refl _ _, Sl.empty _, fun a ha => by cases ha⟩
  | some ad =>
    obtain ⟨g, cy, w', hrun, h1, h0, h2, h3, h4, h5⟩ := bytes_copy w (some ad) n c (gl l) hl.row (fun h => by cases h) hn
    have hcy : n ≤ cy := by
      rcases h0.2 with ⟨h, _⟩ | ⟨g', c', cur, h, _, _, hc, _⟩
      · cases h
      · injection h with _ _ h; rw [h]; exact hc
    have H1 : Hid (Below w.heap.size w w' ∧ Sl w' (some ⟨g, 0, none⟩) n cy l) := ⟨h1, hl.len, hcy, (fun h => by cases h), h5, hl.lt⟩
    have he : ∀ w : World, (binOp .eql 52 (.slice (some ad) n c) (.slice none 0 0)).run Try.prog w = .ok (.bool false) w := fun _ => by kernel_rfl
    clear h1 h0 h4 h5 hl hcy
    go_enter Try.func71, Try.ntmps71
    go_wp2_with (at_builtin; refine wpList_append_run rfl _ _ 52 rfl _ _ rfl rfl hrun ?_; clear hrun)
    go_ret
    exact ⟨some ⟨g, 0, none⟩, cy, rfl, H1.out.1, H1.out.2, fun a ha => by cases ha; exact ⟨h2, h3⟩⟩

/- Read(b). -/
theorem prd_new (w : World) (y : Option Addr) (n cy : Nat) (l : List Nat) (hy : Sl w y n cy l) (ha : ∀ a, y = some a → a.block < w.heap.size) (hn : n ≤ 140737488355328) :
    PRd (w.alloc (.cells #[.slice y n cy, .int .i64 0] 100)) w.heap.size y n cy l 0 :=
  ⟨by simp, by simp, fun j => frozen_new _ _ _ j, hy.below ((Below.refl _ _).alloc (Nat.le_refl _) _), fun a h => by have := ha a h; omega, hn⟩

theorem read_any (x : Option Addr) (n c : Nat) (l : List Nat) (w : World) (hl : Sl w x n c l) (hn : n ≤ 140737488355328) :
    Calls Try.prog 47 #[.slice x n c] w fun e w' => ∃ p y cy, e = .returned (.pointer (some ⟨p, 0, none⟩)) ∧ w.heap.size ≤ p ∧ Below w.heap.size w w' ∧ PRd w' p y n cy l 0 ∧ ∀ a, y = some a → w.heap.size ≤ a.block ∧ a.block < w'.heap.size := by
  have hc := clone_sl x n c l w hl hn
  clear hl
  go_enter Try.func47, Try.ntmps47
  go_wp2_with (go_at_call 71; refine hc.mono ?_; rintro e w2 ⟨y, cy, rfl, hb, hy, ha⟩; clear hc)
  go_ret
  exact ⟨w2.heap.size, y, cy, rfl, hb.size, hb.alloc hb.size _, prd_new w2 y n cy l hy (fun a h => (ha a h).2) hn, fun a h => ⟨(ha a h).1, by have := (ha a h).2; simp; omega⟩⟩

/- Err, Left, Done. -/
theorem perr_any (p e : Nat) (w : World) (hc : w.cell? ⟨p, 1, none⟩ = some (.int .i64 (e : Int))) :
    Calls Try.prog 73 #[.pointer (some ⟨p, 0, none⟩)] w fun ed w' => ed = .returned (.int .i64 (e : Int)) ∧ w' = w := by
  go_enter Try.func73, Try.ntmps73
  go_wp2_with fail
  go_ret
  exact ⟨rfl, rfl⟩

theorem pleft_any (p n c : Nat) (x : Option Addr) (w : World) (hc : w.cell? ⟨p, 0, none⟩ = some (.slice x n c)) :
    Calls Try.prog 74 #[.pointer (some ⟨p, 0, none⟩)] w fun ed w' => ed = .returned (.int .i64 (n : Int)) ∧ w' = w := by
  go_enter Try.func74, Try.ntmps74
  go_wp2_with fail
  go_ret
  exact ⟨rfl, rfl⟩

theorem pdone_any (p n c e : Nat) (x : Option Addr) (l : List Nat) (w : World) (h : PRd w p x n c l e) :
    Calls Try.prog 50 #[.pointer (some ⟨p, 0, none⟩)] w fun ed w' => ed = .returned (.int .i64 (rDone l e : Int)) ∧ w' = w := by
  have h1 := perr_any p e w h.wrong
  have h2 := pleft_any p n c x w h.rest
  have hlen := h.sl.len
  by_cases he : e = 0
  · subst he
    by_cases h0 : n = 0
    · have HD : Hid (rDone l 0 = 0) := (by unfold rDone; rw [if_neg (by omega), if_neg (by omega)] : rDone l 0 = 0)
      subst h0
      clear h
      go_enter Try.func50, Try.ntmps50
      go_wp2_with (first
        | (go_at_call 73; refine h1.mono ?_; rintro e w' ⟨rfl, rfl⟩; clear h1)
        | (go_at_call 74; refine h2.mono ?_; rintro e w' ⟨rfl, rfl⟩; clear h2))
      go_ret
      exact ⟨by rw [HD.out]; rfl, rfl⟩
    · have HD : Hid (rDone l 0 = 5) := (by unfold rDone; rw [if_neg (by omega), if_pos (by omega)] : rDone l 0 = 5)
      have hpos : 0 < n := by omega
      clear h
      go_enter Try.func50, Try.ntmps50
      go_wp2_with (first
        | (go_at_call 73; refine h1.mono ?_; rintro e w' ⟨rfl, rfl⟩; clear h1)
        | (go_at_call 74; refine h2.mono ?_; rintro e w' ⟨rfl, rfl⟩; clear h2))
      go_ret
      exact ⟨by rw [HD.out]; rfl, rfl⟩
  · have HD : Hid (rDone l e = e) := (by unfold rDone; rw [if_pos he] : rDone l e = e)
    have hne : ((e : Int) != 0) = true := by simp; omega
    clear h h2
    go_enter Try.func50, Try.ntmps50
    go_wp2_with (go_at_call 73; refine h1.mono ?_; rintro e w' ⟨rfl, rfl⟩; clear h1)
    go_ret
    exact ⟨by rw [HD.out]; rfl, rfl⟩

/- Uvarint(). -/
theorem puv_any (p n c e : Nat) (x : Option Addr) (l : List Nat) (w : World) (h : PRd w p x n c l e) :
    Calls Try.prog 88 #[.pointer (some ⟨p, 0, none⟩)] w fun ed w' => ed = .returned (.int .u64 ((rUv l e).1 : Int)) ∧ PGo w w' p x (rUv l e).2.1 (rUv l e).2.2 := by
  have h1 := perr_any p e w h.wrong
  have hsm := h.small
  by_cases he : e = 0
  · subst he
    have h2 := leading_any x n c l w h.sl hsm
    have hc0 := h.rest
    have hc1 := h.wrong
    have hf0 := h.fr 0
    have hf1 := h.fr 1
    cases hl : lead l with
    | none =>
      rw [ld_none hl] at h2
      have HD : Hid (rUv l 0 = (0, l, 5) ∧ PGo w (w.setCell ⟨p, 1, none⟩ (.int .i64 5)) p x l 5) := ⟨rUv_no hl, (Turn.refl p w).setCell rfl _, x, n, c, h.setWrong 5, From.refl x⟩
      clear h hl
      go_enter Try.func88, Try.ntmps88
      go_wp2_with (first
        | (go_at_call 73; refine h1.mono ?_; rintro e w' ⟨rfl, rfl⟩; clear h1)
        | (go_at_call 93; refine h2.mono ?_; rintro e w' ⟨rfl, rfl⟩; clear h2))
      go_ret
      rw [HD.out.1]
      exact ⟨rfl, HD.out.2⟩
    | some q =>
      obtain ⟨N, k⟩ := q
      rw [ld_some hl] at h2
      have hk := (lead_canon h.sl.lt hl).2.2.1
      have hN := (lead_canon h.sl.lt hl).2.2.2
      have hkp := lead_pos h.sl.lt hl
      rw [h.sl.len] at hk
      have hcut := fun v => wcut_from x n c k v hk
      have hk0 : ((k : Int) == 0) = false := by simp; omega
      have HD : Hid (rUv l 0 = (N, l.drop k, 0) ∧ PGo w (w.setCell ⟨p, 0, none⟩ (.slice (cutTo x c k) (n - k) (c - k))) p x (l.drop k) 0) :=
        ⟨rUv_yes hl, (Turn.refl p w).setCell rfl _, _, _, _, h.setRest (h.sl.from k hk) ((From.cut x c k).ap h.ap) (by omega), From.cut x c k⟩
      clear h hl
      go_enter Try.func88, Try.ntmps88
      go_wp2_with (first
        | (go_at_call 73; refine h1.mono ?_; rintro e w' ⟨rfl, rfl⟩; clear h1)
        | (go_at_call 93; refine h2.mono ?_; rintro e w' ⟨rfl, rfl⟩; clear h2))
      go_ret
      rw [HD.out.1]
      exact ⟨rfl, HD.out.2⟩
  · have HD : Hid (rUv l e = (0, l, e) ∧ PGo w w p x l e) := ⟨rUv_bad he, Turn.refl p w, x, n, c, h, From.refl x⟩
    have hne : ((e : Int) != 0) = true := by simp; omega
    clear h
    go_enter Try.func88, Try.ntmps88
    go_wp2_with (go_at_call 73; refine h1.mono ?_; rintro e w' ⟨rfl, rfl⟩; clear h1)
    go_ret
    rw [HD.out.1]
    exact ⟨rfl, HD.out.2⟩

/- refuse(begin, wrong). -/
theorem prefuse_any (p n c e e' n' c' : Nat) (x x' : Option Addr) (l l' : List Nat) (w : World) (h : PRd w p x n c l e) (hs : Sl w x' n' c' l') (ha : ∀ a, x' = some a → a.block ≠ p) (hn : n' ≤ 140737488355328) :
    Calls Try.prog 89 #[.pointer (some ⟨p, 0, none⟩), .slice x' n' c', .int .i64 (e' : Int)] w fun ed w' => ed = .returned (.tuple #[]) ∧ PGo w w' p x' l' e' := by
  have hc0 := h.rest
  have hf0 := h.fr 0
  have hg := h.setRest hs ha hn
  have hc1 := hg.wrong
  have hf1 := hg.fr 1
  have HD : Hid (PGo w ((w.setCell ⟨p, 0, none⟩ (.slice x' n' c')).setCell ⟨p, 1, none⟩ (.int .i64 (e' : Int))) p x' l' e') := ⟨((Turn.refl p w).setCell rfl _).setCell rfl _, x', n', c', hg.setWrong e', From.refl x'⟩
  clear h hg hs ha
  go_enter Try.func89, Try.ntmps89
  go_wp2_with fail
  go_end0
  exact ⟨rfl, HD.out⟩

end Go.Proofs.Ytnddhlkdemibgaa

/-
  What the reader's fixed, Fixed4, Fixed8, Byte, Number and Bytes of package wire do: contracts over plain lists ('WiPlain').
  Conditions: bytes that are looked at lie in memory.
-/
namespace Go.Proofs.Ytnddhlkdemibgaa
open Go.RowKit Wi By
set_option linter.unusedVariables false
set_option linter.unusedSimpArgs false
set_option maxRecDepth 100000

theorem pow8 (k : Nat) : 256 ^ k = 2 ^ (8 * k) := by rw [Nat.pow_mul]

theorem le_digit {l : List Nat} {k N N2 : Nat} (hl : ∀ v ∈ l, v < 256) (hk : k < l.length) (hk7 : k ≤ 7) (hN : N = le (l.take k))
    (h : N < 2 ^ (8 * k) → gl l k * 2 ^ (8 * k) < 18446744073709551616 → N2 = N + gl l k * 2 ^ (8 * k)) : N2 = le (l.take (k + 1)) := by
  have h1 : le (l.take k) < 256 ^ (l.take k).length := le_lt _ (fun v hv => hl v (List.mem_of_mem_take hv))
  rw [List.length_take, Nat.min_eq_left (by omega)] at h1
  have hv := gl_lt hl k
  have hp : 256 ^ k ≤ 256 ^ 7 := Nat.pow_le_pow_right (by omega) hk7
  have hm : gl l k * 256 ^ k ≤ 255 * 256 ^ k := Nat.mul_le_mul_right _ (by omega)
  have e := h (by rw [← pow8, hN]; exact h1) (by rw [← pow8]; omega)
  rw [e, ← pow8, hN, le_take_succ l k hk]
  rfl

theorem rFx_bad {s : Nat} {l : List Nat} {e : Nat} (h : e ≠ 0) : rFx s l e = (0, l, e) := by unfold rFx; rw [if_pos h]
theorem rFx_no {s : Nat} {l : List Nat} (h : l.length < s) : rFx s l 0 = (0, l, 5) := by unfold rFx; rw [if_neg (by omega), if_pos h]
theorem rFx_yes {s : Nat} {l : List Nat} (h : s ≤ l.length) : rFx s l 0 = (le (l.take s), l.drop s, 0) := by unfold rFx; rw [if_neg (by omega), if_neg (by omega)]

theorem rFx_lt (s : Nat) (l : List Nat) (e : Nat) (hl : ∀ v ∈ l, v < 256) (hs : 0 < s) : (rFx s l e).1 < 256 ^ s := by
  by_cases h : e = 0
  · subst h
    by_cases h2 : l.length < s
    · rw [rFx_no h2]; exact Nat.pow_pos (by omega)
    · rw [rFx_yes (by omega)]
      have := le_lt (l.take s) (fun v hv => hl v (List.mem_of_mem_take hv))
      rw [List.length_take, Nat.min_eq_left (by omega)] at this
      exact this
  · rw [rFx_bad h]; exact Nat.pow_pos (by omega)

/- Number(most). -/
theorem rNum_bad {t : Int} {l : List Nat} {e : Nat} (h : e ≠ 0) : rNum t l e = (0, l, e) := by unfold rNum; rw [if_pos h]
theorem rNum_no {t : Int} {l : List Nat} (h : (rUv l 0).2.2 ≠ 0) : rNum t l 0 = (0, (rUv l 0).2.1, (rUv l 0).2.2) := by unfold rNum; rw [if_neg (by omega), if_pos h]
theorem rNum_long {t : Int} {l : List Nat} (h : (rUv l 0).2.2 = 0) (ht : t < 0 ∨ t < ((rUv l 0).1 : Int)) : rNum t l 0 = (0, l, 3) := by unfold rNum; rw [if_neg (by omega), if_neg (by omega), if_pos ht]
theorem rNum_yes {t : Int} {l : List Nat} (h : (rUv l 0).2.2 = 0) (ht : ¬ (t < 0 ∨ t < ((rUv l 0).1 : Int))) : rNum t l 0 = rUv l 0 := by unfold rNum; rw [if_neg (by omega), if_neg (by omega), if_neg ht]

theorem rNum_lt (t : Int) (l : List Nat) (e : Nat) (ht : t ≤ 9223372036854775807) : (rNum t l e).1 < 9223372036854775808 := by
  by_cases h : e = 0
  · subst h
    by_cases h2 : (rUv l 0).2.2 = 0
    · by_cases h3 : t < 0 ∨ t < ((rUv l 0).1 : Int)
      · rw [rNum_long h2 h3]; show 0 < _; omega
      · rw [rNum_yes h2 h3]; omega
    · rw [rNum_no h2]; show 0 < _; omega
  · rw [rNum_bad h]; show 0 < _; omega

theorem pnum_any (p n c e : Nat) (t : Int) (x : Option Addr) (l : List Nat) (w : World) (h : PRd w p x n c l e) (ht1 : -9223372036854775808 ≤ t) (ht2 : t ≤ 9223372036854775807) :
    Calls Try.prog 72 #[.pointer (some ⟨p, 0, none⟩), .int .i64 t] w fun ed w' => ed = .returned (.int .i64 ((rNum t l e).1 : Int)) ∧ PGo w w' p x (rNum t l e).2.1 (rNum t l e).2.2 := by
  have h1 := perr_any p e w h.wrong
  have hsm := h.small
  by_cases he : e = 0
  · subst he
    have hc0 := h.rest
    have hu : Calls Try.prog 88 #[.pointer (some ⟨p, 0, none⟩)] w fun ed w' => ed = .returned (.int .u64 ((rUv l 0).1 : Int)) ∧ w'.cell? ⟨p, 1, none⟩ = some (.int .i64 ((rUv l 0).2.2 : Int)) ∧ PGo w w' p x (rUv l 0).2.1 (rUv l 0).2.2 :=
      (puv_any p n c 0 x l w h).mono fun ed w' ⟨h1, h2⟩ => ⟨h1, by obtain ⟨_, x', n', c', h3, _⟩ := h2; exact h3.wrong, h2⟩
    have hN := rUv_lt l 0 h.sl.lt
    by_cases he2 : (rUv l 0).2.2 = 0
    · by_cases hlong : t < 0 ∨ t < ((rUv l 0).1 : Int)
      · have HD : Hid (rNum t l 0 = (0, l, 3)) := rNum_long he2 hlong
        have hr : ∀ v, PGo w v p x (rUv l 0).2.1 (rUv l 0).2.2 → Calls Try.prog 89 #[.pointer (some ⟨p, 0, none⟩), .slice x n c, .int .i64 3] v fun ed w' => ed = .returned (.tuple #[]) ∧ PGo w w' p x l 3 := fun v hv => by
          obtain ⟨t1, x', n', c', h3, h4⟩ := hv
          exact (prefuse_any p n' c' _ 3 n c x' x _ l v h3 (h.sl.turn t1 h.ap) h.ap hsm).mono fun ed w' ⟨h5, h6⟩ => ⟨h5, t1.trans h6.1, h6.2⟩
        rw [he2] at hu hr
        generalize (rUv l 0).1 = N at *
        generalize (rUv l 0).2.1 = l2 at *
        clear h he2
        by_cases hneg : t < 0
        · clear hlong
          go_enter Try.func72, Try.ntmps72
          go_wp2_with (first
            | (go_at_call 73; refine h1.mono ?_; rintro e w' ⟨rfl, rfl⟩; clear h1)
            | (go_at_call 88; refine hu.mono ?_; rintro e w2 ⟨rfl, hc2, hg⟩; clear hu)
            | (go_at_call 89; refine (hr _ hg).mono ?_; rintro e w3 ⟨rfl, hg3⟩; clear hr))
          go_ret
          rw [HD.out]
          exact ⟨rfl, hg3⟩
        · have hl2 : t < (N : Int) := by omega
          have hneg' : (0 : Int) ≤ t := by omega
          clear hlong hneg
          go_enter Try.func72, Try.ntmps72
          go_wp2_with (first
            | (go_at_call 73; refine h1.mono ?_; rintro e w' ⟨rfl, rfl⟩; clear h1)
            | (go_at_call 88; refine hu.mono ?_; rintro e w2 ⟨rfl, hc2, hg⟩; clear hu)
            | (go_at_call 89; refine (hr _ hg).mono ?_; rintro e w3 ⟨rfl, hg3⟩; clear hr))
          go_ret
          rw [HD.out]
          exact ⟨rfl, hg3⟩
      · have HD : Hid (rNum t l 0 = ((rUv l 0).1, (rUv l 0).2.1, 0)) := by
          show rNum t l 0 = _
          rw [rNum_yes he2 hlong]
          exact Prod.ext rfl (Prod.ext rfl he2)
        rw [he2] at hu
        generalize (rUv l 0).1 = N at *
        generalize (rUv l 0).2.1 = l2 at *
        have hl2 : (N : Int) ≤ t := by omega
        have hneg' : (0 : Int) ≤ t := by omega
        clear h hlong he2
        go_enter Try.func72, Try.ntmps72
        go_wp2_with (first
          | (go_at_call 73; refine h1.mono ?_; rintro e w' ⟨rfl, rfl⟩; clear h1)
          | (go_at_call 88; refine hu.mono ?_; rintro e w2 ⟨rfl, hc2, hg⟩; clear hu))
        go_ret
        rw [HD.out]
        exact ⟨rfl, hg⟩
    · have HD : Hid (rNum t l 0 = (0, (rUv l 0).2.1, (rUv l 0).2.2)) := rNum_no he2
      generalize (rUv l 0).1 = N at *
      generalize (rUv l 0).2.1 = l2 at *
      generalize (rUv l 0).2.2 = e2 at *
      have hne : ((e2 : Int) != 0) = true := by simp; omega
      clear h
      go_enter Try.func72, Try.ntmps72
      go_wp2_with (first
        | (go_at_call 73; refine h1.mono ?_; rintro e w' ⟨rfl, rfl⟩; clear h1)
        | (go_at_call 88; refine hu.mono ?_; rintro e w2 ⟨rfl, hc2, hg⟩; clear hu))
      go_ret
      rw [HD.out]
      exact ⟨rfl, hg⟩
  · have HD : Hid (rNum t l e = (0, l, e) ∧ PGo w w p x l e) := ⟨rNum_bad he, Turn.refl p w, x, n, c, h, From.refl x⟩
    have hne : ((e : Int) != 0) = true := by simp; omega
    clear h
    go_enter Try.func72, Try.ntmps72
    go_wp2_with (go_at_call 73; refine h1.mono ?_; rintro e w' ⟨rfl, rfl⟩; clear h1)
    go_ret
    rw [HD.out.1]
    exact ⟨rfl, HD.out.2⟩

/- Bytes(most). -/
theorem rBy_bad {t : Int} {l : List Nat} {e : Nat} (h : e ≠ 0) : rBy t l e = ([], l, e) := by unfold rBy; rw [if_pos h]
theorem rBy_no {t : Int} {l : List Nat} (h : (rNum t l 0).2.2 ≠ 0) : rBy t l 0 = ([], (rNum t l 0).2.1, (rNum t l 0).2.2) := by unfold rBy; rw [if_neg (by omega), if_pos h]
theorem rBy_few {t : Int} {l : List Nat} (h : (rNum t l 0).2.2 = 0) (h2 : (rNum t l 0).2.1.length < (rNum t l 0).1) : rBy t l 0 = ([], l, 5) := by unfold rBy; rw [if_neg (by omega), if_neg (by omega), if_pos h2]
theorem rBy_yes {t : Int} {l : List Nat} (h : (rNum t l 0).2.2 = 0) (h2 : (rNum t l 0).1 ≤ (rNum t l 0).2.1.length) : rBy t l 0 = ((rNum t l 0).2.1.take (rNum t l 0).1, (rNum t l 0).2.1.drop (rNum t l 0).1, 0) := by unfold rBy; rw [if_neg (by omega), if_neg (by omega), if_neg (by omega)]

def PTold (w w' : World) (p : Nat) (x : Option Addr) (v : Value) (k l' : List Nat) (e' : Nat) : Prop := PGo w w' p x l' e' ∧ ∃ y cy, v = .slice y k.length cy ∧ Sl w' y k.length cy k ∧ ∀ a, y = some a → w.heap.size ≤ a.block

end Go.Proofs.Ytnddhlkdemibgaa

/-
  Package atlas plainly: pools, OSDs, maps and changes that may be, what a change makes of a map.
  Conditions: none.
-/
namespace Go.Proofs.Ytnddhlkdemibgaa.At
open Go.RowKit By Fl
set_option linter.unusedVariables false
set_option linter.unusedSimpArgs false
set_option maxRecDepth 100000

structure Osd where
  id : Int
  up : Bool
  inn : Bool
  wt : Int
  life : Int
  boot : Int
  host : Int
  rack : Int

structure Pool where
  k : Int
  m : Int
  pgs : Int
  dom : Int

structure Mp where
  ep : Int
  pool : Pool
  osds : List Osd

structure Ch where
  kind : Int
  osd : Osd

def eqO (a b : Osd) : Bool := decide (a.id = b.id) && (a.up == b.up) && (a.inn == b.inn) && decide (a.wt = b.wt) && decide (a.life = b.life) && decide (a.boot = b.boot) && decide (a.host = b.host) && decide (a.rack = b.rack)
def eqP (a b : Pool) : Bool := decide (a.k = b.k) && decide (a.m = b.m) && decide (a.pgs = b.pgs) && decide (a.dom = b.dom)
def eqC (a b : Ch) : Bool := decide (a.kind = b.kind) && eqO a.osd b.osd

theorem eqO_iff (a b : Osd) : eqO a b = true ↔ a = b := by
  cases a; cases b
  simp [eqO, and_assoc]
theorem eqP_iff (a b : Pool) : eqP a b = true ↔ a = b := by
  cases a; cases b
  simp [eqP, and_assoc]
theorem eqC_iff (a b : Ch) : eqC a b = true ↔ a = b := by
  cases a; cases b
  simp [eqC, eqO_iff]

def eqL : List Osd → List Osd → Bool
  | [], [] => true
  | a :: l, b :: r => eqO a b && eqL l r
  | _, _ => false

theorem eqL_iff : ∀ a b : List Osd, eqL a b = true ↔ a = b
  | [], [] => by simp [eqL]
  | [], b :: r => by simp [eqL]
  | a :: l, [] => by simp [eqL]
  | a :: l, b :: r => by simp [eqL, eqO_iff, eqL_iff l r]

def eqM (a b : Mp) : Bool := decide (a.ep = b.ep) && eqP a.pool b.pool && eqL a.osds b.osds

theorem eqM_iff (a b : Mp) : eqM a b = true ↔ a = b := by
  cases a; cases b
  simp [eqM, eqP_iff, eqL_iff, and_assoc]

def wi (n a b : Int) : Bool := decide (a ≤ n) && decide (n ≤ b)
def poolB (p : Pool) : Bool := decide (1 ≤ p.k) && wi p.m 1 (32 - p.k) && wi p.pgs 1 32 && wi p.dom 0 2
def least (u : Bool) : Int := if u then 1 else 0
def osdB (o : Osd) : Bool := wi o.id 0 999 && wi o.host 0 999 && wi o.rack 0 999 && wi o.wt 0 16777216 && wi o.life (least o.up) 2147483647 && wi o.boot (least o.up) 2147483647
def mvB (o x : Osd) : Bool := decide (x.host = o.host) && !decide (x.rack = o.rack)
def movedB (L : List Osd) (o : Osd) : Bool := L.any (mvB o)
def lowB (a b : Osd) : Bool := decide (b.id < a.id) && !mvB a b
def goodB (L : List Osd) : Bool := (List.range L.length).all fun i => match L[i]? with | some a => osdB a && (L.take i).all (lowB a) | none => true
def osdsB (L : List Osd) : Bool := decide (L.length ≤ 64) && goodB L
def mayM (m : Mp) : Bool := wi m.ep 0 1048576 && poolB m.pool && osdsB m.osds

def noO (id : Int) : Osd := ⟨id, false, false, 0, 0, 0, 0, 0⟩
def noP : Pool := ⟨0, 0, 0, 0⟩
def noM : Mp := ⟨0, noP, []⟩
def noC : Ch := ⟨0, noO 0⟩

def upB (o : Osd) : Bool := eqO o ⟨o.id, false, false, 0, o.life, o.boot, 0, 0⟩ && (wi o.id 0 999 && wi o.life 1 2147483647 && wi o.boot 1 2147483647)
def idB (o : Osd) : Bool := eqO o (noO o.id) && wi o.id 0 999
def wtB (o : Osd) : Bool := eqO o ⟨o.id, false, false, o.wt, 0, 0, 0, 0⟩ && (wi o.id 0 999 && wi o.wt 0 16777216)
def mayK (k : Int) (o : Osd) : Bool := if k = 1 then osdB o else if k = 2 then upB o else if k = 6 then wtB o else idB o
def mayC (c : Ch) : Bool := wi c.kind 1 6 && mayK c.kind c.osd

def isId (id : Int) (x : Osd) : Bool := decide (x.id = id)
def overId (id : Int) (x : Osd) : Bool := decide (id < x.id)
def idx (p : Osd → Bool) (L : List Osd) : Int := match L.findIdx? p with | some k => (k : Int) | none => -1
def ins (o : Osd) (L : List Osd) : List Osd := match L.findIdx? (overId o.id) with | some k => L.take k ++ o :: L.drop k | none => L ++ [o]

def setUp (o x : Osd) : Osd := ⟨x.id, true, x.inn, x.wt, o.life, o.boot, x.host, x.rack⟩
def setDown (o x : Osd) : Osd := ⟨x.id, false, x.inn, x.wt, x.life, x.boot, x.host, x.rack⟩
def setIn (o x : Osd) : Osd := ⟨x.id, x.up, true, x.wt, x.life, x.boot, x.host, x.rack⟩
def setOut (o x : Osd) : Osd := ⟨x.id, x.up, false, x.wt, x.life, x.boot, x.host, x.rack⟩
def setWt (o x : Osd) : Osd := ⟨x.id, x.up, x.inn, o.wt, x.life, x.boot, x.host, x.rack⟩
def byK (k : Int) (o x : Osd) : Osd := if k = 2 then setUp o x else if k = 3 then setDown o x else if k = 4 then setIn o x else if k = 5 then setOut o x else setWt o x

def turnP (L : List Osd) (id : Int) (f : Osd → Osd) : Int × List Osd :=
  match L.findIdx? (isId id) with
  | none => (4, L)
  | some k => match L[k]? with
    | none => (4, L)
    | some x => if eqO (f x) x then (6, L) else (0, L.set k (f x))

def addP (L : List Osd) (o : Osd) : Int × List Osd :=
  if (L.findIdx? (isId o.id)).isSome then (6, L) else if 64 ≤ L.length then (2, L) else if movedB L o then (1, L) else (0, ins o L)

def doP (k : Int) (L : List Osd) (o : Osd) : Int × List Osd := if k = 1 then addP L o else turnP L o.id (byK k o)

def advP (m : Mp) (c : Ch) : Int × Mp :=
  if mayC c = false ∨ m.ep = 1048576 then (1, m) else if (doP c.kind m.osds c.osd).1 = 0 then (0, ⟨m.ep + 1, m.pool, (doP c.kind m.osds c.osd).2⟩) else ((doP c.kind m.osds c.osd).1, m)

def foldP (m : Mp) : List Ch → List Int × Mp
  | [] => ([], m)
  | c :: l => ((advP m c).1 :: (foldP (advP m c).2 l).1, (foldP (advP m c).2 l).2)

theorem foldP_snoc : ∀ (l : List Ch) (m : Mp) (c : Ch), foldP m (l ++ [c]) = ((foldP m l).1 ++ [(advP (foldP m l).2 c).1], (advP (foldP m l).2 c).2)
  | [], m, c => by simp [foldP]
  | d :: l, m, c => by simp [foldP, foldP_snoc l]

theorem foldP_len : ∀ (l : List Ch) (m : Mp), (foldP m l).1.length = l.length
  | [], m => by simp [foldP]
  | d :: l, m => by simp [foldP, foldP_len l]

/- What goodB says. -/
def Good (L : List Osd) : Prop := ∀ (i : Nat) (a : Osd), L[i]? = some a → osdB a = true ∧ ∀ (k : Nat) (b : Osd), k < i → L[k]? = some b → lowB a b = true

theorem goodB_iff (L : List Osd) : goodB L = true ↔ Good L := by
  unfold goodB Good
  rw [List.all_eq_true]
  constructor
  · intro h i a ha
    have hi := (List.getElem?_eq_some_iff.1 ha).1
    have := h i (List.mem_range.2 hi)
    rw [ha] at this
    simp only [Bool.and_eq_true, List.all_eq_true] at this
    refine ⟨this.1, fun k b hk hb => this.2 b ?_⟩
    have hkl := (List.getElem?_eq_some_iff.1 hb).1
    rw [List.mem_iff_getElem?]
    exact ⟨k, by rw [List.getElem?_take, if_pos hk]; exact hb⟩
  · intro h i hi
    rw [List.mem_range] at hi
    rw [List.getElem?_eq_getElem hi]
    obtain ⟨h1, h2⟩ := h i L[i] (List.getElem?_eq_getElem hi)
    simp only [Bool.and_eq_true, List.all_eq_true]
    refine ⟨h1, fun b hb => ?_⟩
    obtain ⟨k, hk⟩ := List.mem_iff_getElem?.1 hb
    rw [List.getElem?_take] at hk
    split at hk
    · rename_i hki
      exact h2 k b hki hk
    · cases hk

theorem goodB_false {L : List Osd} {i : Nat} {a : Osd} (ha : L[i]? = some a) (h : osdB a = false ∨ ∃ k b, k < i ∧ L[k]? = some b ∧ lowB a b = false) : goodB L = false := by
  cases hg : goodB L with
  | false => rfl
  | true =>
    obtain ⟨h1, h2⟩ := (goodB_iff L).1 hg i a ha
    rcases h with h | ⟨k, b, hk, hb, h⟩
    · rw [h1] at h; cases h
    · rw [h2 k b hk hb] at h; cases h

theorem wi_iff (n a b : Int) : wi n a b = true ↔ a ≤ n ∧ n ≤ b := by simp [wi]
theorem wi_false (n a b : Int) : wi n a b = false ↔ n < a ∨ b < n := by
  rw [← Bool.not_eq_true, wi_iff]
  omega

theorem lowB_iff (a b : Osd) : lowB a b = true ↔ b.id < a.id ∧ (b.host = a.host → b.rack = a.rack) := by
  simp only [lowB, mvB, Bool.and_eq_true, decide_eq_true_eq, Bool.not_eq_true', Bool.and_eq_false_iff, decide_eq_false_iff_not, Bool.not_eq_false']
  constructor
  · rintro ⟨h1, h2⟩
    exact ⟨h1, fun h => h2.resolve_left (fun k => k h)⟩
  · rintro ⟨h1, h2⟩
    refine ⟨h1, ?_⟩
    by_cases h : b.host = a.host
    · exact .inr (h2 h)
    · exact .inl h

theorem moved_iff (L : List Osd) (o : Osd) : movedB L o = true ↔ ∃ x ∈ L, x.host = o.host ∧ x.rack ≠ o.rack := by
  simp [movedB, mvB]
theorem moved_no (L : List Osd) (o : Osd) : movedB L o = false ↔ ∀ x ∈ L, x.host = o.host → x.rack = o.rack := by
  simp [movedB, mvB]

/- Where the first one is. -/
theorem idx_hit {p : Osd → Bool} {L : List Osd} {k : Nat} {a : Osd} (hk : L[k]? = some a) (ha : p a = true) (hj : ∀ (j : Nat) (b : Osd), j < k → L[j]? = some b → p b = false) : L.findIdx? p = some k := by
  obtain ⟨hlt, e⟩ := List.getElem?_eq_some_iff.1 hk
  rw [List.findIdx?_eq_some_iff_getElem]
  refine ⟨hlt, by rw [e]; exact ha, fun j hji => ?_⟩
  have := hj j L[j] hji (List.getElem?_eq_getElem _)
  simp [this]

theorem idx_miss {p : Osd → Bool} {L : List Osd} (h : ∀ (j : Nat) (b : Osd), L[j]? = some b → p b = false) : L.findIdx? p = none := by
  rw [List.findIdx?_eq_none_iff]
  intro x hx
  obtain ⟨k, hk⟩ := List.mem_iff_getElem?.1 hx
  exact h k x hk

theorem idx_some {p : Osd → Bool} {L : List Osd} {k : Nat} (h : L.findIdx? p = some k) : ∃ a, L[k]? = some a ∧ p a = true ∧ ∀ (j : Nat) (b : Osd), j < k → L[j]? = some b → p b = false := by
  rw [List.findIdx?_eq_some_iff_getElem] at h
  obtain ⟨hlt, ha, hj⟩ := h
  refine ⟨L[k], List.getElem?_eq_getElem hlt, ha, fun j b hjk hb => ?_⟩
  have := hj j hjk
  obtain ⟨hl, e⟩ := List.getElem?_eq_some_iff.1 hb
  rw [e] at this
  simpa using this

theorem idx_none {p : Osd → Bool} {L : List Osd} (h : L.findIdx? p = none) (j : Nat) (b : Osd) (hb : L[j]? = some b) : p b = false := by
  rw [List.findIdx?_eq_none_iff] at h
  exact h b (List.mem_of_getElem? hb)

end Go.Proofs.Ytnddhlkdemibgaa.At

/-
  Pools, OSDs, maps and changes as they lie in memory; lists of OSDs that are read.
  Conditions: none.
-/
namespace Go.Proofs.Ytnddhlkdemibgaa.At
open Go.RowKit By Fl
set_option linter.unusedVariables false
set_option linter.unusedSimpArgs false
set_option maxRecDepth 100000

def wfi (a : Int) : Prop := (Lit.int .i64 a).wf = true

theorem keep {w v : World} {b o : Nat} {x : Value} (hb : Below w.heap.size w v) (h : w.cell? ⟨b, o, none⟩ = some x) : v.cell? ⟨b, o, none⟩ = some x := (hb.cell (p := ⟨b, o, none⟩) (cell_lt' h)).trans h
theorem keepf {w v : World} {b o : Nat} (hb : Below w.heap.size w v) (hlt : b < w.heap.size) (h : w.frozen? ⟨b, o, none⟩ = false) : v.frozen? ⟨b, o, none⟩ = false := by
  rw [← h]
  exact World.frozen?_of_block (a := ⟨b, o, none⟩) (hb.block b hlt)
theorem on {a b c : World} (h : Below a.heap.size a b) (k : Below b.heap.size b c) : Below a.heap.size a c := h.trans (k.mono h.size)
theorem al (w : World) (o : Obj) : Below w.heap.size w (w.alloc o) := (Below.refl _ w).alloc (Nat.le_refl _) _

def enO (o : Osd) : List Value := [.int .i64 o.id, .bool o.up, .bool o.inn, .int .i64 o.wt, .int .i64 o.life, .int .i64 o.boot, .int .i64 o.host, .int .i64 o.rack]
def enP (p : Pool) : List Value := [.int .i64 p.k, .int .i64 p.m, .int .i64 p.pgs, .int .i64 p.dom]
def enC (c : Ch) : List Value := [.int .i64 c.kind, .int .i64 c.osd.id, .bool c.osd.up, .bool c.osd.inn, .int .i64 c.osd.wt, .int .i64 c.osd.life, .int .i64 c.osd.boot, .int .i64 c.osd.host, .int .i64 c.osd.rack]
def vO (o : Osd) : Value := .agg #[.int .i64 o.id, .bool o.up, .bool o.inn, .int .i64 o.wt, .int .i64 o.life, .int .i64 o.boot, .int .i64 o.host, .int .i64 o.rack]
def vP (p : Pool) : Value := .agg #[.int .i64 p.k, .int .i64 p.m, .int .i64 p.pgs, .int .i64 p.dom]
def vC (c : Ch) : Value := .agg #[.int .i64 c.kind, .int .i64 c.osd.id, .bool c.osd.up, .bool c.osd.inn, .int .i64 c.osd.wt, .int .i64 c.osd.life, .int .i64 c.osd.boot, .int .i64 c.osd.host, .int .i64 c.osd.rack]
def vM (ep : Int) (p : Pool) (x : Option Addr) (n c : Nat) : Value := .agg #[.int .i64 ep, .int .i64 p.k, .int .i64 p.m, .int .i64 p.pgs, .int .i64 p.dom, .slice x n c]

/- A list of OSDs that is read. -/
structure Os (w : World) (x : Option Addr) (n c : Nat) (L : List Osd) : Prop where
  len : L.length = n
  le : n ≤ c
  small : n ≤ 140737488351232
  nil : x = none → n = 0 ∧ c = 0
  row : n = 0 ∨ ∃ b o, x = some ⟨b, o, none⟩ ∧ b < w.heap.size ∧ ∀ (k : Nat) (a : Osd), L[k]? = some a → ∀ (j : Nat) (v : Value), (enO a)[j]? = some v → w.cell? ⟨b, o + k * 8 + j, none⟩ = some v

theorem Os.below {w w' : World} {x : Option Addr} {n c : Nat} {L : List Osd} (h : Os w x n c L) (hb : Below w.heap.size w w') : Os w' x n c L := by
  refine ⟨h.len, h.le, h.small, h.nil, ?_⟩
  rcases h.row with h0 | ⟨b, o, h1, h2, h3⟩
  · exact .inl h0
  · exact .inr ⟨b, o, h1, Nat.lt_of_lt_of_le h2 hb.size, fun k a hk j v hv => keep hb (h3 k a hk j v hv)⟩

theorem Os.turns {w w' : World} {G : Nat → Prop} {x : Option Addr} {n c : Nat} {L : List Osd} (h : Os w x n c L) (t : Turns G w w') (hx : n ≠ 0 → ∀ a, x = some a → ¬ G a.block) : Os w' x n c L := by
  refine ⟨h.len, h.le, h.small, h.nil, ?_⟩
  rcases h.row with h0 | ⟨b, o, h1, h2, h3⟩
  · exact .inl h0
  · by_cases h0 : n = 0
    · exact .inl h0
    · exact .inr ⟨b, o, h1, Nat.lt_of_lt_of_le h2 t.size, fun k a hk j v hv => (World.cell?_of_block (a := ⟨b, o + k * 8 + j, none⟩) (t.block b h2 (hx h0 _ h1))).trans (h3 k a hk j v hv)⟩

theorem Os.take {w : World} {x : Option Addr} {n c k : Nat} {L : List Osd} (h : Os w x n c L) (hk : k ≤ n) : Os w x k c (L.take k) := by
  have hl := h.len
  refine ⟨by rw [List.length_take]; omega, by have := h.le; omega, by have := h.small; omega, fun e => by have := h.nil e; omega, ?_⟩
  rcases h.row with h0 | ⟨b, o, h1, h2, h3⟩
  · exact .inl (by omega)
  · refine .inr ⟨b, o, h1, h2, fun q a hq j v hv => h3 q a ?_ j v hv⟩
    rw [List.getElem?_take] at hq
    split at hq
    · exact hq
    · cases hq

/- Its k-th one. -/
theorem Os.at {w : World} {b o n c k : Nat} {L : List Osd} {a : Osd} (h : ∀ (k : Nat) (a : Osd), L[k]? = some a → ∀ (j : Nat) (v : Value), (enO a)[j]? = some v → w.cell? ⟨b, o + k * 8 + j, none⟩ = some v) (hk : L[k]? = some a) :
    w.cell? ⟨b, o + k * 8, none⟩ = some (.int .i64 a.id) ∧ w.cell? ⟨b, o + k * 8 + 1, none⟩ = some (.bool a.up) ∧ w.cell? ⟨b, o + k * 8 + 2, none⟩ = some (.bool a.inn) ∧ w.cell? ⟨b, o + k * 8 + 3, none⟩ = some (.int .i64 a.wt) ∧
    w.cell? ⟨b, o + k * 8 + 4, none⟩ = some (.int .i64 a.life) ∧ w.cell? ⟨b, o + k * 8 + 5, none⟩ = some (.int .i64 a.boot) ∧ w.cell? ⟨b, o + k * 8 + 6, none⟩ = some (.int .i64 a.host) ∧ w.cell? ⟨b, o + k * 8 + 7, none⟩ = some (.int .i64 a.rack) :=
  ⟨h k a hk 0 _ rfl, h k a hk 1 _ rfl, h k a hk 2 _ rfl, h k a hk 3 _ rfl, h k a hk 4 _ rfl, h k a hk 5 _ rfl, h k a hk 6 _ rfl, h k a hk 7 _ rfl⟩

theorem orow : Row 24 28 8 56 enO := by
  have hi : (Try.prog.info? 28).map (fun i => (i.zero, i.size, i.bytes)) = some (some (.agg #[.int .i64 0, .bool false, .bool false, .int .i64 0, .int .i64 0, .int .i64 0, .int .i64 0, .int .i64 0]), 8, 56) := by kernel_rfl
  obtain ⟨i0, h1, h2, h3, h4⟩ := info_parts hi
  exact ⟨Try.underlying24, ⟨i0, _, h1, h2, h3, h4, rfl⟩, by decide, by decide, fun a => rfl, fun a v hv => by simp [enO] at hv; rcases hv with rfl | rfl | rfl | rfl | rfl | rfl | rfl | rfl <;> rfl⟩

/- A list of one's own is one that is read. -/
theorem own_os {w : World} {B : Nat} {x : Option Addr} {n c : Nat} {L : List Osd} (h : Own w B 28 8 enO (.slice x n c) L) (hs : L.length ≤ 140737488351232) : Os w x n c L := by
  obtain ⟨x', c', e, h1, h2, h3⟩ := h.form
  injection e with e1 e2 e3
  subst e1 e2 e3
  refine ⟨rfl, h1, hs, h2, ?_⟩
  by_cases h0 : L.length = 0
  · exact .inl h0
  · cases x with
    | none => exact .inl (h2 rfl).1
    | some ad =>
      obtain ⟨g, rfl, hB, hg⟩ := h3 ad rfl
      exact .inr ⟨g, 0, rfl, hg, fun k a hk j v hv => by rw [Nat.zero_add]; exact h.cell orow.len hk hv⟩

theorem eq_osd (a b : Osd) (w : World) : (binOp .eql 28 (vO a) (vO b)).run Try.prog w = .ok (.bool (eqO a b)) w := by
  obtain ⟨a0, a1, a2, a3, a4, a5, a6, a7⟩ := a
  obtain ⟨b0, b1, b2, b3, b4, b5, b6, b7⟩ := b
  unfold vO eqO
  dsimp only
  go_simp
  by_cases e0 : a0 = b0 <;> by_cases e1 : a1 = b1 <;> by_cases e2 : a2 = b2 <;> by_cases e3 : a3 = b3 <;> by_cases e4 : a4 = b4 <;> by_cases e5 : a5 = b5 <;> by_cases e6 : a6 = b6 <;> by_cases e7 : a7 = b7 <;> simp [e0, e1, e2, e3, e4, e5, e6, e7]

end Go.Proofs.Ytnddhlkdemibgaa.At

/-
  A region that draws its order, whose operations only read, and whose callees read and lay blocks of their own: walked once.
  Conditions: none.
-/
namespace Go.Proofs.Ytnddhlkdemibgaa.At
open Go.RowKit By Fl
set_option linter.unusedVariables false
set_option linter.unusedSimpArgs false
set_option maxRecDepth 100000

/- A world in which all that lay in w lies unturned. -/
structure After (w : World) where
  W : World
  h : Below w.heap.size w W

theorem After.ne (w : World) : Nonempty (After w) := ⟨⟨w, Below.refl _ _⟩⟩

theorem wp_region_after {P : Program} {id : Nat} {Q : Exit → Act → World → Prop} {a : Act} {w : World} {l : List Oper} (hm : P.follows .mixedOrders = true) (hB : Region.lexB .any l.toArray = true)
    (h : wpQuiet P l.toArray (fun w' => ∃ p : After w, w' = p.W) (fun a' => ∀ w', (∃ p : After w, w' = p.W) → Q .normal a' w') l a) : (Code.region id l.toArray true).wp P Q a w :=
  wp_region_quiet (C := fun w' => ∃ p : After w, w' = p.W) hm hB ⟨⟨w.drew, (Below.refl _ _).drew⟩, rfl⟩ (by simpa using h)

theorem Calls.after_of {P : Program} {f : FuncId} {args : Array Value} {w : World} {p : After w} {v : Value}
    (h : Calls P f args p.W fun e w' => e = .returned v ∧ Below p.W.heap.size p.W w') : Calls P f args p.W fun e w'' => e = .returned v ∧ ∃ q : After w, w'' = q.W :=
  h.mono fun _ w' ⟨he, hb⟩ => ⟨he, ⟨w', on p.h hb⟩, rfl⟩

theorem Calls.after_same {P : Program} {f : FuncId} {args : Array Value} {w : World} {p : After w} {v : Value}
    (h : Calls P f args p.W fun e w' => e = .returned v ∧ w' = p.W) : Calls P f args p.W fun e w'' => e = .returned v ∧ ∃ q : After w, w'' = q.W :=
  h.mono fun _ w' ⟨he, hb⟩ => ⟨he, p, hb⟩

theorem After.cell {w : World} {b o : Nat} {v : Value} (h : w.cell? ⟨b, o, none⟩ = some v) (p : After w) : p.W.cell? ⟨b, o, none⟩ = some v := keep p.h h

theorem results_cell1 {fn : Func} {p : Tmp} {ty : TypeId} (h : fn.results = #[.cell p ty]) (tmps : Array Value) (P : Program) (w : World) :
    (results fn tmps).run P w = ((asAddr (tmps.getD p undef)).run P w).andThen fun a w₁ => (loadVar ty a).run P w₁ := by
  simp only [results, h]
  simp [Sem.run_bind, Result.andThen]

end Go.Proofs.Ytnddhlkdemibgaa.At
