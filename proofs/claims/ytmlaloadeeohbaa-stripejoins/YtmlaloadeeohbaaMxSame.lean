/-
  What the document's Same does: contracts over plain numbers.
  Conditions: the rows lie in memory.
-/
import Derived.Test.YtmlaloadeeohbaaMxCheck
import Derived.Test.YtmlaloadeeohbaaGfSame
namespace Go.Proofs.Ytmlaloadeeohbaa
open Go.RowKit Gf
set_option linter.unusedVariables false

theorem same_zero (x y : Option Addr) (c1 c2 : Nat) (w : World) :
    Calls Try.prog 14 #[.slice x 0 c1, .slice y 0 c2] w fun e w' => e = .returned (.bool true) ∧ w' = w := by
  go_enter Try.func14, Try.ntmps14
  go_wp2_with fail
  refine wp_loop_rounds 1 ?_
  rw [rounds_succ]
  go_wp2_with fail
  go_ret
  exact ⟨rfl, rfl⟩

set_option maxHeartbeats 1000000 in
set_option maxRecDepth 100000 in
theorem same_rows (b1 o1 b2 o2 n m c1 c2 : Nat) (G1 O1 C1 G2 O2 C2 : Nat → Nat) (f g : Nat → Nat → Nat) (w : World) (hn : n ≤ 1000) (h1 : Mat w b1 o1 n m G1 O1 C1 f) (h2 : Mat w b2 o2 n m G2 O2 C2 g) (hfg : ∀ r, r < n → ∀ j, j < m → f r j = g r j) :
    Calls Try.prog 14 #[.slice (some ⟨b1, o1, none⟩) n c1, .slice (some ⟨b2, o2, none⟩) n c2] w fun e w' => e = .returned (.bool true) ∧ ∃ m, w' = w.drewN m := by
  go_enter Try.func14, Try.ntmps14
  go_wp2_with fail
  go_loopw [5] (fun i wr => ∃ k : Nat, k ≤ n ∧ i = .int .i64 k ∧ Hid (∃ m, wr = w.drewN m)) (fun i _ => n - (intOf i).toNat)
  case atStart => exact ⟨0, by omega, rfl, ⟨0, rfl⟩⟩
  case round =>
    obtain ⟨k, hk, rfl, HW⟩ := hrel
    by_cases hlt : k < n
    · have t1 : wr.cell? ⟨b1, o1 + k, none⟩ = some (.slice (some ⟨G1 k, O1 k, none⟩) m (C1 k)) := by obtain ⟨m, hm⟩ := HW.out; rw [hm]; exact h1.top k hlt
      have t2 : wr.cell? ⟨b2, o2 + k, none⟩ = some (.slice (some ⟨G2 k, O2 k, none⟩) m (C2 k)) := by obtain ⟨m, hm⟩ := HW.out; rw [hm]; exact h2.top k hlt
      have r1 : RowAt wr (some ⟨G1 k, O1 k, none⟩) m (f k) := by obtain ⟨m, hm⟩ := HW.out; rw [hm]; exact h1.row hlt
      have r2 : RowAt wr (some ⟨G2 k, O2 k, none⟩) m (f k) := by
        obtain ⟨m', hm⟩ := HW.out
        rw [hm]
        exact .inr ⟨_, _, rfl, h2.hG k hlt, fun i hi => by rw [hfg k hlt i hi]; exact h2.cell k hlt i hi⟩
      have v1 := conv_row wr _ m (C1 k) (f k) r1
      have v2 := conv_row wr _ m (C2 k) (f k) r2
      have v1d := conv_row wr.drew _ m (C1 k) (f k) r1
      have v2d := conv_row wr.drew _ m (C2 k) (f k) r2
      have hkn : (k : Int) < (n : Int) := by omega
      generalize strOfNums (nums (f k) m) = S at v1 v2 v1d v2d
      clear r1 r2 h1 h2 hfg
      go_wp2_with fail
      go_region
      go_wp2_with fail
      go_roundw
      case rel => exact ⟨k + 1, by omega, by go_num, drewN_more (n := 1) HW.out⟩
      case measure => simp [intOf]; omega
    · have hk2 : k = n := by omega
      subst hk2
      clear h1 h2 hfg
      go_wp2_with fail
      go_ret
      exact ⟨rfl, HW.out⟩

end Go.Proofs.Ytmlaloadeeohbaa
