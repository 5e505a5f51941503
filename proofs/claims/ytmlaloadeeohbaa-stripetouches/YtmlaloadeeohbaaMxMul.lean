/-
  What Mul of package matrix does: contracts over plain numbers.
  Conditions: rows that are looked at lie in memory.
-/
import Derived.Test.YtmlaloadeeohbaaMxCheck
namespace Go.Proofs.Ytmlaloadeeohbaa
open Go.RowKit Gf
set_option linter.unusedVariables false

/- Rows that are filled, one cell after the other. -/
def fillTo (Z : Nat → Nat → Nat) (k i : Nat) : Nat → Nat → Nat := fun s j => if s < k then Z s j else if s = k ∧ j < i then Z s j else 0

theorem fillTo_lt {Z : Nat → Nat → Nat} (hZ : ∀ r j, Z r j < 256) (k i s j : Nat) : fillTo Z k i s j < 256 := by
  unfold fillTo
  split
  · exact hZ _ _
  · split
    · exact hZ _ _
    · omega

theorem fill_step {base : Nat} {w : World} {b n m k i : Nat} {G C : Nat → Nat} {Z : Nat → Nat → Nat} (hZ : ∀ r j, Z r j < 256) (h : Own base w b n m G C (fillTo Z k i)) (hk : k < n) (hi : i < m) :
    Own base (w.setCell ⟨G k, i, none⟩ (.int .u8 ((Z k i : Nat) : Int))) b n m G C (fillTo Z k (i + 1)) := by
  refine (h.store hk hi (hZ k i)).congr (fun s hs j hj => ?_) (fillTo_lt hZ k _)
  unfold fillTo
  by_cases e : s = k
  · subst e
    by_cases e2 : j = i
    · subst e2; simp
    · by_cases e3 : j < i
      · simp [e2, e3]; omega
      · simp [e2, e3]; omega
  · simp [e]

theorem fill_row {base : Nat} {w : World} {b n m k : Nat} {G C : Nat → Nat} {Z : Nat → Nat → Nat} (hZ : ∀ r j, Z r j < 256) (h : Own base w b n m G C (fillTo Z k m)) : Own base w b n m G C (fillTo Z (k + 1) 0) := by
  refine h.congr (fun s hs j hj => ?_) (fillTo_lt hZ _ _)
  unfold fillTo
  by_cases e : s < k
  · rw [if_pos e, if_pos (by omega)]
  · rw [if_neg e]
    by_cases e2 : s = k
    · rw [if_pos ⟨e2, hj⟩, if_pos (by omega)]
    · rw [if_neg (by omega), if_neg (by omega), if_neg (by omega)]

structure Fill (w wr : World) (b n m k i : Nat) (G C : Nat → Nat) (Z : Nat → Nat → Nat) : Prop where
  below : Below w.heap.size w wr
  own : Own w.heap.size wr b n m G C (fillTo Z k i)

end Go.Proofs.Ytmlaloadeeohbaa
