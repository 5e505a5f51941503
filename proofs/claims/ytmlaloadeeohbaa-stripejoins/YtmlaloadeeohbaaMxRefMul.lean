/-
  What the document's Mul does: contracts over plain numbers.
  Conditions: rows that are looked at lie in memory.
-/
import Derived.Test.YtmlaloadeeohbaaMxMay
import Derived.Test.YtmlaloadeeohbaaMxGrow
import Derived.Test.YtmlaloadeeohbaaMxProd
namespace Go.Proofs.Ytmlaloadeeohbaa
open Go.RowKit Gf
set_option linter.unusedVariables false

theorem Mat.drewN {w : World} {b o n m : Nat} {G O C : Nat → Nat} {f : Nat → Nat → Nat} (h : Mat w b o n m G O C f) (k : Nat) : Mat (w.drewN k) b o n m G O C f := ⟨h.hb, h.hG, h.top, h.cell, h.lt⟩

structure RowOf (w wr : World) (R : Value) (j : Nat) (f : Nat → Nat) : Prop where
  below : Below w.heap.size w wr
  own : wr.ownsRow w.heap.size 5 1 R j (bytesOf f j)

theorem rowOf_start (w : World) (f : Nat → Nat) : RowOf w (w.alloc (.cells #[] 5)) (.slice (some ⟨w.heap.size, 0, none⟩) 0 0) 0 f :=
  ⟨(Below.refl _ _).alloc (Nat.le_refl _) _, rfl, .inr ⟨w.heap.size, 0, #[], rfl, Nat.le_refl _, heap_alloc_new _ _, Nat.le_refl _, Nat.zero_le _, rfl, rfl⟩⟩

theorem RowOf.drewN {w wr : World} {R : Value} {j : Nat} {f : Nat → Nat} (h : RowOf w wr R j f) (n : Nat) : RowOf w (wr.drewN n) R j f := ⟨below_drewN' h.below n, h.own⟩

end Go.Proofs.Ytmlaloadeeohbaa
