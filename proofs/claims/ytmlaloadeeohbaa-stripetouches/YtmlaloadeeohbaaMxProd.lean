/-
  What Mul of package matrix does: contracts over plain numbers.
  Conditions: rows that are looked at lie in memory.
-/
import Derived.Test.YtmlaloadeeohbaaMxMul
namespace Go.Proofs.Ytmlaloadeeohbaa
open Go.RowKit Gf
set_option linter.unusedVariables false

def mulF (f g : Nat → Nat → Nat) (p : Nat) : Nat → Nat → Nat := fun r j => dot (f r) (fun k => g k j) p

theorem mulF_lt {f g : Nat → Nat → Nat} (hf : ∀ r j, f r j < 256) (hg : ∀ r j, g r j < 256) (p r j : Nat) : mulF f g p r j < 256 := dot_lt _ _ (hf r) (fun k => hg k j) p

theorem Own.base_le {base base' : Nat} {w : World} {b n m : Nat} {G C : Nat → Nat} {f : Nat → Nat → Nat} (h : Own base w b n m G C f) (hb : base' ≤ base) : Own base' w b n m G C f :=
  ⟨⟨Nat.le_trans hb h.hb.1, h.hb.2⟩, fun r hr => ⟨Nat.le_trans hb (h.hG r hr).1, (h.hG r hr).2⟩, h.inj, h.fb, h.fG, h.top, h.cell, h.lt, h.cap⟩

theorem row_heap {w x : World} {a : Option Addr} {n : Nat} {f : Nat → Nat} (hx : x.heap = w.heap) (h : RowAt w a n f) : RowAt x a n f := by
  rcases h with h | ⟨b, o, h1, h2, h3⟩
  · exact .inl h
  · exact .inr ⟨b, o, h1, by rw [hx]; exact h2, fun i hi => (World.cell?_of_block (w := w) (by rw [hx])).trans (h3 i hi)⟩

end Go.Proofs.Ytmlaloadeeohbaa
