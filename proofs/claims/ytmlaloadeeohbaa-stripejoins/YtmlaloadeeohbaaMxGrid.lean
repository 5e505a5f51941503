/-
  Matrices that came in, and may be, as matrices in memory; and what Mul of package matrix answers of any two lists of rows.
  Conditions: none.
-/
import Derived.Test.YtmlaloadeeohbaaMxLaw
import Derived.Test.YtmlaloadeeohbaaMxAssoc
import Derived.Test.YtmlaloadeeohbaaMxSame
import Derived.Test.YtmlaloadeeohbaaMxAwake
namespace Go.Proofs.Ytmlaloadeeohbaa
open Go.RowKit Gf
set_option linter.unusedVariables false

theorem IsGrid.below {w w' : World} {a : Option Addr} {len : Nat} {A : Nat → Option Addr} {L C : Nat → Nat} {f : Nat → Nat → Nat} (h : IsGrid w a len A L C f) (k : Below w.heap.size w w') : IsGrid w' a len A L C f :=
  ⟨h.1.below (Nat.le_refl _) k, fun r hr => (h.2.1 r hr).below k, h.2.2⟩

theorem grid_mat {w : World} {a : Option Addr} {len : Nat} {A : Nat → Option Addr} {L C : Nat → Nat} {f : Nat → Nat → Nat} (h : IsGrid w a len A L C f) (hm : MayN len L) :
    ∃ b o G O, a = some ⟨b, o, none⟩ ∧ Mat w b o len (L 0) G O C f := by
  obtain ⟨h1, h2, h3, h4, h5⟩ := hm
  obtain ⟨ht, hr, hlt⟩ := h
  rcases ht with h0 | ⟨b, o, rfl, hb, ht⟩
  · omega
  · have hA : ∀ r, r < len → ∃ g q, A r = some ⟨g, q, none⟩ ∧ g < w.heap.size ∧ ∀ i, i < L 0 → w.cell? ⟨g, q + i, none⟩ = some (.int .u8 (f r i : Int)) := fun r hrl => by
      have e := h5 r hrl
      rcases hr r hrl with h0 | ⟨g, q, hA, hg, hc⟩
      · omega
      · exact ⟨g, q, hA, hg, fun i hi => hc i (by omega)⟩
    refine ⟨b, o, fun r => match A r with | some x => x.block | none => 0, fun r => match A r with | some x => x.off | none => 0, rfl, hb, fun r hrl => ?_, fun r hrl => ?_, fun r hrl j hj => ?_, hlt⟩
    · obtain ⟨g, q, e, hg, _⟩ := hA r hrl
      simp only [e]; exact hg
    · obtain ⟨g, q, e, hg, _⟩ := hA r hrl
      rw [ht r hrl, h5 r hrl, e]
    · obtain ⟨g, q, e, hg, hc⟩ := hA r hrl
      simp only [e]; exact hc j hj

def Fits (n : Nat) (L : Nat → Nat) (n' : Nat) (L' : Nat → Nat) : Prop := MayN n L ∧ MayN n' L' ∧ L 0 = n'

end Go.Proofs.Ytmlaloadeeohbaa
