/-
  What a law is told of one that draws, of a list of them, and of two numbers that came in, with their reach.
  Conditions: none.
-/
import Derived.Test.YthlfmbijagpggaaSrMem
import Derived.Deep.Slices
namespace Go.Proofs.Ythlfmbijagpggaa.Sr
open Go.RowKit Go.ChangeShapes Go.WideShapes Go.Deep By Fl
set_option linter.unusedVariables false
set_option linter.unusedSimpArgs false
set_option maxRecDepth 100000

theorem okWide_array {P : Program} {w : World} {base : Nat} {t e : TypeId} {k : Nat} {v : Value} (ht : P.underlying t = some (.array k e)) (h : Value.okWide P w .any base t v) : ∃ cs, v = .agg cs ∧ cs.size = P.cellsOf t := by
  simp only [Value.okWide, ht] at h
  obtain ⟨cs, h1, h2, _⟩ := h
  exact ⟨cs, h1, h2⟩

section
variable {H : Type} {enc : TypeId × Value → H} {W : World} {base : Nat} {held : Bool} {d : DataW H} {p : List MemPlace}

end

end Go.Proofs.Ythlfmbijagpggaa.Sr
