/-
  The bytes that came in lie in memory that is there.
  Conditions: none.
-/
import Derived.Test.YtjodeceaogngfaaWiItem
namespace Go.Proofs.Ytjodeceaogngfaa
open Go.RowKit Go.ChangeShapes Go.WideShapes Go.Deep Wi By
set_option linter.unusedVariables false
set_option linter.unusedSimpArgs false
set_option maxRecDepth 100000

theorem slice_block {W : World} {base : Nat} {x : Option Addr} {n c : Nat} (h : Value.okWide Try.prog W .any base 22 (.slice x n c)) : ∀ a, x = some a → a.block < W.heap.size := by
  rintro a rfl
  simp only [Value.okWide, Try.underlying22, Cell.okWide, Cell.ok] at h
  obtain ⟨_, _, _, _, row, cells, hs, _⟩ := h
  by_cases hb : a.block < W.heap.size
  · exact hb
  · unfold World.shape? at hs
    simp [Array.getElem?_eq_none (Nat.le_of_not_lt hb)] at hs

end Go.Proofs.Ytjodeceaogngfaa
