/-
  Package atlas: New, Find; the document's Find.
  Conditions: lists lie in memory.
-/
import Derived.Test.YthiomhbehajldaaAtQuiet
import Derived.Test.YthiomhbehajldaaAtSmall
import Derived.Test.YthiomhbehajldaaAtFunc
namespace Go.Proofs.Ythiomhbehajldaa.At
open Go.RowKit By Fl
set_option linter.unusedVariables false
set_option linter.unusedSimpArgs false
set_option maxRecDepth 100000

theorem results_cell2 {fn : Func} {p q : Tmp} {ty : TypeId} (h : fn.results = #[.cell p ty, .tmp q]) (tmps : Array Value) (P : Program) (w : World) :
    (results fn tmps).run P w = ((asAddr (tmps.getD p undef)).run P w).andThen fun a w₁ => ((loadVar ty a).run P w₁).andThen fun v w₂ => .ok (.tuple #[v, tmps.getD q undef]) w₂ := by
  simp only [results, h]
  simp [Sem.run_bind, Result.andThen]

def findP (L : List Osd) (id : Int) : Osd × Bool := match L.findIdx? (isId id) with | some k => (L.getD k (noO 0), true) | none => (noO 0, false)

end Go.Proofs.Ythiomhbehajldaa.At
