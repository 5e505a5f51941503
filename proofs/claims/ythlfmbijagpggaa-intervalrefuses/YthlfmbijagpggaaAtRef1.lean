/-
  The document's place, Find and MayChange.
  Conditions: lists lie in memory.
-/
import Derived.Test.YthlfmbijagpggaaJAtSmall
namespace Go.Proofs.Ythlfmbijagpggaa.At
open Go.RowKit By Fl
set_option linter.unusedVariables false
set_option linter.unusedSimpArgs false
set_option maxRecDepth 100000

end Go.Proofs.Ythlfmbijagpggaa.At
