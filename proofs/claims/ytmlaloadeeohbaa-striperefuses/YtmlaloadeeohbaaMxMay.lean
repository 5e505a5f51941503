/-
  What the document's May and Same do: contracts over plain numbers.
  Conditions: rows that are looked at lie in memory.
-/
import Derived.Test.YtmlaloadeeohbaaMxCheck
import Derived.Test.YtmlaloadeeohbaaGfSame
namespace Go.Proofs.Ytmlaloadeeohbaa
open Go.RowKit Gf
set_option linter.unusedVariables false

end Go.Proofs.Ytmlaloadeeohbaa
