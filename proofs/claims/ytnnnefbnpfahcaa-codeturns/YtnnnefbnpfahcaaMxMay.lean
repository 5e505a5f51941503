/-
  What the document's May and Same do: contracts over plain numbers.
  Conditions: rows that are looked at lie in memory.
-/
import Derived.Test.YtnnnefbnpfahcaaMxCheck
import Derived.Test.YtnnnefbnpfahcaaGfSame
namespace Go.Proofs.Ytnnnefbnpfahcaa
open Go.RowKit Gf
set_option linter.unusedVariables false

end Go.Proofs.Ytnnnefbnpfahcaa
