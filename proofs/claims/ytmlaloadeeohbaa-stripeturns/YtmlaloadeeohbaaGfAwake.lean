/-
  The statements' own test that a product is reduced answers true.
-/
import Derived.Test.YtmlaloadeeohbaaGfRefs
namespace Go.Proofs.Ytmlaloadeeohbaa
open Go.RowKit Gf

theorem mul_2_128 : tmul 2 128 = 29 := by decide +kernel
theorem inv_2 : tinv 2 = 142 := by decide +kernel

end Go.Proofs.Ytmlaloadeeohbaa
