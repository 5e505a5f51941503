/-
  What several layers of bytes share: literals with their cells named; a list of bytes is a list of bytes.
  Conditions: none.
-/
import Derived.Test.YthfpljfndnjcnaaByRows
namespace Go.Proofs.Ythfpljfndnjcnaa
open Go.RowKit By
set_option linter.unusedVariables false

theorem wpList_buildAs {P : Program} {ops : Array Oper} {rest : List Oper} {o : Oper} {a : Act} {w : World} {Q : Exit → Act → World → Prop} (hg : o.guard = none) (t : TypeId) (parts : Array (Nat × Operand)) (ho : o.op = .build t parts)
    (cells : Array Value) (hf : P.built t (parts.map fun (i, x) => (i, a.eval x)).toList = some cells)
    (h : wpList P ops Q rest (a.put o.dst (.agg cells)) w) : wpList P ops Q (o :: rest) a w :=
  wpList_build hg t parts ho (by rw [hf]; rfl) (by rw [hf]; exact h)

theorem elem_row : Try.prog.underlying 31 = some (.slice (Try.prog.elem 31)) := by kernel_rfl
theorem elem_is : Try.prog.elem 31 = 5 := by kernel_rfl
theorem size_byte (w : World) : (sizeOf 5).run Try.prog w = .ok 1 w := by kernel_rfl

end Go.Proofs.Ythfpljfndnjcnaa
