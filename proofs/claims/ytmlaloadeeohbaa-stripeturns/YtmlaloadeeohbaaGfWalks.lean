/-
  What each call of package gf, and of the document's answers for it, does: contracts over plain numbers ('GfPlain').
  Conditions: the elements are below 256.
-/
import Derived.Test.YtmlaloadeeohbaaRows
import Derived.Test.YtmlaloadeeohbaaGfPlain
import Derived.WalkKit
import Derived.WalkSpells
import Derived.WalkLawsBesides
import Derived.Laws.Tables
namespace Go.Proofs.Ytmlaloadeeohbaa
open Go.RowKit Gf

theorem wpList_buildAs {P : Program} {ops : Array Oper} {rest : List Oper} {o : Oper} {a : Act} {w : World} {Q : Exit → Act → World → Prop} (hg : o.guard = none) (t : TypeId) (parts : Array (Nat × Operand)) (ho : o.op = .build t parts)
    (cells : Array Value) (hf : P.built t (parts.map fun (i, x) => (i, a.eval x)).toList = some cells)
    (h : wpList P ops Q rest (a.put o.dst (.agg cells)) w) : wpList P ops Q (o :: rest) a w :=
  wpList_build hg t parts ho (by rw [hf]; rfl) (by rw [hf]; exact h)

def powCells : Array Value := (expL.map fun (n : Nat) => Value.int .u8 (n : Int)).toArray
def logCells : Array Value := (logL.map fun (n : Nat) => Value.int .u8 (n : Int)).toArray

theorem run_index_cell {P : Program} (t e : TypeId) (n : Nat) (cs : Array Value) (k : IntKind) (i : Nat) (v : Value) (w : World)
    (h : P.underlying t = some (.array n e)) (hs : (sizeOf e).run P w = .ok 1 w) (ha : (isAgg e).run P w = .ok false w) (hi : i < n) (hv : cs[i]? = some v) :
    (Instr.index t (.agg cs) (.int k i)).run P w = .ok v w := by
  simp [Instr.index, run_underlying h, asIntOf, hs, ha, part, hv, hi]

theorem pow_cell (n : Nat) (h : n < 255) : powCells[n]? = some (.int .u8 (E n : Int)) := by
  have hl : expL.length = 255 := by decide +kernel
  unfold powCells E
  simp [List.getElem?_eq_getElem (show n < expL.length by omega)]
theorem log_cell (n : Nat) (h : n < 256) : logCells[n]? = some (.int .u8 (L n : Int)) := by
  have hl : logL.length = 256 := by decide +kernel
  unfold logCells L
  simp [List.getElem?_eq_getElem (show n < logL.length by omega)]

theorem size_byte (w : World) : (sizeOf 5).run Try.prog w = .ok 1 w := by kernel_rfl
theorem agg_byte (w : World) : (isAgg 5).run Try.prog w = .ok false w := by kernel_rfl

/- power(n), n from 0 to 254. -/
theorem power_any (n : Nat) (w : World) (h : n < 255) :
    Calls Try.prog 54 #[.int .i64 n] w fun e w' => e = .returned (.int .u8 (E n : Int)) ∧ w' = w := by
  have hi : ∀ w : World, (Instr.index 83 (.agg powCells) (.int .i64 n)).run Try.prog w = .ok (.int .u8 (E n : Int)) w :=
    fun w => run_index_cell _ _ _ _ _ _ _ w Try.underlying83 (size_byte w) (agg_byte w) h (pow_cell n h)
  go_enter Try.func54, Try.ntmps54
  go_wp2_with (refine wpList_buildAs rfl _ _ rfl powCells (by kernel_rfl) ?_)
  go_ret
  exact ⟨rfl, rfl⟩

theorem log_any (n : Nat) (w : World) (h : n < 256) :
    Calls Try.prog 51 #[.int .u8 n] w fun e w' => e = .returned (.int .i64 (L n : Int)) ∧ w' = w := by
  have hi : ∀ w : World, (Instr.index 78 (.agg logCells) (.int .u8 n)).run Try.prog w = .ok (.int .u8 (L n : Int)) w :=
    fun w => run_index_cell _ _ _ _ _ _ _ w Try.underlying78 (size_byte w) (agg_byte w) h (log_cell n h)
  have hl := L_lt n h
  go_enter Try.func51, Try.ntmps51
  go_wp2_with (refine wpList_buildAs rfl _ _ rfl logCells (by kernel_rfl) ?_)
  go_ret
  exact ⟨rfl, rfl⟩

end Go.Proofs.Ytmlaloadeeohbaa
