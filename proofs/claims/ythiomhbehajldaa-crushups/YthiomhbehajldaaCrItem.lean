/-
  What a law is told of a rule that came in.
  Conditions: none.
-/
import Derived.Test.YthiomhbehajldaaSrItem
import Derived.Test.YthiomhbehajldaaAtItem
namespace Go.Proofs.Ythiomhbehajldaa.Cr
open Go.RowKit Go.ChangeShapes Go.WideShapes Go.Deep By Fl
set_option linter.unusedVariables false
set_option linter.unusedSimpArgs false
set_option maxRecDepth 100000

section
variable {H : Type} {enc : TypeId × Value → H} {W : World} {base : Nat} {held : Bool} {d : DataW H} {p : List MemPlace}

theorem r_two : Try.prog.cellsOf 34 = 2 := by kernel_rfl

theorem rule_cells {fuel : Nat} {e0 e1 : Value} (hf : DataW.trod enc Try.prog W base (fun _ => true) held fuel 34 [e0, e1] = some (d, p)) :
    ∃ a b : Int, e0 = .int .i64 a ∧ e1 = .int .i64 b := by
  obtain ⟨xs, n, _, hx, _, hxl, hF⟩ := DataW.trod_struct Try.underlying34 hf
  obtain ⟨x0, x1, rfl⟩ : ∃ x0 x1, xs = [x0, x1] := by
    match xs, hxl with
    | [x0, x1], _ => exact ⟨x0, x1, rfl⟩
  have f0' : DataW.trod enc Try.prog W base (fun _ => true) held n 3 (([e0, e1].drop 0).take (Try.prog.cellsOf 3)) = some x0 := hF 0 _ rfl
  rw [Sr.one_cell] at f0'
  have f0 : DataW.trod enc Try.prog W base (fun _ => true) held n 3 [e0] = some (x0.1, x0.2) := f0'
  have f1' : DataW.trod enc Try.prog W base (fun _ => true) held n 3 (([e0, e1].drop 1).take (Try.prog.cellsOf 3)) = some x1 := hF 1 _ rfl
  rw [Sr.one_cell] at f1'
  have f1 : DataW.trod enc Try.prog W base (fun _ => true) held n 3 [e1] = some (x1.1, x1.2) := f1'
  obtain ⟨v0, q0, _⟩ := DataW.trod_int Try.underlying3 f0
  obtain ⟨v1, q1, _⟩ := DataW.trod_int Try.underlying3 f1
  simp at q0 q1
  subst q0 q1
  exact ⟨v0, v1, rfl, rfl⟩

theorem rule_in {v : Value} (hv : ∃ cs, v = .agg cs ∧ cs.size = Try.prog.cellsOf 34) (h : DataW.Trod enc Try.prog W base (fun _ => true) held 34 v d p) :
    ∃ a b : Int, v = .agg #[.int .i64 a, .int .i64 b] := by
  obtain ⟨cs, rfl, hcs⟩ := hv
  obtain ⟨fuel, hf⟩ := h
  rw [r_two] at hcs
  obtain ⟨e0, e1, rfl⟩ : ∃ e0 e1, cs = #[e0, e1] := by
    obtain ⟨l⟩ := cs
    match l, hcs with
    | [e0, e1], _ => exact ⟨e0, e1, rfl⟩
  obtain ⟨a, b, rfl, rfl⟩ := rule_cells hf
  exact ⟨a, b, rfl⟩

end

end Go.Proofs.Ythiomhbehajldaa.Cr
