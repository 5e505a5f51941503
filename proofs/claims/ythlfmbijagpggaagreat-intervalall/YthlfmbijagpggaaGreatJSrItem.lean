/-
  2 texts of this proof, one behind the other: SrItem, CrItem.
-/
import Derived.Test.YthlfmbijagpggaaGreatSrMem
import Derived.Deep.Slices
import Derived.Test.YthlfmbijagpggaaGreatAtItem
/-
  What a law is told of one that draws, of a list of them, and of two numbers that came in, with their reach.
  Conditions: none.
-/
namespace Go.Proofs.YthlfmbijagpggaaGreat.Sr
open Go.RowKit Go.ChangeShapes Go.WideShapes Go.Deep By Fl
set_option linter.unusedVariables false
set_option linter.unusedSimpArgs false
set_option maxRecDepth 100000

theorem okWide_array {P : Program} {w : World} {base : Nat} {t e : TypeId} {k : Nat} {v : Value} (ht : P.underlying t = some (.array k e)) (h : Value.okWide P w .any base t v) : ∃ cs, v = .agg cs ∧ cs.size = P.cellsOf t := by
  simp only [Value.okWide, ht] at h
  obtain ⟨cs, h1, h2, _⟩ := h
  exact ⟨cs, h1, h2⟩

section
variable {H : Type} {enc : TypeId × Value → H} {W : World} {base : Nat} {held : Bool} {d : DataW H} {p : List MemPlace}

theorem one_cell : Tryz.prog.cellsOf 3 = 1 := by kernel_rfl
theorem w_two : Tryz.prog.cellsOf 101 = 2 := by kernel_rfl
theorem a_two : Tryz.prog.cellsOf 25 = 2 := by kernel_rfl

theorem w_cells {fuel : Nat} {e0 e1 : Value} (hf : DataW.trod enc Tryz.prog W base (fun _ => true) held fuel 101 [e0, e1] = some (d, p)) :
    ∃ o : Wd, e0 = .int .i64 o.id ∧ e1 = .int .i64 o.wt := by
  obtain ⟨xs, n, _, hx, _, hxl, hF⟩ := DataW.trod_struct Tryz.underlying101 hf
  obtain ⟨x0, x1, rfl⟩ : ∃ x0 x1, xs = [x0, x1] := by
    match xs, hxl with
    | [x0, x1], _ => exact ⟨x0, x1, rfl⟩
  have f0' : DataW.trod enc Tryz.prog W base (fun _ => true) held n 3 (([e0, e1].drop 0).take (Tryz.prog.cellsOf 3)) = some x0 := hF 0 _ rfl
  rw [one_cell] at f0'
  have f0 : DataW.trod enc Tryz.prog W base (fun _ => true) held n 3 [e0] = some (x0.1, x0.2) := f0'
  have f1' : DataW.trod enc Tryz.prog W base (fun _ => true) held n 3 (([e0, e1].drop 1).take (Tryz.prog.cellsOf 3)) = some x1 := hF 1 _ rfl
  rw [one_cell] at f1'
  have f1 : DataW.trod enc Tryz.prog W base (fun _ => true) held n 3 [e1] = some (x1.1, x1.2) := f1'
  obtain ⟨v0, q0, _⟩ := DataW.trod_int Tryz.underlying3 f0
  obtain ⟨v1, q1, _⟩ := DataW.trod_int Tryz.underlying3 f1
  simp at q0 q1
  subst q0 q1
  exact ⟨⟨v0, v1⟩, rfl, rfl⟩

theorem w_in {v : Value} (hv : ∃ cs, v = .agg cs ∧ cs.size = Tryz.prog.cellsOf 101) (h : DataW.Trod enc Tryz.prog W base (fun _ => true) held 101 v d p) :
    ∃ V : Wd, v = vW V := by
  obtain ⟨cs, rfl, hcs⟩ := hv
  obtain ⟨fuel, hf⟩ := h
  rw [w_two] at hcs
  obtain ⟨e0, e1, rfl⟩ : ∃ e0 e1, cs = #[e0, e1] := by
    obtain ⟨l⟩ := cs
    match l, hcs with
    | [e0, e1], _ => exact ⟨e0, e1, rfl⟩
  obtain ⟨o, rfl, rfl⟩ := w_cells hf
  exact ⟨o, rfl⟩

theorem two_in {v : Value} (hv : ∃ cs, v = .agg cs ∧ cs.size = Tryz.prog.cellsOf 25) (h : DataW.Trod enc Tryz.prog W base (fun _ => true) held 25 v d p) :
    ∃ V U : Int, v = .agg #[.int .i64 V, .int .i64 U] := by
  obtain ⟨cs, rfl, hcs⟩ := hv
  obtain ⟨fuel, hf⟩ := h
  rw [a_two] at hcs
  obtain ⟨e0, e1, rfl⟩ : ∃ e0 e1, cs = #[e0, e1] := by
    obtain ⟨l⟩ := cs
    match l, hcs with
    | [e0, e1], _ => exact ⟨e0, e1, rfl⟩
  change DataW.trod enc Tryz.prog W base (fun _ => true) held fuel 25 [e0, e1] = some (d, p) at hf
  obtain ⟨xs, n, _, hx, _, hxl, hF⟩ := DataW.trod_array Tryz.underlying25 hf
  obtain ⟨x0, x1, rfl⟩ : ∃ x0 x1, xs = [x0, x1] := by
    match xs, hxl with
    | [x0, x1], _ => exact ⟨x0, x1, rfl⟩
  have f0' := hF 0 (by omega)
  rw [one_cell] at f0'
  have f0 : DataW.trod enc Tryz.prog W base (fun _ => true) held n 3 [e0] = some (x0.1, x0.2) := f0'
  have f1' := hF 1 (by omega)
  rw [one_cell] at f1'
  have f1 : DataW.trod enc Tryz.prog W base (fun _ => true) held n 3 [e1] = some (x1.1, x1.2) := f1'
  obtain ⟨v0, q0, _⟩ := DataW.trod_int Tryz.underlying3 f0
  obtain ⟨v1, q1, _⟩ := DataW.trod_int Tryz.underlying3 f1
  simp at q0 q1
  subst q0 q1
  exact ⟨v0, v1, rfl⟩

theorem ws_open {fuel : Nat} {cs : List Value} (hf : DataW.trod enc Tryz.prog W base (fun _ => true) held fuel 97 cs = some (d, p)) :
    (cs = [.slice none 0 0] ∧ d = .nil) ∨
    ∃ (a : Addr) (len cap n : Nat) (DD : Nat → DataW H) (Pl : Nat → List MemPlace), cs = [.slice (some a) len cap] ∧ len ≤ cap ∧ d = .slice ((List.range len).map DD) ((List.range (cap - len)).map fun j => DD (len + j)) ∧
      ∀ i, i < cap → ∃ e0 e1, (∀ j v, [e0, e1][j]? = some v → W.cell? (a.add (i * 2 + j)) = some v) ∧ DataW.trod enc Tryz.prog W base (fun _ => true) held n 101 [e0, e1] = some (DD i, Pl i) := by
  rcases open_slice Tryz.underlying97 hf with ⟨h1, h2⟩ | ⟨a, len, cap, m, n, DD, Pl, rfl, hb, hl, hm, hmm, hx, hcell⟩
  · simp only [Prod.mk.injEq] at h2
    exact .inl ⟨h1, h2.1⟩
  · simp only [if_true] at hmm
    subst hmm
    simp only [Prod.mk.injEq] at hx
    refine .inr ⟨a, len, m, n, DD, Pl, rfl, hl, hx.1, fun i hi => ?_⟩
    obtain ⟨cs', h1, h2⟩ := hcell i hi
    rw [w_two] at h1
    obtain ⟨_, hlen, hc⟩ := World.cells?_some h1
    match cs', hlen with
    | [e0, e1], _ =>
      refine ⟨e0, e1, fun j v hv => ?_, h2⟩
      have hj := (List.getElem?_eq_some_iff.1 hv).1
      have q := hc j (by simpa using hj)
      rw [add_add] at q
      rw [q, ← hv, List.getElem?_eq_getElem hj]

theorem ws_in {fuel : Nat} {cs : List Value} (hf : DataW.trod enc Tryz.prog W base (fun _ => true) held fuel 97 cs = some (d, p)) (hw : ∀ x ∈ d.weights Tryz.prog 97, x ≤ reachBytes) :
    ∃ a len cap V, cs = [.slice a len cap] ∧ Ws W a len cap V := by
  rcases ws_open hf with ⟨h1, _⟩ | ⟨a, len, cap, n, DD, Pl, h1, hl, rfl, hc⟩
  · exact ⟨none, 0, 0, [], h1, ⟨rfl, Nat.le_refl _, by omega, fun _ => ⟨rfl, rfl⟩, .inl rfl⟩⟩
  · have hb48 : Tryz.prog.bytesOf 101 = 16 := by kernel_rfl
    simp only [DataW.weights, Tryz.underlying97, List.mem_cons, List.mem_append, hb48] at hw
    have hw0 := hw _ (.inl rfl)
    simp only [List.length_map, List.length_range, reachBytes] at hw0
    haveI : Inhabited Wd := ⟨⟨0, 0⟩⟩
    have each : ∀ i, i < len → ∃ v : Wd, ∀ (j : Nat) (u : Value), (enW v)[j]? = some u → W.cell? (a.add (i * 2 + j)) = some u := fun i hi => by
      obtain ⟨e0, e1, g, g5⟩ := hc i (by omega)
      obtain ⟨o, rfl, rfl⟩ := w_cells g5
      exact ⟨o, fun j u hu => g j u hu⟩
    obtain ⟨V, hV⟩ := choose_lt each
    refine ⟨some a, len, cap, (List.range len).map V, h1, ⟨by simp, hl, by omega, (fun h => by cases h), ?_⟩⟩
    by_cases h0 : len = 0
    · exact .inl h0
    · obtain ⟨b, off, spot⟩ := a
      have c0 := hV 0 (by omega) 0 _ rfl
      have hspot : spot = none := by simpa [Addr.add] using World.cell?_spot c0
      subst hspot
      refine .inr ⟨b, off, rfl, by simpa [Addr.add] using cell_lt' c0, fun q x hq => ?_⟩
      have hql : q < len := by simpa using (List.getElem?_eq_some_iff.1 hq).1
      have hx : V q = x := by simpa [hql] using hq
      subst hx
      have t0 := hV q hql 0 _ rfl
      have t1 := hV q hql 1 _ rfl
      rw [add_at] at t0 t1
      exact ⟨t0, by rw [Nat.add_assoc]; exact t1⟩

end

end Go.Proofs.YthlfmbijagpggaaGreat.Sr

/-
  What a law is told of a rule that came in.
  Conditions: none.
-/
namespace Go.Proofs.YthlfmbijagpggaaGreat.Cr
open Go.RowKit Go.ChangeShapes Go.WideShapes Go.Deep By Fl
set_option linter.unusedVariables false
set_option linter.unusedSimpArgs false
set_option maxRecDepth 100000

section
variable {H : Type} {enc : TypeId × Value → H} {W : World} {base : Nat} {held : Bool} {d : DataW H} {p : List MemPlace}

theorem r_two : Tryz.prog.cellsOf 86 = 2 := by kernel_rfl

theorem rule_cells {fuel : Nat} {e0 e1 : Value} (hf : DataW.trod enc Tryz.prog W base (fun _ => true) held fuel 86 [e0, e1] = some (d, p)) :
    ∃ a b : Int, e0 = .int .i64 a ∧ e1 = .int .i64 b := by
  obtain ⟨xs, n, _, hx, _, hxl, hF⟩ := DataW.trod_struct Tryz.underlying86 hf
  obtain ⟨x0, x1, rfl⟩ : ∃ x0 x1, xs = [x0, x1] := by
    match xs, hxl with
    | [x0, x1], _ => exact ⟨x0, x1, rfl⟩
  have f0' : DataW.trod enc Tryz.prog W base (fun _ => true) held n 3 (([e0, e1].drop 0).take (Tryz.prog.cellsOf 3)) = some x0 := hF 0 _ rfl
  rw [Sr.one_cell] at f0'
  have f0 : DataW.trod enc Tryz.prog W base (fun _ => true) held n 3 [e0] = some (x0.1, x0.2) := f0'
  have f1' : DataW.trod enc Tryz.prog W base (fun _ => true) held n 3 (([e0, e1].drop 1).take (Tryz.prog.cellsOf 3)) = some x1 := hF 1 _ rfl
  rw [Sr.one_cell] at f1'
  have f1 : DataW.trod enc Tryz.prog W base (fun _ => true) held n 3 [e1] = some (x1.1, x1.2) := f1'
  obtain ⟨v0, q0, _⟩ := DataW.trod_int Tryz.underlying3 f0
  obtain ⟨v1, q1, _⟩ := DataW.trod_int Tryz.underlying3 f1
  simp at q0 q1
  subst q0 q1
  exact ⟨v0, v1, rfl, rfl⟩

theorem rule_in {v : Value} (hv : ∃ cs, v = .agg cs ∧ cs.size = Tryz.prog.cellsOf 86) (h : DataW.Trod enc Tryz.prog W base (fun _ => true) held 86 v d p) :
    ∃ a b : Int, v = .agg #[.int .i64 a, .int .i64 b] := by
  obtain ⟨cs, rfl, hcs⟩ := hv
  obtain ⟨fuel, hf⟩ := h
  rw [r_two] at hcs
  obtain ⟨e0, e1, rfl⟩ : ∃ e0 e1, cs = #[e0, e1] := by
    obtain ⟨l⟩ := cs
    match l, hcs with
    | [e0, e1], _ => exact ⟨e0, e1, rfl⟩
  obtain ⟨a, b, rfl, rfl⟩ := rule_cells hf
  exact ⟨a, b, rfl⟩

end

end Go.Proofs.YthlfmbijagpggaaGreat.Cr
