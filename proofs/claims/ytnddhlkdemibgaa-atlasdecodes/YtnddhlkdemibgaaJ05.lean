/-
  2 texts of this proof, one behind the other: AtItem, AtIns.
-/
import Derived.Test.YtnddhlkdemibgaaJ04
import Derived.Deep.Slices
import Derived.Lib.Overlaps
import Derived.Lib.AppendZerosOnto
import Derived.Laws.NewBlocks
/-
  What a law is told of a pool, an OSD, a map, a change, a list of changes and two changes that came in, with their reach.
  Conditions: none.
-/
namespace Go.Proofs.Ytnddhlkdemibgaa.At
open Go.RowKit Go.ChangeShapes Go.WideShapes Go.Deep By Fl
set_option linter.unusedVariables false
set_option linter.unusedSimpArgs false
set_option maxRecDepth 100000

theorem mem_weightsAll {H : Type} {P : Program} {e : TypeId} {d : DataW H} {n : Nat} (hn : n ∈ d.weights P e) : ∀ {ds : List (DataW H)}, d ∈ ds → n ∈ DataW.weightsAll P e ds
  | d0 :: ds, h => by
    simp only [DataW.weightsAll, List.mem_append]
    rcases List.mem_cons.1 h with h | h
    · subst h; exact .inl hn
    · exact .inr (mem_weightsAll hn h)

theorem wf_top {z : Int} (h : (Lit.int .i64 z).wf = true) : z ≤ 9223372036854775807 := by
  have e2 : IntKind.i64.max = 9223372036854775807 := by decide
  unfold Lit.wf at h
  simp [e2] at h
  exact h.2

structure MpV where
  m : Mp
  x : Option Addr
  n : Nat
  c : Nat

structure MapIn (w : World) (v : MpV) : Prop where
  os : Os w v.x v.n v.c v.m.osds
  k : v.m.pool.k ≤ 9223372036854775807
  fit : v.n * 56 ≤ 140737488351232

section
variable {H : Type} {enc : TypeId × Value → H} {W : World} {base : Nat} {held : Bool} {d : DataW H} {p : List MemPlace}

theorem eight_cells : Try.prog.cellsOf 28 = 8 := by kernel_rfl
theorem four_cells : Try.prog.cellsOf 23 = 4 := by kernel_rfl
theorem six_cells : Try.prog.cellsOf 26 = 6 := by kernel_rfl
theorem nine_cells : Try.prog.cellsOf 30 = 9 := by kernel_rfl
theorem two_cells : Try.prog.cellsOf 60 = 18 := by kernel_rfl

theorem osd_cells {fuel : Nat} {e0 e1 e2 e3 e4 e5 e6 e7 : Value} (hf : DataW.trod enc Try.prog W base (fun _ => true) held fuel 28 [e0, e1, e2, e3, e4, e5, e6, e7] = some (d, p)) :
    ∃ o : Osd, e0 = .int .i64 o.id ∧ e1 = .bool o.up ∧ e2 = .bool o.inn ∧ e3 = .int .i64 o.wt ∧ e4 = .int .i64 o.life ∧ e5 = .int .i64 o.boot ∧ e6 = .int .i64 o.host ∧ e7 = .int .i64 o.rack := by
  have c3 : Try.prog.cellsOf 3 = 1 := by kernel_rfl
  have c4 : Try.prog.cellsOf 4 = 1 := by kernel_rfl
  obtain ⟨xs, n, _, hx, _, hxl, hF⟩ := DataW.trod_struct Try.underlying28 hf
  simp only [Prod.mk.injEq] at hx
  obtain ⟨hd, _⟩ := hx
  subst hd
  obtain ⟨x0, x1, x2, x3, x4, x5, x6, x7, rfl⟩ : ∃ x0 x1 x2 x3 x4 x5 x6 x7, xs = [x0, x1, x2, x3, x4, x5, x6, x7] := by
    match xs, hxl with
    | [x0, x1, x2, x3, x4, x5, x6, x7], _ => exact ⟨x0, x1, x2, x3, x4, x5, x6, x7, rfl⟩
  have f0' : DataW.trod enc Try.prog W base (fun _ => true) held n 3 (([e0, e1, e2, e3, e4, e5, e6, e7].drop 0).take (Try.prog.cellsOf 3)) = some x0 := hF 0 _ rfl
  rw [c3] at f0'
  have f0 : DataW.trod enc Try.prog W base (fun _ => true) held n 3 [e0] = some (x0.1, x0.2) := f0'
  have f1' : DataW.trod enc Try.prog W base (fun _ => true) held n 4 (([e0, e1, e2, e3, e4, e5, e6, e7].drop 1).take (Try.prog.cellsOf 4)) = some x1 := hF 1 _ rfl
  rw [c4] at f1'
  have f1 : DataW.trod enc Try.prog W base (fun _ => true) held n 4 [e1] = some (x1.1, x1.2) := f1'
  have f2' : DataW.trod enc Try.prog W base (fun _ => true) held n 4 (([e0, e1, e2, e3, e4, e5, e6, e7].drop 2).take (Try.prog.cellsOf 4)) = some x2 := hF 2 _ rfl
  rw [c4] at f2'
  have f2 : DataW.trod enc Try.prog W base (fun _ => true) held n 4 [e2] = some (x2.1, x2.2) := f2'
  have f3' : DataW.trod enc Try.prog W base (fun _ => true) held n 3 (([e0, e1, e2, e3, e4, e5, e6, e7].drop 3).take (Try.prog.cellsOf 3)) = some x3 := hF 3 _ rfl
  rw [c3] at f3'
  have f3 : DataW.trod enc Try.prog W base (fun _ => true) held n 3 [e3] = some (x3.1, x3.2) := f3'
  have f4' : DataW.trod enc Try.prog W base (fun _ => true) held n 3 (([e0, e1, e2, e3, e4, e5, e6, e7].drop 4).take (Try.prog.cellsOf 3)) = some x4 := hF 4 _ rfl
  rw [c3] at f4'
  have f4 : DataW.trod enc Try.prog W base (fun _ => true) held n 3 [e4] = some (x4.1, x4.2) := f4'
  have f5' : DataW.trod enc Try.prog W base (fun _ => true) held n 3 (([e0, e1, e2, e3, e4, e5, e6, e7].drop 5).take (Try.prog.cellsOf 3)) = some x5 := hF 5 _ rfl
  rw [c3] at f5'
  have f5 : DataW.trod enc Try.prog W base (fun _ => true) held n 3 [e5] = some (x5.1, x5.2) := f5'
  have f6' : DataW.trod enc Try.prog W base (fun _ => true) held n 3 (([e0, e1, e2, e3, e4, e5, e6, e7].drop 6).take (Try.prog.cellsOf 3)) = some x6 := hF 6 _ rfl
  rw [c3] at f6'
  have f6 : DataW.trod enc Try.prog W base (fun _ => true) held n 3 [e6] = some (x6.1, x6.2) := f6'
  have f7' : DataW.trod enc Try.prog W base (fun _ => true) held n 3 (([e0, e1, e2, e3, e4, e5, e6, e7].drop 7).take (Try.prog.cellsOf 3)) = some x7 := hF 7 _ rfl
  rw [c3] at f7'
  have f7 : DataW.trod enc Try.prog W base (fun _ => true) held n 3 [e7] = some (x7.1, x7.2) := f7'
  obtain ⟨v0, q0, _⟩ := DataW.trod_int Try.underlying3 f0
  obtain ⟨v1, q1, _⟩ := DataW.trod_bool Try.underlying4 f1
  obtain ⟨v2, q2, _⟩ := DataW.trod_bool Try.underlying4 f2
  obtain ⟨v3, q3, _⟩ := DataW.trod_int Try.underlying3 f3
  obtain ⟨v4, q4, _⟩ := DataW.trod_int Try.underlying3 f4
  obtain ⟨v5, q5, _⟩ := DataW.trod_int Try.underlying3 f5
  obtain ⟨v6, q6, _⟩ := DataW.trod_int Try.underlying3 f6
  obtain ⟨v7, q7, _⟩ := DataW.trod_int Try.underlying3 f7
  simp at q0 q1 q2 q3 q4 q5 q6 q7
  subst q0 q1 q2 q3 q4 q5 q6 q7
  exact ⟨⟨v0, v1, v2, v3, v4, v5, v6, v7⟩, rfl, rfl, rfl, rfl, rfl, rfl, rfl, rfl⟩

theorem pool_cells {fuel : Nat} {e0 e1 e2 e3 : Value} (hf : DataW.trod enc Try.prog W base (fun _ => true) held fuel 23 [e0, e1, e2, e3] = some (d, p)) :
    ∃ o : Pool, e0 = .int .i64 o.k ∧ e1 = .int .i64 o.m ∧ e2 = .int .i64 o.pgs ∧ e3 = .int .i64 o.dom ∧ o.k ≤ 9223372036854775807 := by
  have c3 : Try.prog.cellsOf 3 = 1 := by kernel_rfl
  obtain ⟨xs, n, _, hx, _, hxl, hF⟩ := DataW.trod_struct Try.underlying23 hf
  simp only [Prod.mk.injEq] at hx
  obtain ⟨hd, _⟩ := hx
  subst hd
  obtain ⟨x0, x1, x2, x3, rfl⟩ : ∃ x0 x1 x2 x3, xs = [x0, x1, x2, x3] := by
    match xs, hxl with
    | [x0, x1, x2, x3], _ => exact ⟨x0, x1, x2, x3, rfl⟩
  have f0' : DataW.trod enc Try.prog W base (fun _ => true) held n 3 (([e0, e1, e2, e3].drop 0).take (Try.prog.cellsOf 3)) = some x0 := hF 0 _ rfl
  rw [c3] at f0'
  have f0 : DataW.trod enc Try.prog W base (fun _ => true) held n 3 [e0] = some (x0.1, x0.2) := f0'
  have f1' : DataW.trod enc Try.prog W base (fun _ => true) held n 3 (([e0, e1, e2, e3].drop 1).take (Try.prog.cellsOf 3)) = some x1 := hF 1 _ rfl
  rw [c3] at f1'
  have f1 : DataW.trod enc Try.prog W base (fun _ => true) held n 3 [e1] = some (x1.1, x1.2) := f1'
  have f2' : DataW.trod enc Try.prog W base (fun _ => true) held n 3 (([e0, e1, e2, e3].drop 2).take (Try.prog.cellsOf 3)) = some x2 := hF 2 _ rfl
  rw [c3] at f2'
  have f2 : DataW.trod enc Try.prog W base (fun _ => true) held n 3 [e2] = some (x2.1, x2.2) := f2'
  have f3' : DataW.trod enc Try.prog W base (fun _ => true) held n 3 (([e0, e1, e2, e3].drop 3).take (Try.prog.cellsOf 3)) = some x3 := hF 3 _ rfl
  rw [c3] at f3'
  have f3 : DataW.trod enc Try.prog W base (fun _ => true) held n 3 [e3] = some (x3.1, x3.2) := f3'
  obtain ⟨v0, q0, _, r0⟩ := DataW.trod_int Try.underlying3 f0
  obtain ⟨v1, q1, _, r1⟩ := DataW.trod_int Try.underlying3 f1
  obtain ⟨v2, q2, _, r2⟩ := DataW.trod_int Try.underlying3 f2
  obtain ⟨v3, q3, _, r3⟩ := DataW.trod_int Try.underlying3 f3
  simp at q0 q1 q2 q3
  subst q0 q1 q2 q3
  exact ⟨⟨v0, v1, v2, v3⟩, rfl, rfl, rfl, rfl, wf_top r0⟩

theorem ch_cells {fuel : Nat} {e0 e1 e2 e3 e4 e5 e6 e7 e8 : Value} (hf : DataW.trod enc Try.prog W base (fun _ => true) held fuel 30 [e0, e1, e2, e3, e4, e5, e6, e7, e8] = some (d, p)) :
    ∃ c : Ch, [e0, e1, e2, e3, e4, e5, e6, e7, e8] = enC c := by
  have c3 : Try.prog.cellsOf 3 = 1 := by kernel_rfl
  obtain ⟨xs, n, _, hx, _, hxl, hF⟩ := DataW.trod_struct Try.underlying30 hf
  simp only [Prod.mk.injEq] at hx
  obtain ⟨hd, _⟩ := hx
  subst hd
  obtain ⟨x0, x1, rfl⟩ : ∃ x0 x1, xs = [x0, x1] := by
    match xs, hxl with
    | [x0, x1], _ => exact ⟨x0, x1, rfl⟩
  have f0' : DataW.trod enc Try.prog W base (fun _ => true) held n 3 (([e0, e1, e2, e3, e4, e5, e6, e7, e8].drop 0).take (Try.prog.cellsOf 3)) = some x0 := hF 0 _ rfl
  rw [c3] at f0'
  have f0 : DataW.trod enc Try.prog W base (fun _ => true) held n 3 [e0] = some (x0.1, x0.2) := f0'
  have f1' : DataW.trod enc Try.prog W base (fun _ => true) held n 28 (([e0, e1, e2, e3, e4, e5, e6, e7, e8].drop 1).take (Try.prog.cellsOf 28)) = some x1 := hF 1 _ rfl
  rw [eight_cells] at f1'
  have f1 : DataW.trod enc Try.prog W base (fun _ => true) held n 28 [e1, e2, e3, e4, e5, e6, e7, e8] = some (x1.1, x1.2) := f1'
  obtain ⟨v0, q0, _⟩ := DataW.trod_int Try.underlying3 f0
  simp at q0
  subst q0
  obtain ⟨o, rfl, rfl, rfl, rfl, rfl, rfl, rfl, rfl⟩ := osd_cells f1
  exact ⟨⟨v0, o⟩, rfl⟩

theorem pool_in {v : Value} (hv : ∃ cs, v = .agg cs ∧ cs.size = Try.prog.cellsOf 23) (h : DataW.Trod enc Try.prog W base (fun _ => true) held 23 v d p) :
    ∃ V : Pool, v = vP V ∧ V.k ≤ 9223372036854775807 := by
  obtain ⟨cs, rfl, hcs⟩ := hv
  obtain ⟨fuel, hf⟩ := h
  rw [four_cells] at hcs
  obtain ⟨e0, e1, e2, e3, rfl⟩ : ∃ e0 e1 e2 e3, cs = #[e0, e1, e2, e3] := by
    obtain ⟨l⟩ := cs
    match l, hcs with
    | [e0, e1, e2, e3], _ => exact ⟨e0, e1, e2, e3, rfl⟩
  obtain ⟨o, rfl, rfl, rfl, rfl, h1⟩ := pool_cells hf
  exact ⟨o, rfl, h1⟩

theorem ch_in {v : Value} (hv : ∃ cs, v = .agg cs ∧ cs.size = Try.prog.cellsOf 30) (h : DataW.Trod enc Try.prog W base (fun _ => true) held 30 v d p) :
    ∃ V : Ch, v = vC V := by
  obtain ⟨cs, rfl, hcs⟩ := hv
  obtain ⟨fuel, hf⟩ := h
  rw [nine_cells] at hcs
  obtain ⟨e0, e1, e2, e3, e4, e5, e6, e7, e8, rfl⟩ : ∃ e0 e1 e2 e3 e4 e5 e6 e7 e8, cs = #[e0, e1, e2, e3, e4, e5, e6, e7, e8] := by
    obtain ⟨l⟩ := cs
    match l, hcs with
    | [e0, e1, e2, e3, e4, e5, e6, e7, e8], _ => exact ⟨e0, e1, e2, e3, e4, e5, e6, e7, e8, rfl⟩
  obtain ⟨c, hc⟩ := ch_cells hf
  exact ⟨c, by unfold vC; rw [show (#[e0, e1, e2, e3, e4, e5, e6, e7, e8] : Array Value) = (enC c).toArray from by rw [← hc]]; rfl⟩

theorem osds_open {fuel : Nat} {cs : List Value} (hf : DataW.trod enc Try.prog W base (fun _ => true) held fuel 24 cs = some (d, p)) :
    (cs = [.slice none 0 0] ∧ d = .nil) ∨
    ∃ (a : Addr) (len cap n : Nat) (DD : Nat → DataW H) (Pl : Nat → List MemPlace), cs = [.slice (some a) len cap] ∧ len ≤ cap ∧ d = .slice ((List.range len).map DD) ((List.range (cap - len)).map fun j => DD (len + j)) ∧
      ∀ i, i < cap → ∃ e0 e1 e2 e3 e4 e5 e6 e7, (∀ j v, [e0, e1, e2, e3, e4, e5, e6, e7][j]? = some v → W.cell? (a.add (i * 8 + j)) = some v) ∧ DataW.trod enc Try.prog W base (fun _ => true) held n 28 [e0, e1, e2, e3, e4, e5, e6, e7] = some (DD i, Pl i) := by
  rcases open_slice Try.underlying24 hf with ⟨h1, h2⟩ | ⟨a, len, cap, m, n, DD, Pl, rfl, hb, hl, hm, hmm, hx, hcell⟩
  · simp only [Prod.mk.injEq] at h2
    exact .inl ⟨h1, h2.1⟩
  · simp only [if_true] at hmm
    subst hmm
    simp only [Prod.mk.injEq] at hx
    refine .inr ⟨a, len, m, n, DD, Pl, rfl, hl, hx.1, fun i hi => ?_⟩
    obtain ⟨cs', h1, h2⟩ := hcell i hi
    rw [eight_cells] at h1
    obtain ⟨_, hlen, hc⟩ := World.cells?_some h1
    match cs', hlen with
    | [e0, e1, e2, e3, e4, e5, e6, e7], _ =>
      refine ⟨e0, e1, e2, e3, e4, e5, e6, e7, fun j v hv => ?_, h2⟩
      have hj := (List.getElem?_eq_some_iff.1 hv).1
      have q := hc j (by simpa using hj)
      rw [add_add] at q
      rw [q, ← hv, List.getElem?_eq_getElem hj]

theorem chs_open {fuel : Nat} {cs : List Value} (hf : DataW.trod enc Try.prog W base (fun _ => true) held fuel 47 cs = some (d, p)) :
    (cs = [.slice none 0 0] ∧ d = .nil) ∨
    ∃ (a : Addr) (len cap n : Nat) (DD : Nat → DataW H) (Pl : Nat → List MemPlace), cs = [.slice (some a) len cap] ∧ len ≤ cap ∧ d = .slice ((List.range len).map DD) ((List.range (cap - len)).map fun j => DD (len + j)) ∧
      ∀ i, i < cap → ∃ e0 e1 e2 e3 e4 e5 e6 e7 e8, (∀ j v, [e0, e1, e2, e3, e4, e5, e6, e7, e8][j]? = some v → W.cell? (a.add (i * 9 + j)) = some v) ∧ DataW.trod enc Try.prog W base (fun _ => true) held n 30 [e0, e1, e2, e3, e4, e5, e6, e7, e8] = some (DD i, Pl i) := by
  rcases open_slice Try.underlying47 hf with ⟨h1, h2⟩ | ⟨a, len, cap, m, n, DD, Pl, rfl, hb, hl, hm, hmm, hx, hcell⟩
  · simp only [Prod.mk.injEq] at h2
    exact .inl ⟨h1, h2.1⟩
  · simp only [if_true] at hmm
    subst hmm
    simp only [Prod.mk.injEq] at hx
    refine .inr ⟨a, len, m, n, DD, Pl, rfl, hl, hx.1, fun i hi => ?_⟩
    obtain ⟨cs', h1, h2⟩ := hcell i hi
    rw [nine_cells] at h1
    obtain ⟨_, hlen, hc⟩ := World.cells?_some h1
    match cs', hlen with
    | [e0, e1, e2, e3, e4, e5, e6, e7, e8], _ =>
      refine ⟨e0, e1, e2, e3, e4, e5, e6, e7, e8, fun j v hv => ?_, h2⟩
      have hj := (List.getElem?_eq_some_iff.1 hv).1
      have q := hc j (by simpa using hj)
      rw [add_add] at q
      rw [q, ← hv, List.getElem?_eq_getElem hj]

theorem osds_in {fuel : Nat} {cs : List Value} (hf : DataW.trod enc Try.prog W base (fun _ => true) held fuel 24 cs = some (d, p)) (hw : ∀ x ∈ d.weights Try.prog 24, x ≤ reachBytes) :
    ∃ a len cap V, cs = [.slice a len cap] ∧ Os W a len cap V ∧ len * 56 ≤ 140737488351232 := by
  rcases osds_open hf with ⟨h1, _⟩ | ⟨a, len, cap, n, DD, Pl, h1, hl, rfl, hc⟩
  · exact ⟨none, 0, 0, [], h1, ⟨rfl, Nat.le_refl _, by omega, fun _ => ⟨rfl, rfl⟩, .inl rfl⟩, by omega⟩
  · have hb48 : Try.prog.bytesOf 28 = 56 := by kernel_rfl
    simp only [DataW.weights, Try.underlying24, List.mem_cons, List.mem_append, hb48] at hw
    have hw0 := hw _ (.inl rfl)
    simp only [List.length_map, List.length_range, reachBytes] at hw0
    haveI : Inhabited Osd := ⟨noO 0⟩
    have each : ∀ i, i < len → ∃ v : Osd, ∀ (j : Nat) (u : Value), (enO v)[j]? = some u → W.cell? (a.add (i * 8 + j)) = some u := fun i hi => by
      obtain ⟨e0, e1, e2, e3, e4, e5, e6, e7, g, g5⟩ := hc i (by omega)
      obtain ⟨o, rfl, rfl, rfl, rfl, rfl, rfl, rfl, rfl⟩ := osd_cells g5
      exact ⟨o, fun j u hu => g j u hu⟩
    obtain ⟨V, hV⟩ := choose_lt each
    refine ⟨some a, len, cap, (List.range len).map V, h1, ⟨by simp, hl, by omega, (fun h => by cases h), ?_⟩, by omega⟩
    by_cases h0 : len = 0
    · exact .inl h0
    · obtain ⟨b, off, spot⟩ := a
      have c0 := hV 0 (by omega) 0 _ rfl
      have hspot : spot = none := by simpa [Addr.add] using World.cell?_spot c0
      subst hspot
      refine .inr ⟨b, off, rfl, by simpa [Addr.add] using cell_lt' c0, fun q x hq j u hu => ?_⟩
      have hql : q < len := by simpa using (List.getElem?_eq_some_iff.1 hq).1
      have hx : V q = x := by simpa [hql] using hq
      subst hx
      have := hV q hql j u hu
      rw [add_at] at this
      rw [← Nat.add_assoc] at this
      exact this

theorem chs_in {fuel : Nat} {cs : List Value} (hf : DataW.trod enc Try.prog W base (fun _ => true) held fuel 47 cs = some (d, p)) (hw : ∀ x ∈ d.weights Try.prog 47, x ≤ reachBytes) :
    ∃ a len cap V, cs = [.slice a len cap] ∧ Cs W a len cap V ∧ len * 64 ≤ 140737488351232 := by
  rcases chs_open hf with ⟨h1, _⟩ | ⟨a, len, cap, n, DD, Pl, h1, hl, rfl, hc⟩
  · exact ⟨none, 0, 0, [], h1, ⟨rfl, Nat.le_refl _, by omega, fun _ => ⟨rfl, rfl⟩, .inl rfl⟩, by omega⟩
  · have hb48 : Try.prog.bytesOf 30 = 64 := by kernel_rfl
    simp only [DataW.weights, Try.underlying47, List.mem_cons, List.mem_append, hb48] at hw
    have hw0 := hw _ (.inl rfl)
    simp only [List.length_map, List.length_range, reachBytes] at hw0
    haveI : Inhabited Ch := ⟨noC⟩
    have each : ∀ i, i < len → ∃ v : Ch, ∀ (j : Nat) (u : Value), (enC v)[j]? = some u → W.cell? (a.add (i * 9 + j)) = some u := fun i hi => by
      obtain ⟨e0, e1, e2, e3, e4, e5, e6, e7, e8, g, g5⟩ := hc i (by omega)
      obtain ⟨o, ho⟩ := ch_cells g5
      exact ⟨o, fun j u hu => g j u (by rw [ho]; exact hu)⟩
    obtain ⟨V, hV⟩ := choose_lt each
    refine ⟨some a, len, cap, (List.range len).map V, h1, ⟨by simp, hl, by omega, (fun h => by cases h), ?_⟩, by omega⟩
    by_cases h0 : len = 0
    · exact .inl h0
    · obtain ⟨b, off, spot⟩ := a
      have c0 := hV 0 (by omega) 0 _ rfl
      have hspot : spot = none := by simpa [Addr.add] using World.cell?_spot c0
      subst hspot
      refine .inr ⟨b, off, rfl, by simpa [Addr.add] using cell_lt' c0, fun q x hq j u hu => ?_⟩
      have hql : q < len := by simpa using (List.getElem?_eq_some_iff.1 hq).1
      have hx : V q = x := by simpa [hql] using hq
      subst hx
      have := hV q hql j u hu
      rw [add_at] at this
      rw [← Nat.add_assoc] at this
      exact this

theorem map_in {v : Value} (hv : ∃ cs, v = .agg cs ∧ cs.size = Try.prog.cellsOf 26) (h : DataW.Trod enc Try.prog W base (fun _ => true) held 26 v d p) (hw : ∀ x ∈ d.weights Try.prog 26, x ≤ reachBytes) :
    ∃ V : MpV, v = vM V.m.ep V.m.pool V.x V.n V.c ∧ MapIn W V := by
  obtain ⟨cs, rfl, hcs⟩ := hv
  obtain ⟨fuel, hf⟩ := h
  rw [six_cells] at hcs
  obtain ⟨e0, e1, e2, e3, e4, e5, rfl⟩ : ∃ e0 e1 e2 e3 e4 e5, cs = #[e0, e1, e2, e3, e4, e5] := by
    obtain ⟨l⟩ := cs
    match l, hcs with
    | [e0, e1, e2, e3, e4, e5], _ => exact ⟨e0, e1, e2, e3, e4, e5, rfl⟩
  have c3 : Try.prog.cellsOf 3 = 1 := by kernel_rfl
  have c24 : Try.prog.cellsOf 24 = 1 := by kernel_rfl
  change DataW.trod enc Try.prog W base (fun _ => true) held fuel 26 [e0, e1, e2, e3, e4, e5] = some (d, p) at hf
  obtain ⟨xs, n, _, hx, _, hxl, hF⟩ := DataW.trod_struct Try.underlying26 hf
  simp only [Prod.mk.injEq] at hx
  obtain ⟨hd, _⟩ := hx
  subst hd
  obtain ⟨x0, x1, x2, rfl⟩ : ∃ x0 x1 x2, xs = [x0, x1, x2] := by
    match xs, hxl with
    | [x0, x1, x2], _ => exact ⟨x0, x1, x2, rfl⟩
  have f0' : DataW.trod enc Try.prog W base (fun _ => true) held n 3 (([e0, e1, e2, e3, e4, e5].drop 0).take (Try.prog.cellsOf 3)) = some x0 := hF 0 _ rfl
  rw [c3] at f0'
  have f0 : DataW.trod enc Try.prog W base (fun _ => true) held n 3 [e0] = some (x0.1, x0.2) := f0'
  have f1' : DataW.trod enc Try.prog W base (fun _ => true) held n 23 (([e0, e1, e2, e3, e4, e5].drop 1).take (Try.prog.cellsOf 23)) = some x1 := hF 1 _ rfl
  rw [four_cells] at f1'
  have f1 : DataW.trod enc Try.prog W base (fun _ => true) held n 23 [e1, e2, e3, e4] = some (x1.1, x1.2) := f1'
  have f2' : DataW.trod enc Try.prog W base (fun _ => true) held n 24 (([e0, e1, e2, e3, e4, e5].drop 5).take (Try.prog.cellsOf 24)) = some x2 := hF 2 _ rfl
  rw [c24] at f2'
  have f2 : DataW.trod enc Try.prog W base (fun _ => true) held n 24 [e5] = some (x2.1, x2.2) := f2'
  obtain ⟨v0, q0, _⟩ := DataW.trod_int Try.underlying3 f0
  simp at q0
  subst q0
  obtain ⟨o, rfl, rfl, rfl, rfl, hk⟩ := pool_cells f1
  simp only [DataW.weights, Try.underlying26] at hw
  obtain ⟨a, len, cap, L, g1, g2, g3⟩ := osds_in f2 (fun x hx => hw x (DataW.weights_mem_each (j := 2) (t := 24) rfl rfl x hx))
  simp at g1
  exact ⟨⟨⟨v0, o, L⟩, a, len, cap⟩, by rw [g1]; rfl, g2, hk, g3⟩

theorem two_in {v : Value} (hv : ∃ cs, v = .agg cs ∧ cs.size = Try.prog.cellsOf 60) (h : DataW.Trod enc Try.prog W base (fun _ => true) held 60 v d p) :
    ∃ V U : Ch, v = .agg ((enC V).toArray ++ (enC U).toArray) := by
  obtain ⟨cs, rfl, hcs⟩ := hv
  obtain ⟨fuel, hf⟩ := h
  rw [two_cells] at hcs
  obtain ⟨e0, e1, e2, e3, e4, e5, e6, e7, e8, e9, e10, e11, e12, e13, e14, e15, e16, e17, rfl⟩ : ∃ e0 e1 e2 e3 e4 e5 e6 e7 e8 e9 e10 e11 e12 e13 e14 e15 e16 e17, cs = #[e0, e1, e2, e3, e4, e5, e6, e7, e8, e9, e10, e11, e12, e13, e14, e15, e16, e17] := by
    obtain ⟨l⟩ := cs
    match l, hcs with
    | [e0, e1, e2, e3, e4, e5, e6, e7, e8, e9, e10, e11, e12, e13, e14, e15, e16, e17], _ => exact ⟨e0, e1, e2, e3, e4, e5, e6, e7, e8, e9, e10, e11, e12, e13, e14, e15, e16, e17, rfl⟩
  change DataW.trod enc Try.prog W base (fun _ => true) held fuel 60 [e0, e1, e2, e3, e4, e5, e6, e7, e8, e9, e10, e11, e12, e13, e14, e15, e16, e17] = some (d, p) at hf
  obtain ⟨xs, n, _, hx, _, hxl, hF⟩ := DataW.trod_array Try.underlying60 hf
  obtain ⟨x0, x1, rfl⟩ : ∃ x0 x1, xs = [x0, x1] := by
    match xs, hxl with
    | [x0, x1], _ => exact ⟨x0, x1, rfl⟩
  have f0' := hF 0 (by omega)
  rw [nine_cells] at f0'
  have f0 : DataW.trod enc Try.prog W base (fun _ => true) held n 30 [e0, e1, e2, e3, e4, e5, e6, e7, e8] = some (x0.1, x0.2) := f0'
  have f1' := hF 1 (by omega)
  rw [nine_cells] at f1'
  have f1 : DataW.trod enc Try.prog W base (fun _ => true) held n 30 [e9, e10, e11, e12, e13, e14, e15, e16, e17] = some (x1.1, x1.2) := f1'
  obtain ⟨V, hV⟩ := ch_cells f0
  obtain ⟨U, hU⟩ := ch_cells f1
  exact ⟨V, U, by rw [← hV, ← hU]; rfl⟩

end

end Go.Proofs.Ytnddhlkdemibgaa.At

/-
  slices.Insert of one OSD into a list of one's own.
  Conditions: the list is one's own, and short.
-/
namespace Go.Proofs.Ytnddhlkdemibgaa.At
open Go.RowKit By Fl
set_option linter.unusedVariables false
set_option linter.unusedSimpArgs false
set_option maxRecDepth 100000

theorem run_copy_sz {P : Program} (w : World) (dT sT ty elem : TypeId) (sz g o dLen dCap : Nat) (a : Addr) (sLen sCap k : Nat) (cur : Array Value) (t : TypeId) (cs : List Value)
    (hu : P.underlying dT = some (.slice elem)) (hs : (P.info? elem).map (·.size) = some sz)
    (hg : w.heap[g]? = some (.cells cur t (0, 0))) (hk : Nat.min sLen dLen = k) (hn : cs.length = k * sz)
    (hsrc : ∀ j v, cs[j]? = some v → w.cell? (a.add j) = some v) (hfit : o + cs.length ≤ cur.size) (h1 : ∀ v ∈ cs, v.oneCell' = true) :
    (Builtin.copy_ #[dT, sT] ty #[.slice (some ⟨g, o, none⟩) dLen dCap, .slice (some a) sLen sCap]).run P w =
      .ok (goInt k) (w.setRow g (cur.toList.take o ++ cs ++ cur.toList.drop (o + cs.length)).toArray) := by
  have hl := run_loadCells_list (P := P) w a cs hsrc
  have hst := run_storeCells_at P g o t cs 0 cur w hg (by simpa using hfit) h1
  cases hq : P.info? elem with
  | none => simp [hq] at hs
  | some i =>
    have hi : i.size = sz := by simpa [hq] using hs
    have hk' : min sLen dLen = k := hk
    simp [Builtin.copy_, run_underlying hu, Builtin.lenOf, Builtin.firstCells, sizeOf, typeInfo, hq, hi, hk', ← hn, hl, hst]

theorem wpList_copy_at {P : Program} (w : World) {ops : Array Oper} {rest : List Oper} {o : Oper} {a : Act} {Q : Exit → Act → World → Prop} (hgd : o.guard = none) (d s : Operand) (t t' : TypeId)
    (ho : o.op = .call { callee := .builtin .copy, args := #[d, s], argTypes := #[t, t'] }) (v u : Value) (hd : a.eval d = v) (hs : a.eval s = u) {v' : Value} {w' : World}
    (hr : (Builtin.copy_ #[t, t'] o.type #[v, u]).run P w = .ok v' w') (h : wpList P ops Q rest (a.put o.dst v') w') : wpList P ops Q (o :: rest) a w :=
  wpList_plain hgd fun _ hK => by
    unfold Oper.wp execOp
    simp only [ho, resolve, invoke, builtin, Sem.run_bind, Sem.run_pure, Result.andThen_ok, List.map_toArray, List.map_cons, List.map_nil, hd, hs, hr]
    exact hK _ _ h

/- A copy that comes up alone in a region that draws its order. -/
theorem st_copy {P : Program} {w w' : World} {ops : Array Oper} {o : Oper} {a : Act} {K : Act → World → Prop} {Q : Exit → Act → World → Prop} {v' : Value} (hg : Region.wanted o (yielded ops a.tmps) = true) (s x : Operand) (t : TypeId)
    (ho : o.op = .call { callee := .builtin .copy, args := #[s, x], argTypes := #[t, t] }) (v1 v2 : Value) (hs : a.eval s = v1) (hx : a.eval x = v2) (hr : (Builtin.copy_ #[t, t] o.type #[v1, v2]).run P w = .ok v' w')
    (h : K (a.put o.dst v') w') : if Region.wanted o (yielded ops a.tmps) = true then Oper.wp P o a w K Q else K (a.put o.dst undef) w := by
  rw [if_pos hg]
  unfold Oper.wp execOp
  simp only [ho, resolve, invoke, builtin, Sem.run_bind, Sem.run_pure, Result.andThen_ok, List.map_toArray, List.map_cons, List.map_nil, hs, hx, hr]
  exact h

theorem osz : (Try.prog.info? 28).map (·.size) = some 8 := by kernel_rfl

def spl (cur : List Value) (o : Nat) (cs : List Value) : List Value := cur.take o ++ cs ++ cur.drop (o + cs.length)

theorem spl_len (cur : List Value) (o : Nat) (cs : List Value) (h : o + cs.length ≤ cur.length) : (spl cur o cs).length = cur.length := by
  simp [spl]
  omega

theorem spl_take (cur : List Value) (o : Nat) (cs : List Value) (h : o + cs.length ≤ cur.length) : (spl cur o cs).take (o + cs.length) = cur.take o ++ cs := by
  unfold spl
  rw [List.take_left' (by simp; omega)]

theorem spl_drop (cur : List Value) (o : Nat) (cs : List Value) (h : o + cs.length ≤ cur.length) (k : Nat) (hk : k = o) : (spl cur o cs).drop k = cs ++ cur.drop (o + cs.length) := by
  subst hk
  unfold spl
  rw [List.append_assoc, List.drop_left' (by simp; omega)]

theorem spl_low (cur : List Value) (o : Nat) (cs : List Value) (h : o + cs.length ≤ cur.length) (k : Nat) (hk : k ≤ o) : (spl cur o cs).take k = cur.take k := by
  unfold spl
  rw [List.append_assoc, List.take_append_of_le_length (by simp; omega), List.take_take, Nat.min_eq_left hk]

/- Up by one, then one more: room. -/
theorem ins_room (cur : List Value) (L : List Osd) (o : Osd) (i n : Nat) (hL : L.length = n) (hi : i < n) (hc : (n + 1) * 8 ≤ cur.length) (ht : cur.take (n * 8) = flat enO L) :
    (spl (spl cur ((i + 1) * 8) (flat enO (L.drop i))) (i * 8) (enO o)).take ((n + 1) * 8) = flat enO (L.take i ++ o :: L.drop i) := by
  have hD : (flat enO (L.drop i)).length = (n - i) * 8 := by rw [flat_len orow.len, List.length_drop, hL]
  have hE : (enO o).length = 8 := rfl
  have e1 : (spl cur ((i + 1) * 8) (flat enO (L.drop i))).length = cur.length := spl_len _ _ _ (by omega)
  have e2 : (spl cur ((i + 1) * 8) (flat enO (L.drop i))).take (i * 8) = flat enO (L.take i) := by
    rw [spl_low _ _ _ (by omega) _ (by omega), ← flat_take orow.len, ← ht, List.take_take, Nat.min_eq_left (by omega)]
  have e3 := spl_drop cur ((i + 1) * 8) (flat enO (L.drop i)) (by omega) (i * 8 + 8) (by omega)
  rw [show spl (spl cur ((i + 1) * 8) (flat enO (L.drop i))) (i * 8) (enO o) = (spl cur ((i + 1) * 8) (flat enO (L.drop i))).take (i * 8) ++ enO o ++ (spl cur ((i + 1) * 8) (flat enO (L.drop i))).drop (i * 8 + 8) from rfl, e2, e3, ← List.append_assoc, List.take_left' (by
    simp only [List.length_append, hD, hE, flat_len orow.len, List.length_take, hL]
    omega), flat_app, flat_cons, List.append_assoc]

/- One more, then the rest: a new row. -/
theorem ins_new (cur : List Value) (L : List Osd) (o : Osd) (i n : Nat) (hL : L.length = n) (hi : i < n) (hc : (n + 1) * 8 ≤ cur.length) (ht : cur.take (i * 8) = flat enO (L.take i)) :
    (spl (spl cur (i * 8) (enO o)) ((i + 1) * 8) (flat enO (L.drop i))).take ((n + 1) * 8) = flat enO (L.take i ++ o :: L.drop i) := by
  have hD : (flat enO (L.drop i)).length = (n - i) * 8 := by rw [flat_len orow.len, List.length_drop, hL]
  have hE : (enO o).length = 8 := rfl
  have e1 : (spl cur (i * 8) (enO o)).length = cur.length := spl_len _ _ _ (by omega)
  have e2 := spl_take cur (i * 8) (enO o) (by omega)
  rw [hE, ht, show i * 8 + 8 = (i + 1) * 8 by omega] at e2
  have e3 := spl_take (spl cur (i * 8) (enO o)) ((i + 1) * 8) (flat enO (L.drop i)) (by omega)
  rw [hD, e2, show (i + 1) * 8 + (n - i) * 8 = (n + 1) * 8 by omega] at e3
  rw [e3, flat_app, flat_cons, List.append_assoc]

/- What is handed over: one OSD in a block of its own. -/
theorem OBox.src {w : World} {a : Nat} {o : Osd} (h : OBox w a o) (j : Nat) (v : Value) (hv : (enO o)[j]? = some v) : w.cell? ((⟨a, 0, none⟩ : Addr).add j) = some v := by
  rw [add_at, Nat.zero_add]
  exact cell_heap h (by simpa [enO] using hv)

def Inserted (w w' : World) (B : Nat) (R R' : Value) (L : List Osd) : Prop := Own w' B 28 8 enO R' L ∧ Turns (fun k => R.ownBlock = some k) w w' ∧ ∀ g, R'.ownBlock = some g → R.ownBlock = some g ∨ w.heap.size ≤ g

theorem insert_end {w : World} {B : Nat} {x : Option Addr} {n c vb : Nat} {L : List Osd} {o : Osd} (h : Own w B 28 8 enO (.slice x n c) L) (hv : OBox w vb o) (hB : B ≤ w.heap.size) (hn : n < 64) :
    Calls Try.prog 80 #[.slice x n c, .int .i64 (n : Int), .slice (some ⟨vb, 0, none⟩) 1 1] w fun e w' => ∃ x' c', e = .returned (.slice x' (n + 1) c') ∧ Hid (Inserted w w' B (.slice x n c) (.slice x' (n + 1) c') (L ++ [o])) := by
  obtain ⟨x0, c0, e0, h1, h2, h3⟩ := h.form
  injection e0 with e1 e2 e3
  subst e1 e3
  obtain ⟨x', c', w', hap, H⟩ := h.push orow hB ⟨vb, 0, none⟩ 1 1 [o] rfl (fun j u hj => hv.src j u (by rwa [flat_one] at hj)) (by rw [← e2]; omega)
  rw [← e2] at hap H h1 h2
  have HF : Hid (Inserted w w' B (.slice x n c) (.slice x' (n + 1) c') (L ++ [o])) := ⟨H.out.1, H.out.2.1, fun g hg => (H.out.2.2 g hg).imp (fun h => h) (fun h => by omega)⟩
  have hnc : (n : Int) ≤ (c : Int) := by omega
  clear h hv H e2 h3 h2
  cases x with
  | none =>
    go_enter Try.func80, Try.ntmps80
    go_wp2_with (at_builtin; refine Lib.wpList_append_run _ rfl _ _ _ _ rfl _ _ rfl rfl _ _ hap ?_)
    all_goals (go_ret; exact ⟨_, _, rfl, HF.out⟩)
  | some ad =>
    go_enter Try.func80, Try.ntmps80
    go_wp2_with (at_builtin; refine Lib.wpList_append_run _ rfl _ _ _ _ rfl _ _ rfl rfl _ _ hap ?_)
    all_goals (go_ret; exact ⟨_, _, rfl, HF.out⟩)

theorem over_no (w : World) (vb g q lb cb : Nat) (cur : Array Value) (o : Osd) (hv : OBox w vb o) (hg : w.heap[g]? = some (.cells cur 28 (0, 0))) (hne : vb ≠ g) (hz : cur.size ≠ 0) :
    (callFunc 91 #[.slice (some ⟨vb, 0, none⟩) 1 1, .slice (some ⟨g, q, none⟩) lb cb]).run Try.prog w = .ok (.value (.bool false)) w := by
  rw [run_callFunc_extern Try.func91 (by kernel_rfl) (by kernel_rfl) (by kernel_rfl) (e := Extern.SlicesOverlaps.overlaps #[24, 24] #[4]) (by kernel_rfl),
    Lib.run_overlaps_apart w 24 4 28 (by kernel_rfl) 8 (fun _ => by kernel_rfl) ⟨vb, 0, none⟩ ⟨g, q, none⟩ 1 1 lb cb hne 28 28 8 cur.size (by unfold World.shape?; rw [hv]; rfl) (by unfold World.shape?; rw [hg]) hz (fr_heap hv 0) (fr_heap hv 8)]
  rfl

set_option maxHeartbeats 1600000 in
theorem insert_room {w : World} {B g n c vb i : Nat} {L : List Osd} {o : Osd} (h : Own w B 28 8 enO (.slice (some ⟨g, 0, none⟩) n c) L) (hv : OBox w vb o) (hne : vb ≠ g) (hi : i < n) (hn : n < 64) (hr : n + 1 ≤ c) :
    Calls Try.prog 80 #[.slice (some ⟨g, 0, none⟩) n c, .int .i64 (i : Int), .slice (some ⟨vb, 0, none⟩) 1 1] w fun e w' => e = .returned (.slice (some ⟨g, 0, none⟩) (n + 1) c) ∧ Hid (Inserted w w' B (.slice (some ⟨g, 0, none⟩) n c) (.slice (some ⟨g, 0, none⟩) (n + 1) c) (L.take i ++ o :: L.drop i)) := by
  obtain ⟨hL, hBg, hnc, hcm, cur, h0, hz, ht⟩ := h.heap
  have hm : c ≤ 9223372036854775807 := by unfold maxLen at hcm; omega
  have hD : (flat enO (L.drop i)).length = (n - i) * 8 := by rw [flat_len orow.len, List.length_drop, hL]
  have hcl : cur.toList.length = c * 8 := by rw [Array.length_toList]; exact hz
  have hov : ∀ q lb cb, (callFunc 91 #[.slice (some ⟨vb, 0, none⟩) 1 1, .slice (some ⟨g, q, none⟩) lb cb]).run Try.prog w = .ok (.value (.bool false)) w := fun q lb cb => over_no w vb g q lb cb cur o hv h0 hne (by omega)
  obtain ⟨cur1, hc1⟩ : ∃ c1, c1 = spl cur.toList ((i + 1) * 8) (flat enO (L.drop i)) := ⟨_, rfl⟩
  obtain ⟨cur2, hc2⟩ : ∃ c2, c2 = spl cur1 (i * 8) (enO o) := ⟨_, rfl⟩
  have l1 : cur1.length = c * 8 := by rw [hc1, spl_len _ _ _ (by omega), hcl]
  have hone : ∀ (K : List Osd), ∀ v ∈ flat enO K, v.oneCell' = true := fun K v hv => by obtain ⟨a, _, ha⟩ := flat_mem hv; exact orow.one a v ha
  have hcp1 : ∀ ty dc sc, (Builtin.copy_ #[24, 24] ty #[.slice (some ⟨g, (i + 1) * 8, none⟩) (n - i) dc, .slice (some ⟨g, i * 8, none⟩) (n + 1 - i) sc]).run Try.prog w.drew = .ok (goInt ((n - i : Nat) : Int)) (w.drew.setRow g cur1.toArray) := fun ty dc sc => by
    rw [hc1]
    unfold spl
    exact run_copy_sz w.drew _ _ ty 28 8 g ((i + 1) * 8) (n - i) dc ⟨g, i * 8, none⟩ (n + 1 - i) sc (n - i) cur 28 (flat enO (L.drop i)) (by kernel_rfl) osz h0 (by show min _ _ = _; omega) hD
      (fun j v hj => by
        rw [add_at]
        rw [← flat_drop orow.len, List.getElem?_drop] at hj
        have := World.ownsRow.cells h (g := g) rfl _ v hj
        rwa [add_at, Nat.zero_add] at this) (by omega) (hone _)
  obtain ⟨W1, hW1⟩ : ∃ W1, W1 = w.drew.setRow g cur1.toArray := ⟨_, rfl⟩
  have g1 : W1.heap[g]? = some (.cells cur1.toArray 28 (0, 0)) := by rw [hW1]; exact setRow_heap w.drew g cur _ _ _ h0
  have t1 : Turns (fun k => k = g) w W1 := by rw [hW1]; exact (Turns.refl _ w).drew.trans (setRow_turns _ _ _)
  have hcp2 : ∀ (W : World), W.heap = W1.heap → ∀ ty dc, (Builtin.copy_ #[24, 24] ty #[.slice (some ⟨g, i * 8, none⟩) (n + 1 - i) dc, .slice (some ⟨vb, 0, none⟩) 1 1]).run Try.prog W = .ok (goInt 1) (W.setRow g cur2.toArray) := fun W hW ty dc => by
    rw [hc2]
    unfold spl
    exact run_copy_sz W _ _ ty 28 8 g (i * 8) (n + 1 - i) dc ⟨vb, 0, none⟩ 1 1 1 cur1.toArray 28 (enO o) (by kernel_rfl) osz (by rw [hW]; exact g1) (by show min _ _ = _; omega) rfl
      (fun j v hj => by
        rw [← (hv.turns t1 hne).src j v hj]
        exact World.cell?_of_block (by rw [hW])) (by simp [enO]; omega) (by have := hone [o]; rwa [flat_one] at this)
  have HF : Hid (∀ W : World, W.heap = W1.heap → W.os = W1.os → W.tape = W1.tape → W.output = W1.output → Inserted w (W.setRow g cur2.toArray) B (.slice (some ⟨g, 0, none⟩) n c) (.slice (some ⟨g, 0, none⟩) (n + 1) c) (L.take i ++ o :: L.drop i)) := fun W e1 e2 e3 e4 => by
    have hl2 : (L.take i ++ o :: L.drop i).length = n + 1 := by simp [hL]; omega
    have g2 := setRow_heap W g cur1.toArray cur2.toArray 28 (0, 0) (by rw [e1]; exact g1)
    have tk : cur2.take ((n + 1) * 8) = flat enO (L.take i ++ o :: L.drop i) := by
      rw [hc2, hc1]
      exact ins_room cur.toList L o i n hL hi (by rw [hcl]; omega) ht
    have l2 : cur2.length = c * 8 := by rw [hc2, spl_len _ _ _ (by simp [enO]; omega), l1]
    have ow := Own.of_heap (K := L.take i ++ o :: L.drop i) g2 hBg (by rw [hl2]; exact hr) hcm (by simpa using l2) orow.len (by rw [hl2]; simpa using tk)
    rw [hl2] at ow
    refine ⟨ow, ?_, fun g' hg' => .inl hg'⟩
    have t2 : Turns (fun k => k = g) w W := ⟨e2.trans t1.os, e3.trans t1.tape, e4.trans t1.output, by rw [e1]; exact t1.size, fun k hk hn => by rw [e1]; exact t1.block k hk hn⟩
    exact (t2.trans (setRow_turns W g _)).weak fun k hk => by rw [hk]; rfl
  rw [← hW1] at hcp1
  have hz2 : ¬ ((i : Int) = (n : Int)) := by omega
  have hw1 : IntKind.i64.wrap ((i : Int) + 1) = (i : Int) + 1 := by rw [IntKind.wrap_i64]; omega
  have hb1 : (0 : Int) ≤ (i : Int) + 1 := by omega
  have hin : i ≤ n := by omega
  have htn : ((i : Int) + 1).toNat = i + 1 := by omega
  have hb2 : ¬ (c = i + 1) := by omega
  have hb3 : (i : Int) ≤ (n : Int) + 1 := by omega
  have hb4 : ¬ (c = i) := by omega
  clear h hv hne h0 hz ht hcm hD hcl hc1 hc2 l1 hone g1 t1 hL hBg hW1
  go_enter Try.func80, Try.ntmps80
  go_wp2_with (simp only [hov])
  refine wp_region_held_drew (S := fun _ => True) (by kernel_rfl) trivial (fun hHeld => ?_)
  refine wpAnyH_take (i := 0) (v := ?_) rfl (by kernel_rfl) (by kernel_rfl) (by kernel_rfl) (fun _ _ _ h => h) (Or.inl ⟨by rfl, ?_⟩) (by assumption) ?_
  case refine_2 => (intro w hSw; (try dsimp only at hSw); go_simp; (try with_reducible rfl))
  (try simp only [Act.put, List.getElem_toArray, List.getElem_cons_succ, List.getElem_cons_zero, List.setIfInBounds_toArray, List.set_cons_zero, List.set_cons_succ])
  refine wpAnyH_take (i := 1) (v := ?_) rfl (by kernel_rfl) (by kernel_rfl) (by kernel_rfl) (fun _ _ _ h => h) (Or.inl ⟨by rfl, ?_⟩) (by assumption) ?_
  case refine_2 => (intro w hSw; (try dsimp only at hSw); go_simp; (try with_reducible rfl))
  (try simp only [Act.put, List.getElem_toArray, List.getElem_cons_succ, List.getElem_cons_zero, List.setIfInBounds_toArray, List.set_cons_zero, List.set_cons_succ])
  refine wpAnyH_take (i := 2) (v := ?_) rfl (by kernel_rfl) (by kernel_rfl) (by kernel_rfl) (fun _ _ _ h => h) (Or.inl ⟨by rfl, ?_⟩) (by assumption) ?_
  case refine_2 => (intro w hSw; (try dsimp only at hSw); go_simp; (try with_reducible rfl))
  (try simp only [Act.put, List.getElem_toArray, List.getElem_cons_succ, List.getElem_cons_zero, List.setIfInBounds_toArray, List.set_cons_zero, List.set_cons_succ])
  refine wpAnyH_take (i := 3) (v := ?_) rfl (by kernel_rfl) (by kernel_rfl) (by kernel_rfl) (fun _ _ _ h => h) (Or.inl ⟨by rfl, ?_⟩) (by assumption) ?_
  case refine_2 => (intro w hSw; (try dsimp only at hSw); go_simp; (try with_reducible rfl))
  (try simp only [Act.put, List.getElem_toArray, List.getElem_cons_succ, List.getElem_cons_zero, List.setIfInBounds_toArray, List.set_cons_zero, List.set_cons_succ])
  refine wpAnyH_take (i := 4) (v := ?_) rfl (by kernel_rfl) (by kernel_rfl) (by kernel_rfl) (fun _ _ _ h => h) (Or.inl ⟨by rfl, ?_⟩) (by assumption) ?_
  case refine_2 => (intro w hSw; (try dsimp only at hSw); go_simp; (try with_reducible rfl))
  (try simp only [Act.put, List.getElem_toArray, List.getElem_cons_succ, List.getElem_cons_zero, List.setIfInBounds_toArray, List.set_cons_zero, List.set_cons_succ])
  refine wpAnyH_take (i := 5) (v := ?_) rfl (by kernel_rfl) (by kernel_rfl) (by kernel_rfl) (fun _ _ _ h => h) (Or.inl ⟨by rfl, ?_⟩) (by assumption) ?_
  case refine_2 => (intro w hSw; (try dsimp only at hSw); go_simp; (try with_reducible rfl))
  (try simp only [Act.put, List.getElem_toArray, List.getElem_cons_succ, List.getElem_cons_zero, List.setIfInBounds_toArray, List.set_cons_zero, List.set_cons_succ])
  refine wpAnyH_take (i := 6) (v := ?_) rfl (by kernel_rfl) (by kernel_rfl) (by kernel_rfl) (fun _ _ _ h => h) (Or.inl ⟨by rfl, ?_⟩) (by assumption) ?_
  case refine_2 => (intro w hSw; (try dsimp only at hSw); go_simp; (try with_reducible rfl))
  (try simp only [Act.put, List.getElem_toArray, List.getElem_cons_succ, List.getElem_cons_zero, List.setIfInBounds_toArray, List.set_cons_zero, List.set_cons_succ])
  refine wpAnyH_take (i := 7) (v := ?_) rfl (by kernel_rfl) (by kernel_rfl) (by kernel_rfl) (fun _ _ _ h => h) (Or.inl ⟨by rfl, ?_⟩) (by assumption) ?_
  case refine_2 => (intro w hSw; (try dsimp only at hSw); go_simp; (try with_reducible rfl))
  (try simp only [Act.put, List.getElem_toArray, List.getElem_cons_succ, List.getElem_cons_zero, List.setIfInBounds_toArray, List.set_cons_zero, List.set_cons_succ])
  refine wpAnyH_ready (rs := [8]) (by kernel_rfl) (by simp) ?_
  refine AllReadyH.cons rfl (fun K hK => ?_) AllReadyH.nil
  refine st_copy rfl _ _ 24 rfl _ _ rfl rfl (hcp1 _ _ _) ?_
  (try simp only [Act.put, List.getElem_toArray, List.getElem_cons_succ, List.getElem_cons_zero, List.setIfInBounds_toArray, List.set_cons_zero, List.set_cons_succ])
  refine hK.out _ _ trivial (fun hHeld => ?_)
  clear hK K
  refine wpAnyH_done (by kernel_rfl) ?_ _
  clear hHeld
  go_wp2_with (at_builtin; refine wpList_copy_at _ rfl _ _ 24 24 rfl _ _ rfl rfl (hcp2 _ rfl _ _) ?_)
  go_ret
  exact ⟨rfl, HF.out _ rfl rfl rfl rfl⟩

theorem zc_size (z : Array Value) (n : Nat) : (Builtin.zeroCells z n).size = n * z.size := by simp [Builtin.zeroCells]

set_option maxHeartbeats 1600000 in
theorem insert_grow {w : World} {B g n c vb i : Nat} {L : List Osd} {o : Osd} (h : Own w B 28 8 enO (.slice (some ⟨g, 0, none⟩) n c) L) (hv : OBox w vb o) (hB : B ≤ w.heap.size) (hi : i < n) (hn : n < 64) (hr : c < n + 1) :
    Calls Try.prog 80 #[.slice (some ⟨g, 0, none⟩) n c, .int .i64 (i : Int), .slice (some ⟨vb, 0, none⟩) 1 1] w fun e w' => ∃ x' c', e = .returned (.slice x' (n + 1) c') ∧ Hid (Inserted w w' B (.slice (some ⟨g, 0, none⟩) n c) (.slice x' (n + 1) c') (L.take i ++ o :: L.drop i)) := by
  obtain ⟨hL, hBg, hnc, hcm, cur, h0, hz, ht⟩ := h.heap
  have hm : c ≤ 9223372036854775807 := by unfold maxLen at hcm; omega
  have hgl : g < w.heap.size := (Array.getElem?_eq_some_iff.1 h0).1
  have hvl := hv.lt
  have hD : (flat enO (L.drop i)).length = (n - i) * 8 := by rw [flat_len orow.len, List.length_drop, hL]
  have hT : (flat enO (L.take i)).length = i * 8 := by rw [flat_len orow.len, List.length_take, hL, Nat.min_eq_left (by omega)]
  have hone : ∀ (K : List Osd), ∀ v ∈ flat enO K, v.oneCell' = true := fun K v hv => by obtain ⟨a, _, ha⟩ := flat_mem hv; exact orow.one a v ha
  have hinfo : (Try.prog.info? 28).map (fun i => (i.zero, i.size, i.bytes)) = some (some (.agg #[.int .i64 0, .bool false, .bool false, .int .i64 0, .int .i64 0, .int .i64 0, .int .i64 0, .int .i64 0]), 8, 56) := by kernel_rfl
  obtain ⟨i0, j1, j2, j3, j4⟩ := info_parts hinfo
  obtain ⟨k, hk⟩ : ∃ k, k = n + 1 - i := ⟨_, rfl⟩
  have hik : i + k = n + 1 := by omega
  have hold : (Builtin.firstCells i0.size i (.slice (some ⟨g, 0, none⟩) i c)).run Try.prog w.drew = .ok (flat enO (L.take i)).toArray w.drew := by
    rw [j3]
    exact run_firstCells_some w.drew 8 i ⟨g, 0, none⟩ i c (flat enO (L.take i)) hT (fun j v hj => by
      rw [← flat_take orow.len, List.getElem?_take] at hj
      split at hj
      · exact World.ownsRow.cells h (g := g) rfl j v hj
      · cases hj)
  obtain ⟨G, hG⟩ : ∃ G, G = grownCap w (n + 1) c 28 := ⟨_, rfl⟩
  have hGn : n + 1 ≤ G := by rw [hG]; exact grownCap_ge w _ _ _
  have hGm : G ≤ maxLen := by rw [hG]; exact grownCap_le_maxLen w (n + 1) c _ (by unfold maxLen; omega)
  have hG63 : G ≤ 9223372036854775807 := by unfold maxLen at hGm; omega
  obtain ⟨ROW, hROW⟩ : ∃ ROW : Array Value, ROW = (flat enO (L.take i)).toArray ++ Builtin.zeroCells (Value.agg #[.int .i64 0, .bool false, .bool false, .int .i64 0, .int .i64 0, .int .i64 0, .int .i64 0, .int .i64 0]).cells k ++ Builtin.zeroCells (Value.agg #[.int .i64 0, .bool false, .bool false, .int .i64 0, .int .i64 0, .int .i64 0, .int .i64 0, .int .i64 0]).cells (G - (n + 1)) := ⟨_, rfl⟩
  have hrz : ∀ ty, (Builtin.append_ #[24, 3] ty #[.slice (some ⟨g, 0, none⟩) i c, .int .i64 (k : Int)]).run Try.prog w = .ok (.slice (some ⟨w.heap.size, 0, none⟩) (n + 1) G) (w.drew.alloc (.cells ROW 28)) := fun ty => by
    have h := Lib.run_append_grow_zeros (P := Try.prog) w 24 3 ty 28 i0 _ .i64 .i64 (by kernel_rfl) (by kernel_rfl) j1 j2 (some ⟨g, 0, none⟩) i c (flat enO (L.take i)) hold k (by omega) (by omega) (by omega) (by omega) (by rw [j4]; omega) (by rw [j4, hik]; exact growslice_fits hr (by omega))
    rw [hik, ← hG, ← hROW] at h
    exact h
  have hRs : ROW.size = G * 8 := by
    rw [hROW]
    simp only [Array.size_append, zc_size, List.size_toArray, hT]
    show i * 8 + k * 8 + (G - (n + 1)) * 8 = G * 8
    omega
  have hRt : ROW.toList.take (i * 8) = flat enO (L.take i) := by
    rw [hROW]
    simp only [Array.toList_append, List.append_assoc]
    rw [List.take_left' (by simpa using hT)]
  obtain ⟨W0, hW0⟩ : ∃ W0, W0 = w.drew.alloc (.cells ROW 28) := ⟨_, rfl⟩
  have g0 : W0.heap[w.heap.size]? = some (.cells ROW 28 (0, 0)) := by rw [hW0]; exact heap_alloc_new w.drew _
  have b0 : Below w.heap.size w W0 := by rw [hW0]; exact (Below.refl _ w).drew.alloc (Nat.le_refl _) _
  obtain ⟨cur1, hc1⟩ : ∃ c1, c1 = spl ROW.toList (i * 8) (enO o) := ⟨_, rfl⟩
  obtain ⟨cur2, hc2⟩ : ∃ c2, c2 = spl cur1 ((i + 1) * 8) (flat enO (L.drop i)) := ⟨_, rfl⟩
  have hRl : ROW.toList.length = G * 8 := by rw [Array.length_toList]; exact hRs
  have hE : (enO o).length = 8 := rfl
  have l1 : cur1.length = G * 8 := by rw [hc1, spl_len _ _ _ (by rw [hRl, hE]; omega), hRl]
  have hcpA : ∀ (W : World), W.heap = W0.heap → ∀ ty dc, (Builtin.copy_ #[24, 24] ty #[.slice (some ⟨w.heap.size, i * 8, none⟩) (n + 1 - i) dc, .slice (some ⟨vb, 0, none⟩) 1 1]).run Try.prog W = .ok (goInt 1) (W.setRow w.heap.size cur1.toArray) := fun W hW ty dc => by
    rw [hc1]
    unfold spl
    exact run_copy_sz W _ _ ty 28 8 w.heap.size (i * 8) (n + 1 - i) dc ⟨vb, 0, none⟩ 1 1 1 ROW 28 (enO o) (by kernel_rfl) osz (by rw [hW]; exact g0) (by show min _ _ = _; omega) rfl
      (fun j v hj => by
        rw [← (hv.turns (Turns.of_below (F := fun _ => False) b0) (fun h => h)).src j v hj]
        exact World.cell?_of_block (by rw [hW])) (by rw [hE, hRs]; omega) (by have := hone [o]; rwa [flat_one] at this)
  have hcpB : ∀ (W : World), W.heap = (W0.setRow w.heap.size cur1.toArray).heap → ∀ ty dc sc, (Builtin.copy_ #[24, 24] ty #[.slice (some ⟨w.heap.size, (i + 1) * 8, none⟩) (n - i) dc, .slice (some ⟨g, i * 8, none⟩) (n - i) sc]).run Try.prog W = .ok (goInt ((n - i : Nat) : Int)) (W.setRow w.heap.size cur2.toArray) := fun W hW ty dc sc => by
    rw [hc2]
    unfold spl
    exact run_copy_sz W _ _ ty 28 8 w.heap.size ((i + 1) * 8) (n - i) dc ⟨g, i * 8, none⟩ (n - i) sc (n - i) cur1.toArray 28 (flat enO (L.drop i)) (by kernel_rfl) osz (by rw [hW]; exact setRow_heap W0 _ ROW _ _ _ g0) (by show min _ _ = _; omega) hD
      (fun j v hj => by
        rw [add_at]
        rw [← flat_drop orow.len, List.getElem?_drop] at hj
        have h1 := World.ownsRow.cells h (g := g) rfl _ v hj
        rw [add_at, Nat.zero_add] at h1
        have h2 := keep b0 h1
        rw [← h2]
        exact World.cell?_of_block (a := ⟨g, i * 8 + j, none⟩) (by rw [hW]; exact setRow_other W0 _ _ _ (by show g ≠ _; omega))) (by simp [l1, hD]; omega) (hone _)
  have HF : Hid (∀ W : World, W.heap = (W0.setRow w.heap.size cur1.toArray).heap → W.os = W0.os → W.tape = W0.tape → W.output = W0.output → Inserted w (W.setRow w.heap.size cur2.toArray) B (.slice (some ⟨g, 0, none⟩) n c) (.slice (some ⟨w.heap.size, 0, none⟩) (n + 1) G) (L.take i ++ o :: L.drop i)) := fun W e1 e2 e3 e4 => by
    have hl2 : (L.take i ++ o :: L.drop i).length = n + 1 := by simp [hL]; omega
    have g1 : W.heap[w.heap.size]? = some (.cells cur1.toArray 28 (0, 0)) := by rw [e1]; exact setRow_heap W0 _ ROW _ _ _ g0
    have g2 := setRow_heap W w.heap.size cur1.toArray cur2.toArray 28 (0, 0) g1
    have tk : cur2.take ((n + 1) * 8) = flat enO (L.take i ++ o :: L.drop i) := by
      rw [hc2, hc1]
      exact ins_new ROW.toList L o i n hL hi (by rw [hRl]; omega) hRt
    have l2 : cur2.length = G * 8 := by rw [hc2, spl_len _ _ _ (by rw [l1, hD]; omega), l1]
    have ow := Own.of_heap (K := L.take i ++ o :: L.drop i) g2 hB (by rw [hl2]; exact hGn) hGm (by simpa using l2) orow.len (by rw [hl2]; simpa using tk)
    rw [hl2] at ow
    refine ⟨ow, ?_, fun g' hg' => .inr (by simp [Value.ownBlock] at hg'; omega)⟩
    have t2 : Turns (fun _ => False) w W := ⟨e2.trans b0.os, e3.trans b0.tape, e4.trans b0.output, by rw [e1]; simpa using b0.size, fun k hk hn => by rw [e1, setRow_other W0 _ _ _ (by omega)]; exact b0.block k hk⟩
    exact (t2.weak (fun _ h => h.elim)).more (setRow_turns W _ _) (fun k hk => .inr (by rw [hk]; exact Nat.le_refl _))
  rw [← hW0] at hrz
  have hz2 : ¬ ((i : Int) = (n : Int)) := by omega
  have hw1 : IntKind.i64.wrap ((i : Int) + 1) = (i : Int) + 1 := by rw [IntKind.wrap_i64]; omega
  have hkk : (n : Int) + 1 - (i : Int) = (k : Int) := by omega
  have hb1 : (0 : Int) ≤ (i : Int) + 1 := by omega
  have hin : i ≤ n := by omega
  have htn : ((i : Int) + 1).toNat = i + 1 := by omega
  have hb2 : ¬ (G = i + 1) := by omega
  have hb3 : (i : Int) ≤ (n : Int) + 1 := by omega
  have hb4 : ¬ (c = i) := by omega
  have hb5 : ¬ (G = i) := by omega
  have HW := hid hW0
  clear h hv h0 hz ht hcm hD hT hone hinfo j1 j2 j3 j4 hold hG hROW hRs hRt g0 b0 hc1 hc2 hRl hE l1 hL hBg hW0 hk hik
  go_enter Try.func80, Try.ntmps80
  go_wp2_with (first
    | (at_builtin; refine Lib.wpList_append_run _ rfl _ _ _ _ rfl _ _ rfl rfl _ _ (hrz _) ?_)
    | (at_builtin; refine wpList_copy_at _ rfl _ _ 24 24 rfl _ _ rfl rfl (hcpA _ rfl _ _) ?_))
  refine wp_region_held_drew (S := fun _ => True) (by kernel_rfl) trivial (fun hHeld => ?_)
  refine wpAnyH_take (i := 0) (v := ?_) rfl (by kernel_rfl) (by kernel_rfl) (by kernel_rfl) (fun _ _ _ h => h) (Or.inl ⟨by rfl, ?_⟩) (by assumption) ?_
  case refine_2 => (intro w hSw; (try dsimp only at hSw); go_simp; (try with_reducible rfl))
  (try simp only [Act.put, List.getElem_toArray, List.getElem_cons_succ, List.getElem_cons_zero, List.setIfInBounds_toArray, List.set_cons_zero, List.set_cons_succ])
  refine wpAnyH_take (i := 1) (v := ?_) rfl (by kernel_rfl) (by kernel_rfl) (by kernel_rfl) (fun _ _ _ h => h) (Or.inl ⟨by rfl, ?_⟩) (by assumption) ?_
  case refine_2 => (intro w hSw; (try dsimp only at hSw); go_simp; (try with_reducible rfl))
  (try simp only [Act.put, List.getElem_toArray, List.getElem_cons_succ, List.getElem_cons_zero, List.setIfInBounds_toArray, List.set_cons_zero, List.set_cons_succ])
  refine wpAnyH_take (i := 2) (v := ?_) rfl (by kernel_rfl) (by kernel_rfl) (by kernel_rfl) (fun _ _ _ h => h) (Or.inl ⟨by rfl, ?_⟩) (by assumption) ?_
  case refine_2 => (intro w hSw; (try dsimp only at hSw); go_simp; (try with_reducible rfl))
  (try simp only [Act.put, List.getElem_toArray, List.getElem_cons_succ, List.getElem_cons_zero, List.setIfInBounds_toArray, List.set_cons_zero, List.set_cons_succ])
  refine wpAnyH_take (i := 3) (v := ?_) rfl (by kernel_rfl) (by kernel_rfl) (by kernel_rfl) (fun _ _ _ h => h) (Or.inl ⟨by rfl, ?_⟩) (by assumption) ?_
  case refine_2 => (intro w hSw; (try dsimp only at hSw); go_simp; (try with_reducible rfl))
  (try simp only [Act.put, List.getElem_toArray, List.getElem_cons_succ, List.getElem_cons_zero, List.setIfInBounds_toArray, List.set_cons_zero, List.set_cons_succ])
  refine wpAnyH_take (i := 4) (v := ?_) rfl (by kernel_rfl) (by kernel_rfl) (by kernel_rfl) (fun _ _ _ h => h) (Or.inl ⟨by rfl, ?_⟩) (by assumption) ?_
  case refine_2 => (intro w hSw; (try dsimp only at hSw); go_simp; (try with_reducible rfl))
  (try simp only [Act.put, List.getElem_toArray, List.getElem_cons_succ, List.getElem_cons_zero, List.setIfInBounds_toArray, List.set_cons_zero, List.set_cons_succ])
  refine wpAnyH_take (i := 5) (v := ?_) rfl (by kernel_rfl) (by kernel_rfl) (by kernel_rfl) (fun _ _ _ h => h) (Or.inl ⟨by rfl, ?_⟩) (by assumption) ?_
  case refine_2 => (intro w hSw; (try dsimp only at hSw); go_simp; (try with_reducible rfl))
  (try simp only [Act.put, List.getElem_toArray, List.getElem_cons_succ, List.getElem_cons_zero, List.setIfInBounds_toArray, List.set_cons_zero, List.set_cons_succ])
  refine wpAnyH_take (i := 6) (v := ?_) rfl (by kernel_rfl) (by kernel_rfl) (by kernel_rfl) (fun _ _ _ h => h) (Or.inl ⟨by rfl, ?_⟩) (by assumption) ?_
  case refine_2 => (intro w hSw; (try dsimp only at hSw); go_simp; (try with_reducible rfl))
  (try simp only [Act.put, List.getElem_toArray, List.getElem_cons_succ, List.getElem_cons_zero, List.setIfInBounds_toArray, List.set_cons_zero, List.set_cons_succ])
  refine wpAnyH_take (i := 7) (v := ?_) rfl (by kernel_rfl) (by kernel_rfl) (by kernel_rfl) (fun _ _ _ h => h) (Or.inl ⟨by rfl, ?_⟩) (by assumption) ?_
  case refine_2 => (intro w hSw; (try dsimp only at hSw); go_simp; (try with_reducible rfl))
  (try simp only [Act.put, List.getElem_toArray, List.getElem_cons_succ, List.getElem_cons_zero, List.setIfInBounds_toArray, List.set_cons_zero, List.set_cons_succ])
  refine wpAnyH_ready (rs := [8]) (by kernel_rfl) (by simp) ?_
  refine AllReadyH.cons rfl (fun K hK => ?_) AllReadyH.nil
  refine st_copy rfl _ _ 24 rfl _ _ rfl rfl (hcpB (W0.setRow w.heap.size cur1.toArray).drew rfl _ _ _) ?_
  (try simp only [Act.put, List.getElem_toArray, List.getElem_cons_succ, List.getElem_cons_zero, List.setIfInBounds_toArray, List.set_cons_zero, List.set_cons_succ])
  refine hK.out _ _ trivial (fun hHeld => ?_)
  clear hK K
  refine wpAnyH_done (by kernel_rfl) ?_ _
  clear hHeld
  go_wp2_with fail
  go_ret
  exact ⟨_, _, rfl, HF.out _ rfl rfl rfl rfl⟩

/- slices.Insert(s, i, o). -/
theorem insert_any {w : World} {B : Nat} {x : Option Addr} {n c vb i : Nat} {L : List Osd} {o : Osd} (h : Own w B 28 8 enO (.slice x n c) L) (hv : OBox w vb o) (hne : (Value.slice x n c).ownBlock ≠ some vb) (hB : B ≤ w.heap.size) (hi : i ≤ n) (hn : n < 64) :
    Calls Try.prog 80 #[.slice x n c, .int .i64 (i : Int), .slice (some ⟨vb, 0, none⟩) 1 1] w fun e w' => ∃ x' c', e = .returned (.slice x' (n + 1) c') ∧ Hid (Inserted w w' B (.slice x n c) (.slice x' (n + 1) c') (L.take i ++ o :: L.drop i)) := by
  obtain ⟨x0, c0, e0, h1, h2, h3⟩ := h.form
  injection e0 with e1 e2 e3
  subst e1 e3
  by_cases hin : i = n
  · subst hin
    refine (insert_end h hv hB hn).mono fun e w' ⟨x', c', h4, h5⟩ => ⟨x', c', h4, ?_⟩
    rw [e2, List.take_length, List.drop_length, ← e2]
    exact h5
  · cases x with
    | none => have := h2 rfl; omega
    | some ad =>
      obtain ⟨g, rfl, hBg, hgl⟩ := h3 ad rfl
      by_cases hr : n + 1 ≤ c
      · exact (insert_room h hv (fun e => hne (by rw [e]; rfl)) (by omega) hn hr).mono fun e w' ⟨h4, h5⟩ => ⟨_, _, h4, h5⟩
      · exact insert_grow h hv hB (by omega) hn (by omega)

end Go.Proofs.Ytnddhlkdemibgaa.At
