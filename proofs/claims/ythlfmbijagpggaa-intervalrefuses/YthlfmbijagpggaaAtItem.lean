/-
  What a law is told of a pool, an OSD, a map, a change, a list of changes and two changes that came in, with their reach.
  Conditions: none.
-/
import Derived.Test.YthlfmbijagpggaaJAtTurn
import Derived.Deep.Slices
namespace Go.Proofs.Ythlfmbijagpggaa.At
open Go.RowKit Go.ChangeShapes Go.WideShapes Go.Deep By Fl
set_option linter.unusedVariables false
set_option linter.unusedSimpArgs false
set_option maxRecDepth 100000

theorem mem_weightsAll {H : Type} {P : Program} {e : TypeId} {d : DataW H} {n : Nat} (hn : n ∈ d.weights P e) : ∀ {ds : List (DataW H)}, d ∈ ds → n ∈ DataW.weightsAll P e ds
  | d0 :: ds, h => by
    simp only [DataW.weightsAll, List.mem_append]
    rcases List.mem_cons.1 h with h | h
    · subst h; exact .inl hn
    · exact .inr (mem_weightsAll hn h)

theorem wf_top {z : Int} (h : (Lit.int .i64 z).wf = true) : z ≤ 9223372036854775807 := by
  have e2 : IntKind.i64.max = 9223372036854775807 := by decide
  unfold Lit.wf at h
  simp [e2] at h
  exact h.2

structure MpV where
  m : Mp
  x : Option Addr
  n : Nat
  c : Nat

structure MapIn (w : World) (v : MpV) : Prop where
  os : Os w v.x v.n v.c v.m.osds
  k : v.m.pool.k ≤ 9223372036854775807
  fit : v.n * 56 ≤ 140737488351232

section
variable {H : Type} {enc : TypeId × Value → H} {W : World} {base : Nat} {held : Bool} {d : DataW H} {p : List MemPlace}

theorem eight_cells : Try.prog.cellsOf 45 = 8 := by kernel_rfl

theorem four_cells : Try.prog.cellsOf 29 = 4 := by kernel_rfl

theorem six_cells : Try.prog.cellsOf 32 = 6 := by kernel_rfl

theorem osd_cells {fuel : Nat} {e0 e1 e2 e3 e4 e5 e6 e7 : Value} (hf : DataW.trod enc Try.prog W base (fun _ => true) held fuel 45 [e0, e1, e2, e3, e4, e5, e6, e7] = some (d, p)) :
    ∃ o : Osd, e0 = .int .i64 o.id ∧ e1 = .bool o.up ∧ e2 = .bool o.inn ∧ e3 = .int .i64 o.wt ∧ e4 = .int .i64 o.life ∧ e5 = .int .i64 o.boot ∧ e6 = .int .i64 o.host ∧ e7 = .int .i64 o.rack := by
  have c3 : Try.prog.cellsOf 3 = 1 := by kernel_rfl
  have c4 : Try.prog.cellsOf 4 = 1 := by kernel_rfl
  obtain ⟨xs, n, _, hx, _, hxl, hF⟩ := DataW.trod_struct Try.underlying45 hf
  simp only [Prod.mk.injEq] at hx
  obtain ⟨hd, _⟩ := hx
  subst hd
  obtain ⟨x0, x1, x2, x3, x4, x5, x6, x7, rfl⟩ : ∃ x0 x1 x2 x3 x4 x5 x6 x7, xs = [x0, x1, x2, x3, x4, x5, x6, x7] := by
    match xs, hxl with
    | [x0, x1, x2, x3, x4, x5, x6, x7], _ => exact ⟨x0, x1, x2, x3, x4, x5, x6, x7, rfl⟩
  have f0' : DataW.trod enc Try.prog W base (fun _ => true) held n 3 (([e0, e1, e2, e3, e4, e5, e6, e7].drop 0).take (Try.prog.cellsOf 3)) = some x0 := hF 0 _ rfl
  rw [c3] at f0'
  have f0 : DataW.trod enc Try.prog W base (fun _ => true) held n 3 [e0] = some (x0.1, x0.2) := f0'
  have f1' : DataW.trod enc Try.prog W base (fun _ => true) held n 4 (([e0, e1, e2, e3, e4, e5, e6, e7].drop 1).take (Try.prog.cellsOf 4)) = some x1 := hF 1 _ rfl
  rw [c4] at f1'
  have f1 : DataW.trod enc Try.prog W base (fun _ => true) held n 4 [e1] = some (x1.1, x1.2) := f1'
  have f2' : DataW.trod enc Try.prog W base (fun _ => true) held n 4 (([e0, e1, e2, e3, e4, e5, e6, e7].drop 2).take (Try.prog.cellsOf 4)) = some x2 := hF 2 _ rfl
  rw [c4] at f2'
  have f2 : DataW.trod enc Try.prog W base (fun _ => true) held n 4 [e2] = some (x2.1, x2.2) := f2'
  have f3' : DataW.trod enc Try.prog W base (fun _ => true) held n 3 (([e0, e1, e2, e3, e4, e5, e6, e7].drop 3).take (Try.prog.cellsOf 3)) = some x3 := hF 3 _ rfl
  rw [c3] at f3'
  have f3 : DataW.trod enc Try.prog W base (fun _ => true) held n 3 [e3] = some (x3.1, x3.2) := f3'
  have f4' : DataW.trod enc Try.prog W base (fun _ => true) held n 3 (([e0, e1, e2, e3, e4, e5, e6, e7].drop 4).take (Try.prog.cellsOf 3)) = some x4 := hF 4 _ rfl
  rw [c3] at f4'
  have f4 : DataW.trod enc Try.prog W base (fun _ => true) held n 3 [e4] = some (x4.1, x4.2) := f4'
  have f5' : DataW.trod enc Try.prog W base (fun _ => true) held n 3 (([e0, e1, e2, e3, e4, e5, e6, e7].drop 5).take (Try.prog.cellsOf 3)) = some x5 := hF 5 _ rfl
  rw [c3] at f5'
  have f5 : DataW.trod enc Try.prog W base (fun _ => true) held n 3 [e5] = some (x5.1, x5.2) := f5'
  have f6' : DataW.trod enc Try.prog W base (fun _ => true) held n 3 (([e0, e1, e2, e3, e4, e5, e6, e7].drop 6).take (Try.prog.cellsOf 3)) = some x6 := hF 6 _ rfl
  rw [c3] at f6'
  have f6 : DataW.trod enc Try.prog W base (fun _ => true) held n 3 [e6] = some (x6.1, x6.2) := f6'
  have f7' : DataW.trod enc Try.prog W base (fun _ => true) held n 3 (([e0, e1, e2, e3, e4, e5, e6, e7].drop 7).take (Try.prog.cellsOf 3)) = some x7 := hF 7 _ rfl
  rw [c3] at f7'
  have f7 : DataW.trod enc Try.prog W base (fun _ => true) held n 3 [e7] = some (x7.1, x7.2) := f7'
  obtain ⟨v0, q0, _⟩ := DataW.trod_int Try.underlying3 f0
  obtain ⟨v1, q1, _⟩ := DataW.trod_bool Try.underlying4 f1
  obtain ⟨v2, q2, _⟩ := DataW.trod_bool Try.underlying4 f2
  obtain ⟨v3, q3, _⟩ := DataW.trod_int Try.underlying3 f3
  obtain ⟨v4, q4, _⟩ := DataW.trod_int Try.underlying3 f4
  obtain ⟨v5, q5, _⟩ := DataW.trod_int Try.underlying3 f5
  obtain ⟨v6, q6, _⟩ := DataW.trod_int Try.underlying3 f6
  obtain ⟨v7, q7, _⟩ := DataW.trod_int Try.underlying3 f7
  simp at q0 q1 q2 q3 q4 q5 q6 q7
  subst q0 q1 q2 q3 q4 q5 q6 q7
  exact ⟨⟨v0, v1, v2, v3, v4, v5, v6, v7⟩, rfl, rfl, rfl, rfl, rfl, rfl, rfl, rfl⟩

theorem pool_cells {fuel : Nat} {e0 e1 e2 e3 : Value} (hf : DataW.trod enc Try.prog W base (fun _ => true) held fuel 29 [e0, e1, e2, e3] = some (d, p)) :
    ∃ o : Pool, e0 = .int .i64 o.k ∧ e1 = .int .i64 o.m ∧ e2 = .int .i64 o.pgs ∧ e3 = .int .i64 o.dom ∧ o.k ≤ 9223372036854775807 := by
  have c3 : Try.prog.cellsOf 3 = 1 := by kernel_rfl
  obtain ⟨xs, n, _, hx, _, hxl, hF⟩ := DataW.trod_struct Try.underlying29 hf
  simp only [Prod.mk.injEq] at hx
  obtain ⟨hd, _⟩ := hx
  subst hd
  obtain ⟨x0, x1, x2, x3, rfl⟩ : ∃ x0 x1 x2 x3, xs = [x0, x1, x2, x3] := by
    match xs, hxl with
    | [x0, x1, x2, x3], _ => exact ⟨x0, x1, x2, x3, rfl⟩
  have f0' : DataW.trod enc Try.prog W base (fun _ => true) held n 3 (([e0, e1, e2, e3].drop 0).take (Try.prog.cellsOf 3)) = some x0 := hF 0 _ rfl
  rw [c3] at f0'
  have f0 : DataW.trod enc Try.prog W base (fun _ => true) held n 3 [e0] = some (x0.1, x0.2) := f0'
  have f1' : DataW.trod enc Try.prog W base (fun _ => true) held n 3 (([e0, e1, e2, e3].drop 1).take (Try.prog.cellsOf 3)) = some x1 := hF 1 _ rfl
  rw [c3] at f1'
  have f1 : DataW.trod enc Try.prog W base (fun _ => true) held n 3 [e1] = some (x1.1, x1.2) := f1'
  have f2' : DataW.trod enc Try.prog W base (fun _ => true) held n 3 (([e0, e1, e2, e3].drop 2).take (Try.prog.cellsOf 3)) = some x2 := hF 2 _ rfl
  rw [c3] at f2'
  have f2 : DataW.trod enc Try.prog W base (fun _ => true) held n 3 [e2] = some (x2.1, x2.2) := f2'
  have f3' : DataW.trod enc Try.prog W base (fun _ => true) held n 3 (([e0, e1, e2, e3].drop 3).take (Try.prog.cellsOf 3)) = some x3 := hF 3 _ rfl
  rw [c3] at f3'
  have f3 : DataW.trod enc Try.prog W base (fun _ => true) held n 3 [e3] = some (x3.1, x3.2) := f3'
  obtain ⟨v0, q0, _, r0⟩ := DataW.trod_int Try.underlying3 f0
  obtain ⟨v1, q1, _, r1⟩ := DataW.trod_int Try.underlying3 f1
  obtain ⟨v2, q2, _, r2⟩ := DataW.trod_int Try.underlying3 f2
  obtain ⟨v3, q3, _, r3⟩ := DataW.trod_int Try.underlying3 f3
  simp at q0 q1 q2 q3
  subst q0 q1 q2 q3
  exact ⟨⟨v0, v1, v2, v3⟩, rfl, rfl, rfl, rfl, wf_top r0⟩

theorem pool_in {v : Value} (hv : ∃ cs, v = .agg cs ∧ cs.size = Try.prog.cellsOf 29) (h : DataW.Trod enc Try.prog W base (fun _ => true) held 29 v d p) :
    ∃ V : Pool, v = vP V ∧ V.k ≤ 9223372036854775807 := by
  obtain ⟨cs, rfl, hcs⟩ := hv
  obtain ⟨fuel, hf⟩ := h
  rw [four_cells] at hcs
  obtain ⟨e0, e1, e2, e3, rfl⟩ : ∃ e0 e1 e2 e3, cs = #[e0, e1, e2, e3] := by
    obtain ⟨l⟩ := cs
    match l, hcs with
    | [e0, e1, e2, e3], _ => exact ⟨e0, e1, e2, e3, rfl⟩
  obtain ⟨o, rfl, rfl, rfl, rfl, h1⟩ := pool_cells hf
  exact ⟨o, rfl, h1⟩

theorem osds_open {fuel : Nat} {cs : List Value} (hf : DataW.trod enc Try.prog W base (fun _ => true) held fuel 30 cs = some (d, p)) :
    (cs = [.slice none 0 0] ∧ d = .nil) ∨
    ∃ (a : Addr) (len cap n : Nat) (DD : Nat → DataW H) (Pl : Nat → List MemPlace), cs = [.slice (some a) len cap] ∧ len ≤ cap ∧ d = .slice ((List.range len).map DD) ((List.range (cap - len)).map fun j => DD (len + j)) ∧
      ∀ i, i < cap → ∃ e0 e1 e2 e3 e4 e5 e6 e7, (∀ j v, [e0, e1, e2, e3, e4, e5, e6, e7][j]? = some v → W.cell? (a.add (i * 8 + j)) = some v) ∧ DataW.trod enc Try.prog W base (fun _ => true) held n 45 [e0, e1, e2, e3, e4, e5, e6, e7] = some (DD i, Pl i) := by
  rcases open_slice Try.underlying30 hf with ⟨h1, h2⟩ | ⟨a, len, cap, m, n, DD, Pl, rfl, hb, hl, hm, hmm, hx, hcell⟩
  · simp only [Prod.mk.injEq] at h2
    exact .inl ⟨h1, h2.1⟩
  · simp only [if_true] at hmm
    subst hmm
    simp only [Prod.mk.injEq] at hx
    refine .inr ⟨a, len, m, n, DD, Pl, rfl, hl, hx.1, fun i hi => ?_⟩
    obtain ⟨cs', h1, h2⟩ := hcell i hi
    rw [eight_cells] at h1
    obtain ⟨_, hlen, hc⟩ := World.cells?_some h1
    match cs', hlen with
    | [e0, e1, e2, e3, e4, e5, e6, e7], _ =>
      refine ⟨e0, e1, e2, e3, e4, e5, e6, e7, fun j v hv => ?_, h2⟩
      have hj := (List.getElem?_eq_some_iff.1 hv).1
      have q := hc j (by simpa using hj)
      rw [add_add] at q
      rw [q, ← hv, List.getElem?_eq_getElem hj]

theorem osds_in {fuel : Nat} {cs : List Value} (hf : DataW.trod enc Try.prog W base (fun _ => true) held fuel 30 cs = some (d, p)) (hw : ∀ x ∈ d.weights Try.prog 30, x ≤ reachBytes) :
    ∃ a len cap V, cs = [.slice a len cap] ∧ Os W a len cap V ∧ len * 56 ≤ 140737488351232 := by
  rcases osds_open hf with ⟨h1, _⟩ | ⟨a, len, cap, n, DD, Pl, h1, hl, rfl, hc⟩
  · exact ⟨none, 0, 0, [], h1, ⟨rfl, Nat.le_refl _, by omega, fun _ => ⟨rfl, rfl⟩, .inl rfl⟩, by omega⟩
  · have hb48 : Try.prog.bytesOf 45 = 56 := by kernel_rfl
    simp only [DataW.weights, Try.underlying30, List.mem_cons, List.mem_append, hb48] at hw
    have hw0 := hw _ (.inl rfl)
    simp only [List.length_map, List.length_range, reachBytes] at hw0
    haveI : Inhabited Osd := ⟨noO 0⟩
    have each : ∀ i, i < len → ∃ v : Osd, ∀ (j : Nat) (u : Value), (enO v)[j]? = some u → W.cell? (a.add (i * 8 + j)) = some u := fun i hi => by
      obtain ⟨e0, e1, e2, e3, e4, e5, e6, e7, g, g5⟩ := hc i (by omega)
      obtain ⟨o, rfl, rfl, rfl, rfl, rfl, rfl, rfl, rfl⟩ := osd_cells g5
      exact ⟨o, fun j u hu => g j u hu⟩
    obtain ⟨V, hV⟩ := choose_lt each
    refine ⟨some a, len, cap, (List.range len).map V, h1, ⟨by simp, hl, by omega, (fun h => by cases h), ?_⟩, by omega⟩
    by_cases h0 : len = 0
    · exact .inl h0
    · obtain ⟨b, off, spot⟩ := a
      have c0 := hV 0 (by omega) 0 _ rfl
      have hspot : spot = none := by simpa [Addr.add] using World.cell?_spot c0
      subst hspot
      refine .inr ⟨b, off, rfl, by simpa [Addr.add] using cell_lt' c0, fun q x hq j u hu => ?_⟩
      have hql : q < len := by simpa using (List.getElem?_eq_some_iff.1 hq).1
      have hx : V q = x := by simpa [hql] using hq
      subst hx
      have := hV q hql j u hu
      rw [add_at] at this
      rw [← Nat.add_assoc] at this
      exact this

theorem map_in {v : Value} (hv : ∃ cs, v = .agg cs ∧ cs.size = Try.prog.cellsOf 32) (h : DataW.Trod enc Try.prog W base (fun _ => true) held 32 v d p) (hw : ∀ x ∈ d.weights Try.prog 32, x ≤ reachBytes) :
    ∃ V : MpV, v = vM V.m.ep V.m.pool V.x V.n V.c ∧ MapIn W V := by
  obtain ⟨cs, rfl, hcs⟩ := hv
  obtain ⟨fuel, hf⟩ := h
  rw [six_cells] at hcs
  obtain ⟨e0, e1, e2, e3, e4, e5, rfl⟩ : ∃ e0 e1 e2 e3 e4 e5, cs = #[e0, e1, e2, e3, e4, e5] := by
    obtain ⟨l⟩ := cs
    match l, hcs with
    | [e0, e1, e2, e3, e4, e5], _ => exact ⟨e0, e1, e2, e3, e4, e5, rfl⟩
  have c3 : Try.prog.cellsOf 3 = 1 := by kernel_rfl
  have c24 : Try.prog.cellsOf 30 = 1 := by kernel_rfl
  change DataW.trod enc Try.prog W base (fun _ => true) held fuel 32 [e0, e1, e2, e3, e4, e5] = some (d, p) at hf
  obtain ⟨xs, n, _, hx, _, hxl, hF⟩ := DataW.trod_struct Try.underlying32 hf
  simp only [Prod.mk.injEq] at hx
  obtain ⟨hd, _⟩ := hx
  subst hd
  obtain ⟨x0, x1, x2, rfl⟩ : ∃ x0 x1 x2, xs = [x0, x1, x2] := by
    match xs, hxl with
    | [x0, x1, x2], _ => exact ⟨x0, x1, x2, rfl⟩
  have f0' : DataW.trod enc Try.prog W base (fun _ => true) held n 3 (([e0, e1, e2, e3, e4, e5].drop 0).take (Try.prog.cellsOf 3)) = some x0 := hF 0 _ rfl
  rw [c3] at f0'
  have f0 : DataW.trod enc Try.prog W base (fun _ => true) held n 3 [e0] = some (x0.1, x0.2) := f0'
  have f1' : DataW.trod enc Try.prog W base (fun _ => true) held n 29 (([e0, e1, e2, e3, e4, e5].drop 1).take (Try.prog.cellsOf 29)) = some x1 := hF 1 _ rfl
  rw [four_cells] at f1'
  have f1 : DataW.trod enc Try.prog W base (fun _ => true) held n 29 [e1, e2, e3, e4] = some (x1.1, x1.2) := f1'
  have f2' : DataW.trod enc Try.prog W base (fun _ => true) held n 30 (([e0, e1, e2, e3, e4, e5].drop 5).take (Try.prog.cellsOf 30)) = some x2 := hF 2 _ rfl
  rw [c24] at f2'
  have f2 : DataW.trod enc Try.prog W base (fun _ => true) held n 30 [e5] = some (x2.1, x2.2) := f2'
  obtain ⟨v0, q0, _⟩ := DataW.trod_int Try.underlying3 f0
  simp at q0
  subst q0
  obtain ⟨o, rfl, rfl, rfl, rfl, hk⟩ := pool_cells f1
  simp only [DataW.weights, Try.underlying32] at hw
  obtain ⟨a, len, cap, L, g1, g2, g3⟩ := osds_in f2 (fun x hx => hw x (DataW.weights_mem_each (j := 2) (t := 30) rfl rfl x hx))
  simp at g1
  exact ⟨⟨⟨v0, o, L⟩, a, len, cap⟩, by rw [g1]; rfl, g2, hk, g3⟩

end

end Go.Proofs.Ythlfmbijagpggaa.At
