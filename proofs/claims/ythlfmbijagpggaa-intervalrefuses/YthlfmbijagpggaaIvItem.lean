/-
  What a law is told of a list of numbers, a row of maps, an interval and three numbers that came in, with their reach.
  Conditions: none.
-/
import Derived.Test.YthlfmbijagpggaaJIvPlain
import Derived.Test.YthlfmbijagpggaaAtItem
import Derived.Test.YthlfmbijagpggaaSrItem
namespace Go.Proofs.Ythlfmbijagpggaa.Iv
open Go.RowKit Go.ChangeShapes Go.WideShapes Go.Deep By Fl At Cr Pl
set_option linter.unusedVariables false
set_option linter.unusedSimpArgs false
set_option maxRecDepth 100000

structure IvV where
  f : Int
  t : Int
  x1 : Option Addr
  n1 : Nat
  c1 : Nat
  x2 : Option Addr
  n2 : Nat
  c2 : Nat
  x3 : Option Addr
  n3 : Nat
  c3 : Nat
  p : Int
  ac : List Int
  lv : List Int
  bt : List Int

def vIv (v : IvV) : Value := .agg #[.int .i64 v.f, .int .i64 v.t, .slice v.x1 v.n1 v.c1, .slice v.x2 v.n2 v.c2, .slice v.x3 v.n3 v.c3, .int .i64 v.p]

structure IvIn (w : World) (v : IvV) : Prop where
  a : Nu w v.x1 v.n1 v.c1 v.ac
  l : Nu w v.x2 v.n2 v.c2 v.lv
  b : Nu w v.x3 v.n3 v.c3 v.bt
  sa : v.n1 ≤ 140737488351232
  sl : v.n2 ≤ 140737488351232

section
variable {H : Type} {enc : TypeId × Value → H} {W : World} {base : Nat} {held : Bool} {d : DataW H} {p : List MemPlace}

theorem int_one : Try.prog.cellsOf 3 = 1 := by kernel_rfl
theorem ints_one : Try.prog.cellsOf 23 = 1 := by kernel_rfl
theorem iv_six : Try.prog.cellsOf 25 = 6 := by kernel_rfl
theorem a_three : Try.prog.cellsOf 26 = 3 := by kernel_rfl

theorem ints_in {fuel : Nat} {cs : List Value} (hf : DataW.trod enc Try.prog W base (fun _ => true) held fuel 23 cs = some (d, p)) (hw : ∀ x ∈ d.weights Try.prog 23, x ≤ reachBytes) :
    ∃ a len cap l, cs = [.slice a len cap] ∧ Nu W a len cap l ∧ len * 8 ≤ 140737488351232 := by
  rcases open_slice Try.underlying23 hf with ⟨h1, h2⟩ | ⟨a, len, cap, m, n, DD, Pl, rfl, hb, hl, hm, hmm, hx, hcell⟩
  · exact ⟨none, 0, 0, [], h1, ⟨rfl, Nat.le_refl _, .inl rfl⟩, by omega⟩
  · simp only [if_true] at hmm
    subst hmm
    simp only [Prod.mk.injEq] at hx
    obtain ⟨rfl, _⟩ := hx
    have hb8 : Try.prog.bytesOf 3 = 8 := by kernel_rfl
    simp only [DataW.weights, Try.underlying23, List.mem_cons, List.mem_append, hb8] at hw
    have hw0 := hw _ (.inl rfl)
    simp only [List.length_map, List.length_range, reachBytes] at hw0
    have each : ∀ i, i < len → ∃ z : Int, W.cell? (a.add i) = some (.int .i64 z) := fun i hi => by
      obtain ⟨cs', g1, g2⟩ := hcell i (by omega)
      rw [int_one] at g1
      obtain ⟨_, hlen, hc⟩ := World.cells?_some g1
      match cs', hlen with
      | [e0], _ =>
        obtain ⟨v0, q0, _⟩ := DataW.trod_int Try.underlying3 g2
        simp at q0
        subst q0
        have q := hc 0 (by simp)
        rw [add_add, Nat.add_zero, Nat.mul_one] at q
        exact ⟨v0, q⟩
    haveI : Inhabited Int := ⟨0⟩
    obtain ⟨V, hV⟩ := choose_lt each
    refine ⟨some a, len, m, (List.range len).map V, rfl, ⟨by simp, hl, ?_⟩, by omega⟩
    by_cases h0 : len = 0
    · exact .inl h0
    · obtain ⟨b, off, spot⟩ := a
      have c0 := hV 0 (by omega)
      have hspot : spot = none := by simpa [Addr.add] using World.cell?_spot c0
      subst hspot
      refine .inr ⟨b, off, rfl, by simpa [Addr.add] using cell_lt' c0, fun q x hq => ?_⟩
      have hql : q < len := by simpa using (List.getElem?_eq_some_iff.1 hq).1
      have hx : V q = x := by simpa [hql] using hq
      subst hx
      have := hV q hql
      rw [add_at] at this
      exact this

theorem maps_in {fuel : Nat} {cs : List Value} (hf : DataW.trod enc Try.prog W base (fun _ => true) held fuel 22 cs = some (d, p)) (hw : ∀ x ∈ d.weights Try.prog 22, x ≤ reachBytes) :
    ∃ a len cap L, cs = [.slice a len cap] ∧ Ms W a len cap L := by
  rcases open_slice Try.underlying22 hf with ⟨h1, h2⟩ | ⟨a, len, cap, m, n, DD, Pl, rfl, hb, hl, hm, hmm, hx, hcell⟩
  · exact ⟨none, 0, 0, [], h1, ⟨rfl, Nat.le_refl _, fun _ => ⟨rfl, rfl⟩, .inl rfl, fun k v hk => by simp at hk⟩⟩
  · simp only [if_true] at hmm
    subst hmm
    simp only [Prod.mk.injEq] at hx
    obtain ⟨rfl, _⟩ := hx
    simp only [DataW.weights, Try.underlying22, List.mem_cons, List.mem_append] at hw
    have each : ∀ i, i < len → ∃ v : MV, (∀ (j : Nat) (u : Value), (enM v)[j]? = some u → W.cell? (a.add (i * 6 + j)) = some u) ∧ At.Os W v.x v.n v.c v.m.osds ∧ v.m.pool.k ≤ 9223372036854775807 := fun i hi => by
      obtain ⟨cs', g1, g2⟩ := hcell i (by omega)
      rw [six_cells] at g1
      obtain ⟨_, hlen, hc⟩ := World.cells?_some g1
      match cs', hlen with
      | [e0, e1, e2, e3, e4, e5], _ =>
        obtain ⟨V, hV, hin⟩ := map_in (v := .agg #[e0, e1, e2, e3, e4, e5]) ⟨_, rfl, by rw [six_cells]; rfl⟩ ⟨n, g2⟩ (fun x hx => hw x (by
          first
            | exact .inr (.inl (mem_weightsAll hx (List.mem_map.2 ⟨i, List.mem_range.2 hi, rfl⟩)))
            | exact .inr (mem_weightsAll hx (List.mem_map.2 ⟨i, List.mem_range.2 hi, rfl⟩))))
        unfold vM at hV
        injection hV with hV
        injection hV with hV
        refine ⟨⟨V.m, V.x, V.n, V.c⟩, fun j u hu => ?_, hin.os, hin.k⟩
        have hj := (List.getElem?_eq_some_iff.1 hu).1
        have q := hc j (by simpa [enM] using hj)
        rw [add_add] at q
        rw [q, ← hu]
        have e : [e0, e1, e2, e3, e4, e5] = enM ⟨V.m, V.x, V.n, V.c⟩ := hV
        have e2 : [e0, e1, e2, e3, e4, e5][j]? = (enM ⟨V.m, V.x, V.n, V.c⟩)[j]? := congrArg (fun l : List Value => l[j]?) e
        rw [← e2]
    haveI : Inhabited MV := ⟨⟨⟨0, noP, []⟩, none, 0, 0⟩⟩
    obtain ⟨V, hV⟩ := choose_lt each
    refine ⟨some a, len, m, (List.range len).map V, rfl, ⟨by simp, hl, (fun h => by cases h), ?_, fun q x hq => ?_⟩⟩
    · by_cases h0 : len = 0
      · exact .inl h0
      · obtain ⟨b, off, spot⟩ := a
        have c0 := (hV 0 (by omega)).1 0 _ rfl
        have hspot : spot = none := by simpa [Addr.add] using World.cell?_spot c0
        subst hspot
        refine .inr ⟨b, off, rfl, by simpa [Addr.add] using cell_lt' c0, fun q x hq j u hu => ?_⟩
        have hql : q < len := by simpa using (List.getElem?_eq_some_iff.1 hq).1
        have hx : V q = x := by simpa [hql] using hq
        subst hx
        have := (hV q hql).1 j u hu
        rw [add_at] at this
        rw [← Nat.add_assoc] at this
        exact this
    · have hql : q < len := by simpa using (List.getElem?_eq_some_iff.1 hq).1
      have hx : V q = x := by simpa [hql] using hq
      subst hx
      exact (hV q hql).2

theorem three_in {v : Value} (hv : ∃ cs, v = .agg cs ∧ cs.size = Try.prog.cellsOf 26) (h : DataW.Trod enc Try.prog W base (fun _ => true) held 26 v d p) :
    ∃ V U Y : Int, v = .agg #[.int .i64 V, .int .i64 U, .int .i64 Y] := by
  obtain ⟨cs, rfl, hcs⟩ := hv
  obtain ⟨fuel, hf⟩ := h
  rw [a_three] at hcs
  obtain ⟨e0, e1, e2, rfl⟩ : ∃ e0 e1 e2, cs = #[e0, e1, e2] := by
    obtain ⟨l⟩ := cs
    match l, hcs with
    | [e0, e1, e2], _ => exact ⟨e0, e1, e2, rfl⟩
  change DataW.trod enc Try.prog W base (fun _ => true) held fuel 26 [e0, e1, e2] = some (d, p) at hf
  obtain ⟨xs, n, _, hx, _, hxl, hF⟩ := DataW.trod_array Try.underlying26 hf
  obtain ⟨x0, x1, x2, rfl⟩ : ∃ x0 x1 x2, xs = [x0, x1, x2] := by
    match xs, hxl with
    | [x0, x1, x2], _ => exact ⟨x0, x1, x2, rfl⟩
  have f0' := hF 0 (by omega)
  have f1' := hF 1 (by omega)
  have f2' := hF 2 (by omega)
  rw [int_one] at f0' f1' f2'
  have f0 : DataW.trod enc Try.prog W base (fun _ => true) held n 3 [e0] = some (x0.1, x0.2) := f0'
  have f1 : DataW.trod enc Try.prog W base (fun _ => true) held n 3 [e1] = some (x1.1, x1.2) := f1'
  have f2 : DataW.trod enc Try.prog W base (fun _ => true) held n 3 [e2] = some (x2.1, x2.2) := f2'
  obtain ⟨v0, q0, _⟩ := DataW.trod_int Try.underlying3 f0
  obtain ⟨v1, q1, _⟩ := DataW.trod_int Try.underlying3 f1
  obtain ⟨v2, q2, _⟩ := DataW.trod_int Try.underlying3 f2
  simp at q0 q1 q2
  subst q0 q1 q2
  exact ⟨v0, v1, v2, rfl⟩

theorem iv_in {v : Value} (hv : ∃ cs, v = .agg cs ∧ cs.size = Try.prog.cellsOf 25) (h : DataW.Trod enc Try.prog W base (fun _ => true) held 25 v d p) (hw : ∀ x ∈ d.weights Try.prog 25, x ≤ reachBytes) :
    ∃ V : IvV, v = vIv V ∧ IvIn W V := by
  obtain ⟨cs, rfl, hcs⟩ := hv
  obtain ⟨fuel, hf⟩ := h
  rw [iv_six] at hcs
  obtain ⟨e0, e1, e2, e3, e4, e5, rfl⟩ : ∃ e0 e1 e2 e3 e4 e5, cs = #[e0, e1, e2, e3, e4, e5] := by
    obtain ⟨l⟩ := cs
    match l, hcs with
    | [e0, e1, e2, e3, e4, e5], _ => exact ⟨e0, e1, e2, e3, e4, e5, rfl⟩
  change DataW.trod enc Try.prog W base (fun _ => true) held fuel 25 [e0, e1, e2, e3, e4, e5] = some (d, p) at hf
  obtain ⟨xs, n, _, hx, _, hxl, hF⟩ := DataW.trod_struct Try.underlying25 hf
  simp only [Prod.mk.injEq] at hx
  obtain ⟨hd, _⟩ := hx
  subst hd
  obtain ⟨x0, x1, x2, x3, x4, x5, rfl⟩ : ∃ x0 x1 x2 x3 x4 x5, xs = [x0, x1, x2, x3, x4, x5] := by
    match xs, hxl with
    | [x0, x1, x2, x3, x4, x5], _ => exact ⟨x0, x1, x2, x3, x4, x5, rfl⟩
  have f0' : DataW.trod enc Try.prog W base (fun _ => true) held n 3 (([e0, e1, e2, e3, e4, e5].drop 0).take (Try.prog.cellsOf 3)) = some x0 := hF 0 _ rfl
  have f1' : DataW.trod enc Try.prog W base (fun _ => true) held n 3 (([e0, e1, e2, e3, e4, e5].drop 1).take (Try.prog.cellsOf 3)) = some x1 := hF 1 _ rfl
  have f2' : DataW.trod enc Try.prog W base (fun _ => true) held n 23 (([e0, e1, e2, e3, e4, e5].drop 2).take (Try.prog.cellsOf 23)) = some x2 := hF 2 _ rfl
  have f3' : DataW.trod enc Try.prog W base (fun _ => true) held n 23 (([e0, e1, e2, e3, e4, e5].drop 3).take (Try.prog.cellsOf 23)) = some x3 := hF 3 _ rfl
  have f4' : DataW.trod enc Try.prog W base (fun _ => true) held n 23 (([e0, e1, e2, e3, e4, e5].drop 4).take (Try.prog.cellsOf 23)) = some x4 := hF 4 _ rfl
  have f5' : DataW.trod enc Try.prog W base (fun _ => true) held n 3 (([e0, e1, e2, e3, e4, e5].drop 5).take (Try.prog.cellsOf 3)) = some x5 := hF 5 _ rfl
  rw [int_one] at f0' f1' f5'
  rw [ints_one] at f2' f3' f4'
  have f0 : DataW.trod enc Try.prog W base (fun _ => true) held n 3 [e0] = some (x0.1, x0.2) := f0'
  have f1 : DataW.trod enc Try.prog W base (fun _ => true) held n 3 [e1] = some (x1.1, x1.2) := f1'
  have f2 : DataW.trod enc Try.prog W base (fun _ => true) held n 23 [e2] = some (x2.1, x2.2) := f2'
  have f3 : DataW.trod enc Try.prog W base (fun _ => true) held n 23 [e3] = some (x3.1, x3.2) := f3'
  have f4 : DataW.trod enc Try.prog W base (fun _ => true) held n 23 [e4] = some (x4.1, x4.2) := f4'
  have f5 : DataW.trod enc Try.prog W base (fun _ => true) held n 3 [e5] = some (x5.1, x5.2) := f5'
  obtain ⟨v0, q0, _⟩ := DataW.trod_int Try.underlying3 f0
  obtain ⟨v1, q1, _⟩ := DataW.trod_int Try.underlying3 f1
  obtain ⟨v5, q5, _⟩ := DataW.trod_int Try.underlying3 f5
  simp at q0 q1 q5
  subst q0 q1 q5
  simp only [DataW.weights, Try.underlying25] at hw
  obtain ⟨a2, l2, c2, L2, g2, i2, j2⟩ := ints_in f2 (fun x hx => hw x (DataW.weights_mem_each (j := 2) (t := 23) rfl rfl x hx))
  obtain ⟨a3, l3, c3, L3, g3, i3, j3⟩ := ints_in f3 (fun x hx => hw x (DataW.weights_mem_each (j := 3) (t := 23) rfl rfl x hx))
  obtain ⟨a4, l4, c4, L4, g4, i4, j4⟩ := ints_in f4 (fun x hx => hw x (DataW.weights_mem_each (j := 4) (t := 23) rfl rfl x hx))
  simp at g2 g3 g4
  exact ⟨⟨v0, v1, a2, l2, c2, a3, l3, c3, a4, l4, c4, v5, L2, L3, L4⟩, by rw [g2, g3, g4]; rfl, i2, i3, i4, by show l2 ≤ _; omega, by show l3 ≤ _; omega⟩

end

end Go.Proofs.Ythlfmbijagpggaa.Iv
