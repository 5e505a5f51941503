/-
  What a law is told of numbers, Staged, Infos, Intervals, and lists of them, that came in.
  Conditions: none.
-/
import Derived.Test.YtgcjecmgjncclaaPeMap
import Derived.Test.YtgcjecmgjncclaaByUpto
import Derived.Deep.Slices
namespace Go.Proofs.Ytgcjecmgjncclaa.Pe
open Go.RowKit Go.ChangeShapes Go.WideShapes Go.Deep By Fl Pz
set_option linter.unusedVariables false
set_option linter.unusedSimpArgs false
set_option maxRecDepth 100000

theorem bulk_mem {H : Type} {d : DataW H} : ∀ {l : List (DataW H)}, d ∈ l → Rows.uptoBulk d ≤ Rows.uptoBulkAll l
  | x :: l, h => by
    simp only [Rows.uptoBulkAll]
    rcases List.mem_cons.1 h with h | h
    · subst h; omega
    · have := bulk_mem h
      omega

theorem okWide_array {P : Program} {w : World} {base : Nat} {t e : TypeId} {k : Nat} {v : Value} (ht : P.underlying t = some (.array k e)) (h : Value.okWide P w .any base t v) : ∃ cs, v = .agg cs ∧ cs.size = P.cellsOf t := by
  simp only [Value.okWide, ht] at h
  obtain ⟨cs, h1, h2, _⟩ := h
  exact ⟨cs, h1, h2⟩

/- A list that is read, of cells that are there. -/
theorem lis_made {α : Type} [Inhabited α] {W : World} {en : α → List Value} {sz : Nat} {A : World → (Nat → Prop) → α → Prop} (a : Addr) (len cap : Nat) (hl : len ≤ cap) (hs : len ≤ 17592186043904) (hz : 0 < sz) (hne : ∀ v, 0 < (en v).length)
    (each : ∀ i, i < len → ∃ v : α, (∀ (j : Nat) (u : Value), (en v)[j]? = some u → W.cell? (a.add (i * sz + j)) = some u) ∧ A W (fun _ => True) v) : ∃ L : List α, Lis en sz A W (fun _ => True) (some a) len cap L := by
  obtain ⟨V, hV⟩ := choose_lt each
  refine ⟨(List.range len).map V, ⟨by simp, hl, hs, (fun h => by cases h), ?_, fun x hx => ?_⟩⟩
  · by_cases h0 : len = 0
    · exact .inl h0
    · obtain ⟨b, off, spot⟩ := a
      have c0 := (hV 0 (by omega)).1 0 _ (List.getElem?_eq_getElem (hne _))
      have hspot : spot = none := by simpa [Addr.add] using World.cell?_spot c0
      subst hspot
      refine .inr ⟨b, off, rfl, by simpa [Addr.add] using cell_lt' c0, trivial, fun q x hq j u hu => ?_⟩
      have hql : q < len := by simpa using (List.getElem?_eq_some_iff.1 hq).1
      have hx : V q = x := by simpa [hql] using hq
      subst hx
      have := (hV q hql).1 j u hu
      rw [add_at] at this
      rw [← Nat.add_assoc] at this
      exact this
  · obtain ⟨i, hi, rfl⟩ := List.mem_map.1 hx
    exact (hV i (List.mem_range.1 hi)).2

theorem mem_weightsAll {H : Type} {P : Program} {e : TypeId} {d : DataW H} {n : Nat} (hn : n ∈ d.weights P e) : ∀ {ds : List (DataW H)}, d ∈ ds → n ∈ DataW.weightsAll P e ds
  | d0 :: ds, h => by
    simp only [DataW.weightsAll, List.mem_append]
    rcases List.mem_cons.1 h with h | h
    · subst h; exact .inl hn
    · exact .inr (mem_weightsAll hn h)

theorem wf_of {z : Int} (h : (Lit.int .i64 z).wf = true) : wfI z := by
  have e1 : IntKind.i64.min = -9223372036854775808 := by decide
  have e2 : IntKind.i64.max = 9223372036854775807 := by decide
  unfold Lit.wf at h
  simp [e1, e2] at h
  exact h
/- An Info that came in. -/
def FIn (w : World) (F : Nat → Prop) (v : FV) : Prop := FAt w F v ∧ wfI v.os
theorem fin_fs {w : World} {F : Nat → Prop} {x : Option Addr} {n c : Nat} {L : List FV} (h : Lis enF 5 FIn w F x n c L) : Fs w F x n c L ∧ ∀ i ∈ L, wfI i.os :=
  ⟨⟨h.len, h.le, h.small, h.nil, h.row, fun a ha => (h.each a ha).1⟩, fun i hi => (h.each i hi).2⟩

section
variable {H : Type} {enc : TypeId × Value → H} {W : World} {base : Nat} {held : Bool} {d : DataW H} {p : List MemPlace}

theorem num_cells {fuel : Nat} {e0 : Value} (hf : DataW.trod enc Try.prog W base (fun _ => true) held fuel 3 [e0] = some (d, p)) (hw : ∀ x ∈ d.weights Try.prog 3, x ≤ reachBytes) : ∃ v : Int, [e0] = enN v ∧ NAt W (fun _ => True) v := by
  obtain ⟨v0, q0, _⟩ := DataW.trod_int Try.underlying3 hf
  simp at q0
  subst q0
  exact ⟨v0, rfl, trivial⟩

theorem nums_in {fuel : Nat} {cs : List Value} (hf : DataW.trod enc Try.prog W base (fun _ => true) held fuel 22 cs = some (d, p)) (hw : ∀ x ∈ d.weights Try.prog 22, x ≤ reachBytes) :
    ∃ a len cap L, cs = [.slice a len cap] ∧ Lis enN 1 (NAt) W (fun _ => True) a len cap L ∧ len * 8 ≤ 140737488351232 := by
  rcases open_slice Try.underlying22 hf with ⟨h1, h2⟩ | ⟨a, len, cap, m, n, DD, Pl, rfl, hb, hl, hm, hmm, hx, hcell⟩
  · exact ⟨none, 0, 0, [], h1, Lis.empty W _, by omega⟩
  · simp only [if_true] at hmm
    subst hmm
    simp only [Prod.mk.injEq] at hx
    obtain ⟨rfl, _⟩ := hx
    have hbt : Try.prog.bytesOf 3 = 8 := by kernel_rfl
    simp only [DataW.weights, Try.underlying22, List.mem_cons, List.mem_append, hbt] at hw
    have hw0 := hw _ (.inl rfl)
    simp only [List.length_map, List.length_range, reachBytes] at hw0
    haveI : Inhabited Int := ⟨0⟩
    have hc : Try.prog.cellsOf 3 = 1 := by kernel_rfl
    have each : ∀ i, i < len → ∃ v : Int, (∀ (j : Nat) (u : Value), (enN v)[j]? = some u → W.cell? (a.add (i * 1 + j)) = some u) ∧ (NAt) W (fun _ => True) v := fun i hi => by
      obtain ⟨cs', h1, h2⟩ := hcell i (by omega)
      rw [hc] at h1
      obtain ⟨_, hlen, hcc⟩ := World.cells?_some h1
      match cs', hlen, hcc, h2 with
      | [e0], _, hcc, h2 =>
        obtain ⟨v, hv, k⟩ := num_cells h2 (fun x hx => hw x (by
          first
            | exact .inr (.inl (mem_weightsAll hx (List.mem_map.2 ⟨i, List.mem_range.2 hi, rfl⟩)))
            | exact .inr (mem_weightsAll hx (List.mem_map.2 ⟨i, List.mem_range.2 hi, rfl⟩))))
        refine ⟨v, fun j u hu => ?_, k⟩
        rw [← hv] at hu
        have hj := (List.getElem?_eq_some_iff.1 hu).1
        have q := hcc j (by simpa using hj)
        rw [add_add] at q
        rw [q, ← hu]
    obtain ⟨L, hL⟩ := lis_made a len m hl (by omega) (by omega) (fun v => by simp [enN]) each
    exact ⟨some a, len, m, L, rfl, hL, by omega⟩

theorem staged_cells {fuel : Nat} {e0 e1 : Value} (hf : DataW.trod enc Try.prog W base (fun _ => true) held fuel 48 [e0, e1] = some (d, p)) (hw : ∀ x ∈ d.weights Try.prog 48, x ≤ reachBytes) :
    ∃ v : TV, [e0, e1] = enT v ∧ TAt W (fun _ => True) v := by
  have c0 : Try.prog.cellsOf 3 = 1 := by kernel_rfl
  obtain ⟨xs, n, _, hx, _, hxl, hF⟩ := DataW.trod_struct Try.underlying48 hf
  simp only [Prod.mk.injEq] at hx
  obtain ⟨hd, _⟩ := hx
  subst hd
  obtain ⟨x0, x1, rfl⟩ : ∃ x0 x1, xs = [x0, x1] := by
    match xs, hxl with
    | [x0, x1], _ => exact ⟨x0, x1, rfl⟩
  have f0' : DataW.trod enc Try.prog W base (fun _ => true) held n 3 (([e0, e1].drop 0).take (Try.prog.cellsOf 3)) = some x0 := hF 0 _ rfl
  rw [c0] at f0'
  have f0 : DataW.trod enc Try.prog W base (fun _ => true) held n 3 [e0] = some (x0.1, x0.2) := f0'
  have f1' : DataW.trod enc Try.prog W base (fun _ => true) held n 3 (([e0, e1].drop 1).take (Try.prog.cellsOf 3)) = some x1 := hF 1 _ rfl
  rw [c0] at f1'
  have f1 : DataW.trod enc Try.prog W base (fun _ => true) held n 3 [e1] = some (x1.1, x1.2) := f1'
  obtain ⟨v0, q0, _, r0⟩ := DataW.trod_int Try.underlying3 f0
  simp at q0
  subst q0
  obtain ⟨v1, q1, _, r1⟩ := DataW.trod_int Try.underlying3 f1
  simp at q1
  subst q1
  simp only [DataW.weights, Try.underlying48] at hw
  exact ⟨⟨v0, v1⟩, rfl, trivial⟩

theorem stageds_in {fuel : Nat} {cs : List Value} (hf : DataW.trod enc Try.prog W base (fun _ => true) held fuel 25 cs = some (d, p)) (hw : ∀ x ∈ d.weights Try.prog 25, x ≤ reachBytes) :
    ∃ a len cap L, cs = [.slice a len cap] ∧ Lis enT 2 (TAt) W (fun _ => True) a len cap L ∧ len * 16 ≤ 140737488351232 := by
  rcases open_slice Try.underlying25 hf with ⟨h1, h2⟩ | ⟨a, len, cap, m, n, DD, Pl, rfl, hb, hl, hm, hmm, hx, hcell⟩
  · exact ⟨none, 0, 0, [], h1, Lis.empty W _, by omega⟩
  · simp only [if_true] at hmm
    subst hmm
    simp only [Prod.mk.injEq] at hx
    obtain ⟨rfl, _⟩ := hx
    have hbt : Try.prog.bytesOf 48 = 16 := by kernel_rfl
    simp only [DataW.weights, Try.underlying25, List.mem_cons, List.mem_append, hbt] at hw
    have hw0 := hw _ (.inl rfl)
    simp only [List.length_map, List.length_range, reachBytes] at hw0
    haveI : Inhabited TV := ⟨⟨0, 0⟩⟩
    have hc : Try.prog.cellsOf 48 = 2 := by kernel_rfl
    have each : ∀ i, i < len → ∃ v : TV, (∀ (j : Nat) (u : Value), (enT v)[j]? = some u → W.cell? (a.add (i * 2 + j)) = some u) ∧ (TAt) W (fun _ => True) v := fun i hi => by
      obtain ⟨cs', h1, h2⟩ := hcell i (by omega)
      rw [hc] at h1
      obtain ⟨_, hlen, hcc⟩ := World.cells?_some h1
      match cs', hlen, hcc, h2 with
      | [e0, e1], _, hcc, h2 =>
        obtain ⟨v, hv, k⟩ := staged_cells h2 (fun x hx => hw x (by
          first
            | exact .inr (.inl (mem_weightsAll hx (List.mem_map.2 ⟨i, List.mem_range.2 hi, rfl⟩)))
            | exact .inr (mem_weightsAll hx (List.mem_map.2 ⟨i, List.mem_range.2 hi, rfl⟩))))
        refine ⟨v, fun j u hu => ?_, k⟩
        rw [← hv] at hu
        have hj := (List.getElem?_eq_some_iff.1 hu).1
        have q := hcc j (by simpa using hj)
        rw [add_add] at q
        rw [q, ← hu]
    obtain ⟨L, hL⟩ := lis_made a len m hl (by omega) (by omega) (fun v => by simp [enT]) each
    exact ⟨some a, len, m, L, rfl, hL, by omega⟩

theorem info_cells {fuel : Nat} {e0 e1 e2 e3 e4 : Value} (hf : DataW.trod enc Try.prog W base (fun _ => true) held fuel 27 [e0, e1, e2, e3, e4] = some (d, p)) (hw : ∀ x ∈ d.weights Try.prog 27, x ≤ reachBytes) :
    ∃ v : FV, [e0, e1, e2, e3, e4] = enF v ∧ FIn W (fun _ => True) v := by
  have c0 : Try.prog.cellsOf 3 = 1 := by kernel_rfl
  have c1 : Try.prog.cellsOf 25 = 1 := by kernel_rfl
  obtain ⟨xs, n, _, hx, _, hxl, hF⟩ := DataW.trod_struct Try.underlying27 hf
  simp only [Prod.mk.injEq] at hx
  obtain ⟨hd, _⟩ := hx
  subst hd
  obtain ⟨x0, x1, x2, x3, x4, rfl⟩ : ∃ x0 x1 x2 x3 x4, xs = [x0, x1, x2, x3, x4] := by
    match xs, hxl with
    | [x0, x1, x2, x3, x4], _ => exact ⟨x0, x1, x2, x3, x4, rfl⟩
  have f0' : DataW.trod enc Try.prog W base (fun _ => true) held n 3 (([e0, e1, e2, e3, e4].drop 0).take (Try.prog.cellsOf 3)) = some x0 := hF 0 _ rfl
  rw [c0] at f0'
  have f0 : DataW.trod enc Try.prog W base (fun _ => true) held n 3 [e0] = some (x0.1, x0.2) := f0'
  have f1' : DataW.trod enc Try.prog W base (fun _ => true) held n 3 (([e0, e1, e2, e3, e4].drop 1).take (Try.prog.cellsOf 3)) = some x1 := hF 1 _ rfl
  rw [c0] at f1'
  have f1 : DataW.trod enc Try.prog W base (fun _ => true) held n 3 [e1] = some (x1.1, x1.2) := f1'
  have f2' : DataW.trod enc Try.prog W base (fun _ => true) held n 3 (([e0, e1, e2, e3, e4].drop 2).take (Try.prog.cellsOf 3)) = some x2 := hF 2 _ rfl
  rw [c0] at f2'
  have f2 : DataW.trod enc Try.prog W base (fun _ => true) held n 3 [e2] = some (x2.1, x2.2) := f2'
  have f3' : DataW.trod enc Try.prog W base (fun _ => true) held n 3 (([e0, e1, e2, e3, e4].drop 3).take (Try.prog.cellsOf 3)) = some x3 := hF 3 _ rfl
  rw [c0] at f3'
  have f3 : DataW.trod enc Try.prog W base (fun _ => true) held n 3 [e3] = some (x3.1, x3.2) := f3'
  have f4' : DataW.trod enc Try.prog W base (fun _ => true) held n 25 (([e0, e1, e2, e3, e4].drop 4).take (Try.prog.cellsOf 25)) = some x4 := hF 4 _ rfl
  rw [c1] at f4'
  have f4 : DataW.trod enc Try.prog W base (fun _ => true) held n 25 [e4] = some (x4.1, x4.2) := f4'
  obtain ⟨v0, q0, _, r0⟩ := DataW.trod_int Try.underlying3 f0
  simp at q0
  subst q0
  obtain ⟨v1, q1, _, r1⟩ := DataW.trod_int Try.underlying3 f1
  simp at q1
  subst q1
  obtain ⟨v2, q2, _, r2⟩ := DataW.trod_int Try.underlying3 f2
  simp at q2
  subst q2
  obtain ⟨v3, q3, _, r3⟩ := DataW.trod_int Try.underlying3 f3
  simp at q3
  subst q3
  simp only [DataW.weights, Try.underlying27] at hw
  obtain ⟨a4, l4, k4, L4, g4, w4, m4⟩ := stageds_in f4 (fun x hx => hw x (DataW.weights_mem_each (j := 4) (t := 25) rfl rfl x hx))
  simp at g4
  subst g4
  exact ⟨⟨v0, v1, v2, v3, a4, l4, k4, L4⟩, rfl, w4, wf_of r0⟩

theorem infos_in {fuel : Nat} {cs : List Value} (hf : DataW.trod enc Try.prog W base (fun _ => true) held fuel 33 cs = some (d, p)) (hw : ∀ x ∈ d.weights Try.prog 33, x ≤ reachBytes) :
    ∃ a len cap L, cs = [.slice a len cap] ∧ Lis enF 5 (FIn) W (fun _ => True) a len cap L ∧ len * 56 ≤ 140737488351232 := by
  rcases open_slice Try.underlying33 hf with ⟨h1, h2⟩ | ⟨a, len, cap, m, n, DD, Pl, rfl, hb, hl, hm, hmm, hx, hcell⟩
  · exact ⟨none, 0, 0, [], h1, Lis.empty W _, by omega⟩
  · simp only [if_true] at hmm
    subst hmm
    simp only [Prod.mk.injEq] at hx
    obtain ⟨rfl, _⟩ := hx
    have hbt : Try.prog.bytesOf 27 = 56 := by kernel_rfl
    simp only [DataW.weights, Try.underlying33, List.mem_cons, List.mem_append, hbt] at hw
    have hw0 := hw _ (.inl rfl)
    simp only [List.length_map, List.length_range, reachBytes] at hw0
    haveI : Inhabited FV := ⟨⟨0, 0, 0, 0, none, 0, 0, []⟩⟩
    have hc : Try.prog.cellsOf 27 = 5 := by kernel_rfl
    have each : ∀ i, i < len → ∃ v : FV, (∀ (j : Nat) (u : Value), (enF v)[j]? = some u → W.cell? (a.add (i * 5 + j)) = some u) ∧ (FIn) W (fun _ => True) v := fun i hi => by
      obtain ⟨cs', h1, h2⟩ := hcell i (by omega)
      rw [hc] at h1
      obtain ⟨_, hlen, hcc⟩ := World.cells?_some h1
      match cs', hlen, hcc, h2 with
      | [e0, e1, e2, e3, e4], _, hcc, h2 =>
        obtain ⟨v, hv, k⟩ := info_cells h2 (fun x hx => hw x (by
          first
            | exact .inr (.inl (mem_weightsAll hx (List.mem_map.2 ⟨i, List.mem_range.2 hi, rfl⟩)))
            | exact .inr (mem_weightsAll hx (List.mem_map.2 ⟨i, List.mem_range.2 hi, rfl⟩))))
        refine ⟨v, fun j u hu => ?_, k⟩
        rw [← hv] at hu
        have hj := (List.getElem?_eq_some_iff.1 hu).1
        have q := hcc j (by simpa using hj)
        rw [add_add] at q
        rw [q, ← hu]
    obtain ⟨L, hL⟩ := lis_made a len m hl (by omega) (by omega) (fun v => by simp [enF]) each
    exact ⟨some a, len, m, L, rfl, hL, by omega⟩

theorem itv_cells {fuel : Nat} {e0 e1 e2 e3 e4 e5 : Value} (hf : DataW.trod enc Try.prog W base (fun _ => true) held fuel 24 [e0, e1, e2, e3, e4, e5] = some (d, p)) (hw : ∀ x ∈ d.weights Try.prog 24, x ≤ reachBytes) :
    ∃ v : JV, [e0, e1, e2, e3, e4, e5] = enJ v ∧ JAt W (fun _ => True) v := by
  have c0 : Try.prog.cellsOf 3 = 1 := by kernel_rfl
  have c1 : Try.prog.cellsOf 22 = 1 := by kernel_rfl
  obtain ⟨xs, n, _, hx, _, hxl, hF⟩ := DataW.trod_struct Try.underlying24 hf
  simp only [Prod.mk.injEq] at hx
  obtain ⟨hd, _⟩ := hx
  subst hd
  obtain ⟨x0, x1, x2, x3, x4, x5, rfl⟩ : ∃ x0 x1 x2 x3 x4 x5, xs = [x0, x1, x2, x3, x4, x5] := by
    match xs, hxl with
    | [x0, x1, x2, x3, x4, x5], _ => exact ⟨x0, x1, x2, x3, x4, x5, rfl⟩
  have f0' : DataW.trod enc Try.prog W base (fun _ => true) held n 3 (([e0, e1, e2, e3, e4, e5].drop 0).take (Try.prog.cellsOf 3)) = some x0 := hF 0 _ rfl
  rw [c0] at f0'
  have f0 : DataW.trod enc Try.prog W base (fun _ => true) held n 3 [e0] = some (x0.1, x0.2) := f0'
  have f1' : DataW.trod enc Try.prog W base (fun _ => true) held n 3 (([e0, e1, e2, e3, e4, e5].drop 1).take (Try.prog.cellsOf 3)) = some x1 := hF 1 _ rfl
  rw [c0] at f1'
  have f1 : DataW.trod enc Try.prog W base (fun _ => true) held n 3 [e1] = some (x1.1, x1.2) := f1'
  have f2' : DataW.trod enc Try.prog W base (fun _ => true) held n 22 (([e0, e1, e2, e3, e4, e5].drop 2).take (Try.prog.cellsOf 22)) = some x2 := hF 2 _ rfl
  rw [c1] at f2'
  have f2 : DataW.trod enc Try.prog W base (fun _ => true) held n 22 [e2] = some (x2.1, x2.2) := f2'
  have f3' : DataW.trod enc Try.prog W base (fun _ => true) held n 22 (([e0, e1, e2, e3, e4, e5].drop 3).take (Try.prog.cellsOf 22)) = some x3 := hF 3 _ rfl
  rw [c1] at f3'
  have f3 : DataW.trod enc Try.prog W base (fun _ => true) held n 22 [e3] = some (x3.1, x3.2) := f3'
  have f4' : DataW.trod enc Try.prog W base (fun _ => true) held n 22 (([e0, e1, e2, e3, e4, e5].drop 4).take (Try.prog.cellsOf 22)) = some x4 := hF 4 _ rfl
  rw [c1] at f4'
  have f4 : DataW.trod enc Try.prog W base (fun _ => true) held n 22 [e4] = some (x4.1, x4.2) := f4'
  have f5' : DataW.trod enc Try.prog W base (fun _ => true) held n 3 (([e0, e1, e2, e3, e4, e5].drop 5).take (Try.prog.cellsOf 3)) = some x5 := hF 5 _ rfl
  rw [c0] at f5'
  have f5 : DataW.trod enc Try.prog W base (fun _ => true) held n 3 [e5] = some (x5.1, x5.2) := f5'
  obtain ⟨v0, q0, _, r0⟩ := DataW.trod_int Try.underlying3 f0
  simp at q0
  subst q0
  obtain ⟨v1, q1, _, r1⟩ := DataW.trod_int Try.underlying3 f1
  simp at q1
  subst q1
  obtain ⟨v5, q5, _, r5⟩ := DataW.trod_int Try.underlying3 f5
  simp at q5
  subst q5
  simp only [DataW.weights, Try.underlying24] at hw
  obtain ⟨a2, l2, k2, L2, g2, w2, m2⟩ := nums_in f2 (fun x hx => hw x (DataW.weights_mem_each (j := 2) (t := 22) rfl rfl x hx))
  simp at g2
  subst g2
  obtain ⟨a3, l3, k3, L3, g3, w3, m3⟩ := nums_in f3 (fun x hx => hw x (DataW.weights_mem_each (j := 3) (t := 22) rfl rfl x hx))
  simp at g3
  subst g3
  obtain ⟨a4, l4, k4, L4, g4, w4, m4⟩ := nums_in f4 (fun x hx => hw x (DataW.weights_mem_each (j := 4) (t := 22) rfl rfl x hx))
  simp at g4
  subst g4
  exact ⟨⟨v0, v1, a2, l2, k2, L2, a3, l3, k3, L3, a4, l4, k4, L4, v5⟩, rfl, w2, w3, w4⟩

theorem itvs_in {fuel : Nat} {cs : List Value} (hf : DataW.trod enc Try.prog W base (fun _ => true) held fuel 32 cs = some (d, p)) (hw : ∀ x ∈ d.weights Try.prog 32, x ≤ reachBytes) :
    ∃ a len cap L, cs = [.slice a len cap] ∧ Lis enJ 6 (JAt) W (fun _ => True) a len cap L ∧ len * 96 ≤ 140737488351232 := by
  rcases open_slice Try.underlying32 hf with ⟨h1, h2⟩ | ⟨a, len, cap, m, n, DD, Pl, rfl, hb, hl, hm, hmm, hx, hcell⟩
  · exact ⟨none, 0, 0, [], h1, Lis.empty W _, by omega⟩
  · simp only [if_true] at hmm
    subst hmm
    simp only [Prod.mk.injEq] at hx
    obtain ⟨rfl, _⟩ := hx
    have hbt : Try.prog.bytesOf 24 = 96 := by kernel_rfl
    simp only [DataW.weights, Try.underlying32, List.mem_cons, List.mem_append, hbt] at hw
    have hw0 := hw _ (.inl rfl)
    simp only [List.length_map, List.length_range, reachBytes] at hw0
    haveI : Inhabited JV := ⟨⟨0, 0, none, 0, 0, [], none, 0, 0, [], none, 0, 0, [], 0⟩⟩
    have hc : Try.prog.cellsOf 24 = 6 := by kernel_rfl
    have each : ∀ i, i < len → ∃ v : JV, (∀ (j : Nat) (u : Value), (enJ v)[j]? = some u → W.cell? (a.add (i * 6 + j)) = some u) ∧ (JAt) W (fun _ => True) v := fun i hi => by
      obtain ⟨cs', h1, h2⟩ := hcell i (by omega)
      rw [hc] at h1
      obtain ⟨_, hlen, hcc⟩ := World.cells?_some h1
      match cs', hlen, hcc, h2 with
      | [e0, e1, e2, e3, e4, e5], _, hcc, h2 =>
        obtain ⟨v, hv, k⟩ := itv_cells h2 (fun x hx => hw x (by
          first
            | exact .inr (.inl (mem_weightsAll hx (List.mem_map.2 ⟨i, List.mem_range.2 hi, rfl⟩)))
            | exact .inr (mem_weightsAll hx (List.mem_map.2 ⟨i, List.mem_range.2 hi, rfl⟩))))
        refine ⟨v, fun j u hu => ?_, k⟩
        rw [← hv] at hu
        have hj := (List.getElem?_eq_some_iff.1 hu).1
        have q := hcc j (by simpa using hj)
        rw [add_add] at q
        rw [q, ← hu]
    obtain ⟨L, hL⟩ := lis_made a len m hl (by omega) (by omega) (fun v => by simp [enJ]) each
    exact ⟨some a, len, m, L, rfl, hL, by omega⟩

theorem num_cellsU {fuel : Nat} {e0 : Value} (hf : DataW.trod enc Try.prog W base (fun _ => true) held fuel 3 [e0] = some (d, p)) (hw : Rows.uptoBulk d ≤ 1048576) : ∃ v : Int, [e0] = enN v ∧ NAt W (fun _ => True) v := by
  obtain ⟨v0, q0, _⟩ := DataW.trod_int Try.underlying3 hf
  simp at q0
  subst q0
  exact ⟨v0, rfl, trivial⟩

theorem nums_inU {fuel : Nat} {cs : List Value} (hf : DataW.trod enc Try.prog W base (fun _ => true) held fuel 22 cs = some (d, p)) (hw : Rows.uptoBulk d ≤ 1048576) :
    ∃ a len cap L, cs = [.slice a len cap] ∧ Lis enN 1 (NAt) W (fun _ => True) a len cap L ∧ len ≤ 1048576 := by
  rcases open_slice Try.underlying22 hf with ⟨h1, h2⟩ | ⟨a, len, cap, m, n, DD, Pl, rfl, hb, hl, hm, hmm, hx, hcell⟩
  · exact ⟨none, 0, 0, [], h1, Lis.empty W _, by omega⟩
  · simp only [if_true] at hmm
    subst hmm
    simp only [Prod.mk.injEq] at hx
    obtain ⟨rfl, _⟩ := hx
    simp only [Rows.uptoBulk] at hw
    have hbk := bulk_each (H := H) ((List.range len).map DD)
    simp only [List.length_map, List.length_range] at hbk
    haveI : Inhabited Int := ⟨0⟩
    have hc : Try.prog.cellsOf 3 = 1 := by kernel_rfl
    have each : ∀ i, i < len → ∃ v : Int, (∀ (j : Nat) (u : Value), (enN v)[j]? = some u → W.cell? (a.add (i * 1 + j)) = some u) ∧ (NAt) W (fun _ => True) v := fun i hi => by
      obtain ⟨cs', h1, h2⟩ := hcell i (by omega)
      rw [hc] at h1
      obtain ⟨_, hlen, hcc⟩ := World.cells?_some h1
      have hmem := bulk_mem (H := H) (d := DD i) (l := (List.range len).map DD) (List.mem_map.2 ⟨i, List.mem_range.2 hi, rfl⟩)
      match cs', hlen, hcc, h2 with
      | [e0], _, hcc, h2 =>
        obtain ⟨v, hv, k⟩ := num_cellsU h2 (by omega)
        refine ⟨v, fun j u hu => ?_, k⟩
        rw [← hv] at hu
        have hj := (List.getElem?_eq_some_iff.1 hu).1
        have q := hcc j (by simpa using hj)
        rw [add_add] at q
        rw [q, ← hu]
    obtain ⟨L, hL⟩ := lis_made a len m hl (by omega) (by omega) (fun v => by simp [enN]) each
    exact ⟨some a, len, m, L, rfl, hL, by omega⟩

theorem staged_cellsU {fuel : Nat} {e0 e1 : Value} (hf : DataW.trod enc Try.prog W base (fun _ => true) held fuel 48 [e0, e1] = some (d, p)) (hw : Rows.uptoBulk d ≤ 1048576) :
    ∃ v : TV, [e0, e1] = enT v ∧ TAt W (fun _ => True) v := by
  have c0 : Try.prog.cellsOf 3 = 1 := by kernel_rfl
  obtain ⟨xs, n, _, hx, _, hxl, hF⟩ := DataW.trod_struct Try.underlying48 hf
  simp only [Prod.mk.injEq] at hx
  obtain ⟨hd, _⟩ := hx
  subst hd
  obtain ⟨x0, x1, rfl⟩ : ∃ x0 x1, xs = [x0, x1] := by
    match xs, hxl with
    | [x0, x1], _ => exact ⟨x0, x1, rfl⟩
  have f0' : DataW.trod enc Try.prog W base (fun _ => true) held n 3 (([e0, e1].drop 0).take (Try.prog.cellsOf 3)) = some x0 := hF 0 _ rfl
  rw [c0] at f0'
  have f0 : DataW.trod enc Try.prog W base (fun _ => true) held n 3 [e0] = some (x0.1, x0.2) := f0'
  have f1' : DataW.trod enc Try.prog W base (fun _ => true) held n 3 (([e0, e1].drop 1).take (Try.prog.cellsOf 3)) = some x1 := hF 1 _ rfl
  rw [c0] at f1'
  have f1 : DataW.trod enc Try.prog W base (fun _ => true) held n 3 [e1] = some (x1.1, x1.2) := f1'
  obtain ⟨v0, q0, _, r0⟩ := DataW.trod_int Try.underlying3 f0
  simp at q0
  subst q0
  obtain ⟨v1, q1, _, r1⟩ := DataW.trod_int Try.underlying3 f1
  simp at q1
  subst q1
  simp only [Rows.uptoBulk, List.map_cons, List.map_nil, Rows.uptoBulkAll] at hw
  exact ⟨⟨v0, v1⟩, rfl, trivial⟩

theorem stageds_inU {fuel : Nat} {cs : List Value} (hf : DataW.trod enc Try.prog W base (fun _ => true) held fuel 25 cs = some (d, p)) (hw : Rows.uptoBulk d ≤ 1048576) :
    ∃ a len cap L, cs = [.slice a len cap] ∧ Lis enT 2 (TAt) W (fun _ => True) a len cap L ∧ len ≤ 1048576 := by
  rcases open_slice Try.underlying25 hf with ⟨h1, h2⟩ | ⟨a, len, cap, m, n, DD, Pl, rfl, hb, hl, hm, hmm, hx, hcell⟩
  · exact ⟨none, 0, 0, [], h1, Lis.empty W _, by omega⟩
  · simp only [if_true] at hmm
    subst hmm
    simp only [Prod.mk.injEq] at hx
    obtain ⟨rfl, _⟩ := hx
    simp only [Rows.uptoBulk] at hw
    have hbk := bulk_each (H := H) ((List.range len).map DD)
    simp only [List.length_map, List.length_range] at hbk
    haveI : Inhabited TV := ⟨⟨0, 0⟩⟩
    have hc : Try.prog.cellsOf 48 = 2 := by kernel_rfl
    have each : ∀ i, i < len → ∃ v : TV, (∀ (j : Nat) (u : Value), (enT v)[j]? = some u → W.cell? (a.add (i * 2 + j)) = some u) ∧ (TAt) W (fun _ => True) v := fun i hi => by
      obtain ⟨cs', h1, h2⟩ := hcell i (by omega)
      rw [hc] at h1
      obtain ⟨_, hlen, hcc⟩ := World.cells?_some h1
      have hmem := bulk_mem (H := H) (d := DD i) (l := (List.range len).map DD) (List.mem_map.2 ⟨i, List.mem_range.2 hi, rfl⟩)
      match cs', hlen, hcc, h2 with
      | [e0, e1], _, hcc, h2 =>
        obtain ⟨v, hv, k⟩ := staged_cellsU h2 (by omega)
        refine ⟨v, fun j u hu => ?_, k⟩
        rw [← hv] at hu
        have hj := (List.getElem?_eq_some_iff.1 hu).1
        have q := hcc j (by simpa using hj)
        rw [add_add] at q
        rw [q, ← hu]
    obtain ⟨L, hL⟩ := lis_made a len m hl (by omega) (by omega) (fun v => by simp [enT]) each
    exact ⟨some a, len, m, L, rfl, hL, by omega⟩

theorem info_cellsU {fuel : Nat} {e0 e1 e2 e3 e4 : Value} (hf : DataW.trod enc Try.prog W base (fun _ => true) held fuel 27 [e0, e1, e2, e3, e4] = some (d, p)) (hw : Rows.uptoBulk d ≤ 1048576) :
    ∃ v : FV, [e0, e1, e2, e3, e4] = enF v ∧ FIn W (fun _ => True) v := by
  have c0 : Try.prog.cellsOf 3 = 1 := by kernel_rfl
  have c1 : Try.prog.cellsOf 25 = 1 := by kernel_rfl
  obtain ⟨xs, n, _, hx, _, hxl, hF⟩ := DataW.trod_struct Try.underlying27 hf
  simp only [Prod.mk.injEq] at hx
  obtain ⟨hd, _⟩ := hx
  subst hd
  obtain ⟨x0, x1, x2, x3, x4, rfl⟩ : ∃ x0 x1 x2 x3 x4, xs = [x0, x1, x2, x3, x4] := by
    match xs, hxl with
    | [x0, x1, x2, x3, x4], _ => exact ⟨x0, x1, x2, x3, x4, rfl⟩
  have f0' : DataW.trod enc Try.prog W base (fun _ => true) held n 3 (([e0, e1, e2, e3, e4].drop 0).take (Try.prog.cellsOf 3)) = some x0 := hF 0 _ rfl
  rw [c0] at f0'
  have f0 : DataW.trod enc Try.prog W base (fun _ => true) held n 3 [e0] = some (x0.1, x0.2) := f0'
  have f1' : DataW.trod enc Try.prog W base (fun _ => true) held n 3 (([e0, e1, e2, e3, e4].drop 1).take (Try.prog.cellsOf 3)) = some x1 := hF 1 _ rfl
  rw [c0] at f1'
  have f1 : DataW.trod enc Try.prog W base (fun _ => true) held n 3 [e1] = some (x1.1, x1.2) := f1'
  have f2' : DataW.trod enc Try.prog W base (fun _ => true) held n 3 (([e0, e1, e2, e3, e4].drop 2).take (Try.prog.cellsOf 3)) = some x2 := hF 2 _ rfl
  rw [c0] at f2'
  have f2 : DataW.trod enc Try.prog W base (fun _ => true) held n 3 [e2] = some (x2.1, x2.2) := f2'
  have f3' : DataW.trod enc Try.prog W base (fun _ => true) held n 3 (([e0, e1, e2, e3, e4].drop 3).take (Try.prog.cellsOf 3)) = some x3 := hF 3 _ rfl
  rw [c0] at f3'
  have f3 : DataW.trod enc Try.prog W base (fun _ => true) held n 3 [e3] = some (x3.1, x3.2) := f3'
  have f4' : DataW.trod enc Try.prog W base (fun _ => true) held n 25 (([e0, e1, e2, e3, e4].drop 4).take (Try.prog.cellsOf 25)) = some x4 := hF 4 _ rfl
  rw [c1] at f4'
  have f4 : DataW.trod enc Try.prog W base (fun _ => true) held n 25 [e4] = some (x4.1, x4.2) := f4'
  obtain ⟨v0, q0, _, r0⟩ := DataW.trod_int Try.underlying3 f0
  simp at q0
  subst q0
  obtain ⟨v1, q1, _, r1⟩ := DataW.trod_int Try.underlying3 f1
  simp at q1
  subst q1
  obtain ⟨v2, q2, _, r2⟩ := DataW.trod_int Try.underlying3 f2
  simp at q2
  subst q2
  obtain ⟨v3, q3, _, r3⟩ := DataW.trod_int Try.underlying3 f3
  simp at q3
  subst q3
  simp only [Rows.uptoBulk, List.map_cons, List.map_nil, Rows.uptoBulkAll] at hw
  obtain ⟨a4, l4, k4, L4, g4, w4, m4⟩ := stageds_inU f4 (by omega)
  simp at g4
  subst g4
  exact ⟨⟨v0, v1, v2, v3, a4, l4, k4, L4⟩, rfl, w4, wf_of r0⟩

theorem infos_inU {fuel : Nat} {cs : List Value} (hf : DataW.trod enc Try.prog W base (fun _ => true) held fuel 33 cs = some (d, p)) (hw : Rows.uptoBulk d ≤ 1048576) :
    ∃ a len cap L, cs = [.slice a len cap] ∧ Lis enF 5 (FIn) W (fun _ => True) a len cap L ∧ len ≤ 1048576 := by
  rcases open_slice Try.underlying33 hf with ⟨h1, h2⟩ | ⟨a, len, cap, m, n, DD, Pl, rfl, hb, hl, hm, hmm, hx, hcell⟩
  · exact ⟨none, 0, 0, [], h1, Lis.empty W _, by omega⟩
  · simp only [if_true] at hmm
    subst hmm
    simp only [Prod.mk.injEq] at hx
    obtain ⟨rfl, _⟩ := hx
    simp only [Rows.uptoBulk] at hw
    have hbk := bulk_each (H := H) ((List.range len).map DD)
    simp only [List.length_map, List.length_range] at hbk
    haveI : Inhabited FV := ⟨⟨0, 0, 0, 0, none, 0, 0, []⟩⟩
    have hc : Try.prog.cellsOf 27 = 5 := by kernel_rfl
    have each : ∀ i, i < len → ∃ v : FV, (∀ (j : Nat) (u : Value), (enF v)[j]? = some u → W.cell? (a.add (i * 5 + j)) = some u) ∧ (FIn) W (fun _ => True) v := fun i hi => by
      obtain ⟨cs', h1, h2⟩ := hcell i (by omega)
      rw [hc] at h1
      obtain ⟨_, hlen, hcc⟩ := World.cells?_some h1
      have hmem := bulk_mem (H := H) (d := DD i) (l := (List.range len).map DD) (List.mem_map.2 ⟨i, List.mem_range.2 hi, rfl⟩)
      match cs', hlen, hcc, h2 with
      | [e0, e1, e2, e3, e4], _, hcc, h2 =>
        obtain ⟨v, hv, k⟩ := info_cellsU h2 (by omega)
        refine ⟨v, fun j u hu => ?_, k⟩
        rw [← hv] at hu
        have hj := (List.getElem?_eq_some_iff.1 hu).1
        have q := hcc j (by simpa using hj)
        rw [add_add] at q
        rw [q, ← hu]
    obtain ⟨L, hL⟩ := lis_made a len m hl (by omega) (by omega) (fun v => by simp [enF]) each
    exact ⟨some a, len, m, L, rfl, hL, by omega⟩

theorem itv_cellsU {fuel : Nat} {e0 e1 e2 e3 e4 e5 : Value} (hf : DataW.trod enc Try.prog W base (fun _ => true) held fuel 24 [e0, e1, e2, e3, e4, e5] = some (d, p)) (hw : Rows.uptoBulk d ≤ 1048576) :
    ∃ v : JV, [e0, e1, e2, e3, e4, e5] = enJ v ∧ JAt W (fun _ => True) v := by
  have c0 : Try.prog.cellsOf 3 = 1 := by kernel_rfl
  have c1 : Try.prog.cellsOf 22 = 1 := by kernel_rfl
  obtain ⟨xs, n, _, hx, _, hxl, hF⟩ := DataW.trod_struct Try.underlying24 hf
  simp only [Prod.mk.injEq] at hx
  obtain ⟨hd, _⟩ := hx
  subst hd
  obtain ⟨x0, x1, x2, x3, x4, x5, rfl⟩ : ∃ x0 x1 x2 x3 x4 x5, xs = [x0, x1, x2, x3, x4, x5] := by
    match xs, hxl with
    | [x0, x1, x2, x3, x4, x5], _ => exact ⟨x0, x1, x2, x3, x4, x5, rfl⟩
  have f0' : DataW.trod enc Try.prog W base (fun _ => true) held n 3 (([e0, e1, e2, e3, e4, e5].drop 0).take (Try.prog.cellsOf 3)) = some x0 := hF 0 _ rfl
  rw [c0] at f0'
  have f0 : DataW.trod enc Try.prog W base (fun _ => true) held n 3 [e0] = some (x0.1, x0.2) := f0'
  have f1' : DataW.trod enc Try.prog W base (fun _ => true) held n 3 (([e0, e1, e2, e3, e4, e5].drop 1).take (Try.prog.cellsOf 3)) = some x1 := hF 1 _ rfl
  rw [c0] at f1'
  have f1 : DataW.trod enc Try.prog W base (fun _ => true) held n 3 [e1] = some (x1.1, x1.2) := f1'
  have f2' : DataW.trod enc Try.prog W base (fun _ => true) held n 22 (([e0, e1, e2, e3, e4, e5].drop 2).take (Try.prog.cellsOf 22)) = some x2 := hF 2 _ rfl
  rw [c1] at f2'
  have f2 : DataW.trod enc Try.prog W base (fun _ => true) held n 22 [e2] = some (x2.1, x2.2) := f2'
  have f3' : DataW.trod enc Try.prog W base (fun _ => true) held n 22 (([e0, e1, e2, e3, e4, e5].drop 3).take (Try.prog.cellsOf 22)) = some x3 := hF 3 _ rfl
  rw [c1] at f3'
  have f3 : DataW.trod enc Try.prog W base (fun _ => true) held n 22 [e3] = some (x3.1, x3.2) := f3'
  have f4' : DataW.trod enc Try.prog W base (fun _ => true) held n 22 (([e0, e1, e2, e3, e4, e5].drop 4).take (Try.prog.cellsOf 22)) = some x4 := hF 4 _ rfl
  rw [c1] at f4'
  have f4 : DataW.trod enc Try.prog W base (fun _ => true) held n 22 [e4] = some (x4.1, x4.2) := f4'
  have f5' : DataW.trod enc Try.prog W base (fun _ => true) held n 3 (([e0, e1, e2, e3, e4, e5].drop 5).take (Try.prog.cellsOf 3)) = some x5 := hF 5 _ rfl
  rw [c0] at f5'
  have f5 : DataW.trod enc Try.prog W base (fun _ => true) held n 3 [e5] = some (x5.1, x5.2) := f5'
  obtain ⟨v0, q0, _, r0⟩ := DataW.trod_int Try.underlying3 f0
  simp at q0
  subst q0
  obtain ⟨v1, q1, _, r1⟩ := DataW.trod_int Try.underlying3 f1
  simp at q1
  subst q1
  obtain ⟨v5, q5, _, r5⟩ := DataW.trod_int Try.underlying3 f5
  simp at q5
  subst q5
  simp only [Rows.uptoBulk, List.map_cons, List.map_nil, Rows.uptoBulkAll] at hw
  obtain ⟨a2, l2, k2, L2, g2, w2, m2⟩ := nums_inU f2 (by omega)
  simp at g2
  subst g2
  obtain ⟨a3, l3, k3, L3, g3, w3, m3⟩ := nums_inU f3 (by omega)
  simp at g3
  subst g3
  obtain ⟨a4, l4, k4, L4, g4, w4, m4⟩ := nums_inU f4 (by omega)
  simp at g4
  subst g4
  exact ⟨⟨v0, v1, a2, l2, k2, L2, a3, l3, k3, L3, a4, l4, k4, L4, v5⟩, rfl, w2, w3, w4⟩

theorem itvs_inU {fuel : Nat} {cs : List Value} (hf : DataW.trod enc Try.prog W base (fun _ => true) held fuel 32 cs = some (d, p)) (hw : Rows.uptoBulk d ≤ 1048576) :
    ∃ a len cap L, cs = [.slice a len cap] ∧ Lis enJ 6 (JAt) W (fun _ => True) a len cap L ∧ len ≤ 1048576 := by
  rcases open_slice Try.underlying32 hf with ⟨h1, h2⟩ | ⟨a, len, cap, m, n, DD, Pl, rfl, hb, hl, hm, hmm, hx, hcell⟩
  · exact ⟨none, 0, 0, [], h1, Lis.empty W _, by omega⟩
  · simp only [if_true] at hmm
    subst hmm
    simp only [Prod.mk.injEq] at hx
    obtain ⟨rfl, _⟩ := hx
    simp only [Rows.uptoBulk] at hw
    have hbk := bulk_each (H := H) ((List.range len).map DD)
    simp only [List.length_map, List.length_range] at hbk
    haveI : Inhabited JV := ⟨⟨0, 0, none, 0, 0, [], none, 0, 0, [], none, 0, 0, [], 0⟩⟩
    have hc : Try.prog.cellsOf 24 = 6 := by kernel_rfl
    have each : ∀ i, i < len → ∃ v : JV, (∀ (j : Nat) (u : Value), (enJ v)[j]? = some u → W.cell? (a.add (i * 6 + j)) = some u) ∧ (JAt) W (fun _ => True) v := fun i hi => by
      obtain ⟨cs', h1, h2⟩ := hcell i (by omega)
      rw [hc] at h1
      obtain ⟨_, hlen, hcc⟩ := World.cells?_some h1
      have hmem := bulk_mem (H := H) (d := DD i) (l := (List.range len).map DD) (List.mem_map.2 ⟨i, List.mem_range.2 hi, rfl⟩)
      match cs', hlen, hcc, h2 with
      | [e0, e1, e2, e3, e4, e5], _, hcc, h2 =>
        obtain ⟨v, hv, k⟩ := itv_cellsU h2 (by omega)
        refine ⟨v, fun j u hu => ?_, k⟩
        rw [← hv] at hu
        have hj := (List.getElem?_eq_some_iff.1 hu).1
        have q := hcc j (by simpa using hj)
        rw [add_add] at q
        rw [q, ← hu]
    obtain ⟨L, hL⟩ := lis_made a len m hl (by omega) (by omega) (fun v => by simp [enJ]) each
    exact ⟨some a, len, m, L, rfl, hL, by omega⟩

theorem itv_arg {v : Value} (hv : ∃ cs, v = .agg cs ∧ cs.size = Try.prog.cellsOf 24) (h : DataW.Trod enc Try.prog W base (fun _ => true) held 24 v d p) (hw : ∀ x ∈ d.weights Try.prog 24, x ≤ reachBytes) : ∃ V : JV, v = vJ V ∧ JAt W (fun _ => True) V := by
  obtain ⟨cs, rfl, hcs⟩ := hv
  obtain ⟨fuel, hf⟩ := h
  rw [show Try.prog.cellsOf 24 = 6 by kernel_rfl] at hcs
  obtain ⟨e0, e1, e2, e3, e4, e5, rfl⟩ : ∃ e0 e1 e2 e3 e4 e5, cs = #[e0, e1, e2, e3, e4, e5] := by
    obtain ⟨l⟩ := cs
    match l, hcs with
    | [e0, e1, e2, e3, e4, e5], _ => exact ⟨e0, e1, e2, e3, e4, e5, rfl⟩
  change DataW.trod enc Try.prog W base (fun _ => true) held fuel 24 [e0, e1, e2, e3, e4, e5] = some (d, p) at hf
  obtain ⟨V, hV, hin⟩ := itv_cells hf hw
  refine ⟨V, ?_, hin⟩
  have e1 : (#[e0, e1, e2, e3, e4, e5] : Array Value) = (enJ V).toArray := by rw [← hV]
  rw [e1]
  rfl

theorem info_arg {v : Value} (hv : ∃ cs, v = .agg cs ∧ cs.size = Try.prog.cellsOf 27) (h : DataW.Trod enc Try.prog W base (fun _ => true) held 27 v d p) (hw : ∀ x ∈ d.weights Try.prog 27, x ≤ reachBytes) : ∃ V : FV, v = vF V ∧ FIn W (fun _ => True) V := by
  obtain ⟨cs, rfl, hcs⟩ := hv
  obtain ⟨fuel, hf⟩ := h
  rw [show Try.prog.cellsOf 27 = 5 by kernel_rfl] at hcs
  obtain ⟨e0, e1, e2, e3, e4, rfl⟩ : ∃ e0 e1 e2 e3 e4, cs = #[e0, e1, e2, e3, e4] := by
    obtain ⟨l⟩ := cs
    match l, hcs with
    | [e0, e1, e2, e3, e4], _ => exact ⟨e0, e1, e2, e3, e4, rfl⟩
  change DataW.trod enc Try.prog W base (fun _ => true) held fuel 27 [e0, e1, e2, e3, e4] = some (d, p) at hf
  obtain ⟨V, hV, hin⟩ := info_cells hf hw
  refine ⟨V, ?_, hin⟩
  have e1 : (#[e0, e1, e2, e3, e4] : Array Value) = (enF V).toArray := by rw [← hV]
  rw [e1]
  rfl

theorem int_one : Try.prog.cellsOf 3 = 1 := by kernel_rfl
theorem a_three : Try.prog.cellsOf 41 = 3 := by kernel_rfl
theorem three_in {v : Value} (hv : ∃ cs, v = .agg cs ∧ cs.size = Try.prog.cellsOf 41) (h : DataW.Trod enc Try.prog W base (fun _ => true) held 41 v d p) :
    ∃ V U Y : Int, v = .agg #[.int .i64 V, .int .i64 U, .int .i64 Y] := by
  obtain ⟨cs, rfl, hcs⟩ := hv
  obtain ⟨fuel, hf⟩ := h
  rw [a_three] at hcs
  obtain ⟨e0, e1, e2, rfl⟩ : ∃ e0 e1 e2, cs = #[e0, e1, e2] := by
    obtain ⟨l⟩ := cs
    match l, hcs with
    | [e0, e1, e2], _ => exact ⟨e0, e1, e2, rfl⟩
  change DataW.trod enc Try.prog W base (fun _ => true) held fuel 41 [e0, e1, e2] = some (d, p) at hf
  obtain ⟨xs, n, _, hx, _, hxl, hF⟩ := DataW.trod_array Try.underlying41 hf
  obtain ⟨x0, x1, x2, rfl⟩ : ∃ x0 x1 x2, xs = [x0, x1, x2] := by
    match xs, hxl with
    | [x0, x1, x2], _ => exact ⟨x0, x1, x2, rfl⟩
  have f0' := hF 0 (by omega)
  have f1' := hF 1 (by omega)
  have f2' := hF 2 (by omega)
  rw [int_one] at f0' f1' f2'
  have f0 : DataW.trod enc Try.prog W base (fun _ => true) held n 3 [e0] = some (x0.1, x0.2) := f0'
  have f1 : DataW.trod enc Try.prog W base (fun _ => true) held n 3 [e1] = some (x1.1, x1.2) := f1'
  have f2 : DataW.trod enc Try.prog W base (fun _ => true) held n 3 [e2] = some (x2.1, x2.2) := f2'
  obtain ⟨v0, q0, _⟩ := DataW.trod_int Try.underlying3 f0
  obtain ⟨v1, q1, _⟩ := DataW.trod_int Try.underlying3 f1
  obtain ⟨v2, q2, _⟩ := DataW.trod_int Try.underlying3 f2
  simp at q0 q1 q2
  subst q0 q1 q2
  exact ⟨v0, v1, v2, rfl⟩

end

end Go.Proofs.Ytgcjecmgjncclaa.Pe
