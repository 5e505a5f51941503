/-
  What a law is told of an Item, and of a list of Items, that came in: with their reach, and by the bulk's bound.
  Conditions: none.
-/
import Derived.Test.YtjodeceaogngfaaByUpto
import Derived.Test.YtjodeceaogngfaaWiMem
import Derived.Deep.Slices
namespace Go.Proofs.Ytjodeceaogngfaa
open Go.RowKit Go.ChangeShapes Go.WideShapes Go.Deep Wi By
set_option linter.unusedVariables false
set_option linter.unusedSimpArgs false
set_option maxRecDepth 100000

theorem mem_weightsAll {H : Type} {P : Program} {e : TypeId} {d : DataW H} {n : Nat} (hn : n ∈ d.weights P e) : ∀ {ds : List (DataW H)}, d ∈ ds → n ∈ DataW.weightsAll P e ds
  | d0 :: ds, h => by
    simp only [DataW.weightsAll, List.mem_append]
    rcases List.mem_cons.1 h with h | h
    · subst h; exact .inl hn
    · exact .inr (mem_weightsAll hn h)

theorem bulk_mem {H : Type} {d : DataW H} : ∀ {ds : List (DataW H)}, d ∈ ds → Rows.uptoBulk d ≤ Rows.uptoBulkAll ds
  | d0 :: ds, h => by
    simp only [Rows.uptoBulkAll]
    rcases List.mem_cons.1 h with h | h
    · subst h; omega
    · have := bulk_mem h
      omega

structure ItemIn (w : World) (D N : Int) (x : Option Addr) (n c : Nat) (f : Nat → Nat) (M : Int) : Prop where
  do_ : (Lit.int .i64 D).wf = true
  n_ : (Lit.int .u64 N).wf = true
  bytes : BytesIn w x n c f
  most : (Lit.int .i64 M).wf = true

structure ItemsIn (w : World) (a : Option Addr) (len cap : Nat) (D N : Nat → Int) (X : Nat → Option Addr) (L C : Nat → Nat) (F : Nat → Nat → Nat) (M : Nat → Int) : Prop where
  le : len ≤ cap
  nil : a = none → len = 0 ∧ cap = 0
  small : len ≤ 140737488351232
  row : len = 0 ∨ ∃ b o, a = some ⟨b, o, none⟩ ∧ b < w.heap.size ∧ ∀ i, i < len → w.cell? ⟨b, o + i * 4, none⟩ = some (.int .i64 (D i)) ∧ w.cell? ⟨b, o + i * 4 + 1, none⟩ = some (.int .u64 (N i)) ∧ w.cell? ⟨b, o + i * 4 + 2, none⟩ = some (.slice (X i) (L i) (C i)) ∧ w.cell? ⟨b, o + i * 4 + 3, none⟩ = some (.int .i64 (M i))
  item : ∀ i, i < len → ItemIn w (D i) (N i) (X i) (L i) (C i) (F i) (M i)

section
variable {H : Type} {enc : TypeId × Value → H} {W : World} {base : Nat} {held : Bool} {d : DataW H} {p : List MemPlace}

theorem item_open {fuel : Nat} {e0 e1 e2 e3 : Value} (hf : DataW.trod enc Try.prog W base (fun _ => true) held fuel 28 [e0, e1, e2, e3] = some (d, p)) :
    ∃ (D N M : Int) (x0 x1 x2 x3 : DataW H × List MemPlace) (n : Nat), e0 = .int .i64 D ∧ e1 = .int .u64 N ∧ e3 = .int .i64 M ∧ (Lit.int .i64 D).wf = true ∧ (Lit.int .u64 N).wf = true ∧ (Lit.int .i64 M).wf = true ∧
      d = .agg [x0.1, x1.1, x2.1, x3.1] ∧ DataW.trod enc Try.prog W base (fun _ => true) held n 22 [e2] = some (x2.1, x2.2) := by
  have c3 : Try.prog.cellsOf 3 = 1 := by kernel_rfl
  have c26 : Try.prog.cellsOf 26 = 1 := by kernel_rfl
  have c22 : Try.prog.cellsOf 22 = 1 := by kernel_rfl
  obtain ⟨xs, n, _, hx, _, hxl, hF⟩ := DataW.trod_struct Try.underlying28 hf
  simp only [Prod.mk.injEq] at hx
  obtain ⟨hd, _⟩ := hx
  subst hd
  obtain ⟨x0, x1, x2, x3, rfl⟩ : ∃ x0 x1 x2 x3, xs = [x0, x1, x2, x3] := by
    match xs, hxl with
    | [x0, x1, x2, x3], _ => exact ⟨x0, x1, x2, x3, rfl⟩
  have f0' : DataW.trod enc Try.prog W base (fun _ => true) held n 3 (([e0, e1, e2, e3].drop 0).take (Try.prog.cellsOf 3)) = some x0 := hF 0 _ rfl
  rw [c3] at f0'
  have f0 : DataW.trod enc Try.prog W base (fun _ => true) held n 3 [e0] = some x0 := f0'
  have f1' : DataW.trod enc Try.prog W base (fun _ => true) held n 26 (([e0, e1, e2, e3].drop 1).take (Try.prog.cellsOf 26)) = some x1 := hF 1 _ rfl
  rw [c26] at f1'
  have f1 : DataW.trod enc Try.prog W base (fun _ => true) held n 26 [e1] = some x1 := f1'
  have f2' : DataW.trod enc Try.prog W base (fun _ => true) held n 22 (([e0, e1, e2, e3].drop 2).take (Try.prog.cellsOf 22)) = some x2 := hF 2 _ rfl
  rw [c22] at f2'
  have f2 : DataW.trod enc Try.prog W base (fun _ => true) held n 22 [e2] = some x2 := f2'
  have f3' : DataW.trod enc Try.prog W base (fun _ => true) held n 3 (([e0, e1, e2, e3].drop 3).take (Try.prog.cellsOf 3)) = some x3 := hF 3 _ rfl
  rw [c3] at f3'
  have f3 : DataW.trod enc Try.prog W base (fun _ => true) held n 3 [e3] = some x3 := f3'
  obtain ⟨D, d1, _, d3⟩ := DataW.trod_int Try.underlying3 f0
  obtain ⟨N, n1, _, n3⟩ := DataW.trod_int Try.underlying26 f1
  obtain ⟨M, m1, _, m3⟩ := DataW.trod_int Try.underlying3 f3
  simp at d1 n1 m1
  exact ⟨D, N, M, x0, x1, x2, x3, n, d1, n1, m1, d3, n3, m3, rfl, f2⟩

theorem item_cells {fuel : Nat} {e0 e1 e2 e3 : Value} (hf : DataW.trod enc Try.prog W base (fun _ => true) held fuel 28 [e0, e1, e2, e3] = some (d, p)) (hw : ∀ x ∈ d.weights Try.prog 28, x ≤ reachBytes) :
    ∃ (D N M : Int) (x : Option Addr) (n c : Nat) (f : Nat → Nat), e0 = .int .i64 D ∧ e1 = .int .u64 N ∧ e2 = .slice x n c ∧ e3 = .int .i64 M ∧ ItemIn W D N x n c f M := by
  obtain ⟨D, N, M, x0, x1, x2, x3, n, rfl, rfl, rfl, h1, h2, h3, rfl, h4⟩ := item_open hf
  simp only [DataW.weights, Try.underlying28] at hw
  obtain ⟨a, len, cap, f, g1, g2⟩ := bytes_in h4 (fun x hx => hw x (DataW.weights_mem_each (j := 2) (t := 22) rfl rfl x hx))
  simp at g1
  exact ⟨D, N, M, a, len, cap, f, rfl, rfl, g1, rfl, h1, h2, g2, h3⟩

theorem item_cells_upto {fuel : Nat} {e0 e1 e2 e3 : Value} (hf : DataW.trod enc Try.prog W base (fun _ => true) held fuel 28 [e0, e1, e2, e3] = some (d, p)) (hw : Rows.uptoBulk d ≤ 1048576) :
    ∃ (D N M : Int) (x : Option Addr) (n c : Nat) (f : Nat → Nat), e0 = .int .i64 D ∧ e1 = .int .u64 N ∧ e2 = .slice x n c ∧ e3 = .int .i64 M ∧ ItemIn W D N x n c f M ∧ n ≤ 1048576 := by
  obtain ⟨D, N, M, x0, x1, x2, x3, n, rfl, rfl, rfl, h1, h2, h3, rfl, h4⟩ := item_open hf
  have hb : Rows.uptoBulk x2.1 ≤ 1048576 := by
    simp only [Rows.uptoBulk, Rows.uptoBulkAll] at hw
    omega
  obtain ⟨a, len, cap, f, g1, g2, g3⟩ := bytes_in_upto h4 hb
  simp at g1
  exact ⟨D, N, M, a, len, cap, f, rfl, rfl, g1, rfl, ⟨h1, h2, g2, h3⟩, g3⟩

theorem four_cells : Try.prog.cellsOf 28 = 4 := by kernel_rfl

theorem item_in {v : Value} (hv : ∃ cs, v = .agg cs ∧ cs.size = Try.prog.cellsOf 28) (h : DataW.Trod enc Try.prog W base (fun _ => true) held 28 v d p) (hw : ∀ x ∈ d.weights Try.prog 28, x ≤ reachBytes) :
    ∃ (D N M : Int) (x : Option Addr) (n c : Nat) (f : Nat → Nat), v = .agg #[.int .i64 D, .int .u64 N, .slice x n c, .int .i64 M] ∧ ItemIn W D N x n c f M := by
  obtain ⟨cs, rfl, hcs⟩ := hv
  obtain ⟨fuel, hf⟩ := h
  rw [four_cells] at hcs
  obtain ⟨e0, e1, e2, e3, rfl⟩ : ∃ e0 e1 e2 e3, cs = #[e0, e1, e2, e3] := by
    obtain ⟨l⟩ := cs
    match l, hcs with
    | [e0, e1, e2, e3], _ => exact ⟨e0, e1, e2, e3, rfl⟩
  obtain ⟨D, N, M, x, n, c, f, rfl, rfl, rfl, rfl, h1⟩ := item_cells hf hw
  exact ⟨D, N, M, x, n, c, f, rfl, h1⟩

theorem items_open {fuel : Nat} {cs : List Value} (hf : DataW.trod enc Try.prog W base (fun _ => true) held fuel 23 cs = some (d, p)) :
    (cs = [.slice none 0 0] ∧ d = .nil) ∨
    ∃ (a : Addr) (len cap n : Nat) (DD : Nat → DataW H) (Pl : Nat → List MemPlace), cs = [.slice (some a) len cap] ∧ len ≤ cap ∧ d = .slice ((List.range len).map DD) ((List.range (cap - len)).map fun j => DD (len + j)) ∧
      ∀ i, i < cap → ∃ e0 e1 e2 e3, W.cell? (a.add (i * 4)) = some e0 ∧ W.cell? (a.add (i * 4 + 1)) = some e1 ∧ W.cell? (a.add (i * 4 + 2)) = some e2 ∧ W.cell? (a.add (i * 4 + 3)) = some e3 ∧ DataW.trod enc Try.prog W base (fun _ => true) held n 28 [e0, e1, e2, e3] = some (DD i, Pl i) := by
  rcases open_slice Try.underlying23 hf with ⟨h1, h2⟩ | ⟨a, len, cap, m, n, DD, Pl, rfl, hb, hl, hm, hmm, hx, hcell⟩
  · simp only [Prod.mk.injEq] at h2
    exact .inl ⟨h1, h2.1⟩
  · simp only [if_true] at hmm
    subst hmm
    simp only [Prod.mk.injEq] at hx
    refine .inr ⟨a, len, m, n, DD, Pl, rfl, hl, hx.1, fun i hi => ?_⟩
    obtain ⟨cs', h1, h2⟩ := hcell i hi
    rw [four_cells] at h1
    obtain ⟨_, hlen, hc⟩ := World.cells?_some h1
    match cs', hlen with
    | [e0, e1, e2, e3], _ =>
      have q0 := hc 0 (by omega)
      have q1 := hc 1 (by omega)
      have q2 := hc 2 (by omega)
      have q3 := hc 3 (by omega)
      rw [add_add] at q0 q1 q2 q3
      exact ⟨e0, e1, e2, e3, by simpa using q0, by simpa using q1, by simpa using q2, by simpa using q3, h2⟩

theorem items_made {a : Addr} {len : Nat} (each : ∀ i, i < len → ∃ q : Int × Int × Int × Option Addr × Nat × Nat × (Nat → Nat), W.cell? (a.add (i * 4)) = some (.int .i64 q.1) ∧ W.cell? (a.add (i * 4 + 1)) = some (.int .u64 q.2.1) ∧ W.cell? (a.add (i * 4 + 2)) = some (.slice q.2.2.2.1 q.2.2.2.2.1 q.2.2.2.2.2.1) ∧ W.cell? (a.add (i * 4 + 3)) = some (.int .i64 q.2.2.1) ∧ ItemIn W q.1 q.2.1 q.2.2.2.1 q.2.2.2.2.1 q.2.2.2.2.2.1 q.2.2.2.2.2.2 q.2.2.1) (cap : Nat) (hl : len ≤ cap) (hs : len ≤ 140737488351232) :
    ∃ D N X L C F M, ItemsIn W (some a) len cap D N X L C F M ∧ ∀ i, i < len → W.cell? (a.add (i * 4 + 2)) = some (.slice (X i) (L i) (C i)) := by
  obtain ⟨q, hq⟩ := choose_lt each
  refine ⟨fun i => (q i).1, fun i => (q i).2.1, fun i => (q i).2.2.2.1, fun i => (q i).2.2.2.2.1, fun i => (q i).2.2.2.2.2.1, fun i => (q i).2.2.2.2.2.2, fun i => (q i).2.2.1, ⟨hl, (fun h => by cases h), hs, ?_, fun i hi => (hq i hi).2.2.2.2⟩, fun i hi => (hq i hi).2.2.1⟩
  by_cases h0 : len = 0
  · exact .inl h0
  · obtain ⟨b, off, spot⟩ := a
    have hspot : spot = none := by simpa [Addr.add] using World.cell?_spot (hq 0 (by omega)).1
    subst hspot
    refine .inr ⟨b, off, rfl, by simpa [Addr.add] using cell_lt' (hq 0 (by omega)).1, fun i hi => ?_⟩
    obtain ⟨h1, h2, h3, h4, _⟩ := hq i hi
    rw [add_at] at h1 h2 h3 h4
    exact ⟨h1, by simpa [Nat.add_assoc] using h2, by simpa [Nat.add_assoc] using h3, by simpa [Nat.add_assoc] using h4⟩

theorem items_in {fuel : Nat} {cs : List Value} (hf : DataW.trod enc Try.prog W base (fun _ => true) held fuel 23 cs = some (d, p)) (hw : ∀ x ∈ d.weights Try.prog 23, x ≤ reachBytes) :
    ∃ a len cap D N X L C F M, cs = [.slice a len cap] ∧ ItemsIn W a len cap D N X L C F M := by
  rcases items_open hf with ⟨h1, _⟩ | ⟨a, len, cap, n, DD, Pl, h1, hl, rfl, hc⟩
  · exact ⟨none, 0, 0, fun _ => 0, fun _ => 0, fun _ => none, fun _ => 0, fun _ => 0, fun _ _ => 0, fun _ => 0, h1, Nat.le_refl _, fun _ => ⟨rfl, rfl⟩, by omega, .inl rfl, fun i hi => by omega⟩
  · have hb48 : Try.prog.bytesOf 28 = 48 := by kernel_rfl
    simp only [DataW.weights, Try.underlying23, List.mem_cons, List.mem_append, hb48] at hw
    have hw0 := hw _ (.inl rfl)
    simp only [List.length_map, List.length_range, reachBytes] at hw0
    obtain ⟨D, N, X, L, C, F, M, h2, _⟩ := items_made (W := W) (a := a) (len := len) (fun i hi => by
      obtain ⟨e0, e1, e2, e3, g0, g1, g2, g3, g4⟩ := hc i (by omega)
      obtain ⟨D, N, M, x, n, c, f, rfl, rfl, rfl, rfl, k⟩ := item_cells g4 (fun x hx => hw x (.inr (.inl (mem_weightsAll hx (List.mem_map.2 ⟨i, List.mem_range.2 hi, rfl⟩)))))
      exact ⟨(D, N, M, x, n, c, f), g0, g1, g2, g3, k⟩) cap hl (by omega)
    exact ⟨some a, len, cap, D, N, X, L, C, F, M, h1, h2⟩

theorem items_in_upto {fuel : Nat} {cs : List Value} (hf : DataW.trod enc Try.prog W base (fun _ => true) held fuel 23 cs = some (d, p)) (hw : Rows.uptoBulk d ≤ 1048576) :
    ∃ a len cap D N X L C F M, cs = [.slice a len cap] ∧ ItemsIn W a len cap D N X L C F M ∧ len ≤ 1048576 ∧ ∀ i, i < len → L i ≤ 1048576 := by
  rcases items_open hf with ⟨h1, _⟩ | ⟨a, len, cap, n, DD, Pl, h1, hl, rfl, hc⟩
  · exact ⟨none, 0, 0, fun _ => 0, fun _ => 0, fun _ => none, fun _ => 0, fun _ => 0, fun _ _ => 0, fun _ => 0, h1, ⟨Nat.le_refl _, fun _ => ⟨rfl, rfl⟩, by omega, .inl rfl, fun i hi => by omega⟩, by omega, fun i hi => by omega⟩
  · simp only [Rows.uptoBulk] at hw
    have hlen := bulk_each ((List.range len).map DD)
    simp only [List.length_map, List.length_range] at hlen
    have hsmall : ∀ i, i < len → ∃ (D N M : Int) (x : Option Addr) (n c : Nat) (f : Nat → Nat), W.cell? (a.add (i * 4)) = some (.int .i64 D) ∧ W.cell? (a.add (i * 4 + 1)) = some (.int .u64 N) ∧ W.cell? (a.add (i * 4 + 2)) = some (.slice x n c) ∧ W.cell? (a.add (i * 4 + 3)) = some (.int .i64 M) ∧ ItemIn W D N x n c f M ∧ n ≤ 1048576 := fun i hi => by
      obtain ⟨e0, e1, e2, e3, g0, g1, g2, g3, g4⟩ := hc i (by omega)
      have hb := bulk_mem (List.mem_map.2 ⟨i, List.mem_range.2 hi, rfl⟩ : DD i ∈ (List.range len).map DD)
      obtain ⟨D, N, M, x, n, c, f, rfl, rfl, rfl, rfl, k, k2⟩ := item_cells_upto g4 (by omega)
      exact ⟨D, N, M, x, n, c, f, g0, g1, g2, g3, k, k2⟩
    obtain ⟨D, N, X, L, C, F, M, h2, h3⟩ := items_made (W := W) (a := a) (len := len) (fun i hi => by
      obtain ⟨D, N, M, x, n, c, f, g0, g1, g2, g3, k, _⟩ := hsmall i hi
      exact ⟨(D, N, M, x, n, c, f), g0, g1, g2, g3, k⟩) cap hl (by omega)
    refine ⟨some a, len, cap, D, N, X, L, C, F, M, h1, h2, by omega, fun i hi => ?_⟩
    obtain ⟨_, _, _, x, n, c, f, _, _, g2, _, _, k⟩ := hsmall i hi
    have := g2.symm.trans (h3 i hi)
    injection this with this
    injection this with _ this _
    omega

end

end Go.Proofs.Ytjodeceaogngfaa
