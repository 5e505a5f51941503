/-
  What a law is told of a ballot, of an acceptor, and of a list of steps that came in, with their reach.
  Conditions: none.
-/
import Derived.Test.YtlfeafbpknbbfaaBaMem
import Derived.Deep.Slices
namespace Go.Proofs.Ytlfeafbpknbbfaa.Ba
open Go.RowKit Go.ChangeShapes Go.WideShapes Go.Deep By Fl
set_option linter.unusedVariables false
set_option linter.unusedSimpArgs false
set_option maxRecDepth 100000

theorem mem_weightsAll {H : Type} {P : Program} {e : TypeId} {d : DataW H} {n : Nat} (hn : n ∈ d.weights P e) : ∀ {ds : List (DataW H)}, d ∈ ds → n ∈ DataW.weightsAll P e ds
  | d0 :: ds, h => by
    simp only [DataW.weightsAll, List.mem_append]
    rcases List.mem_cons.1 h with h | h
    · subst h; exact .inl hn
    · exact .inr (mem_weightsAll hn h)

structure AccV where
  p : Bt
  a : Bt
  x : Option Addr
  n : Nat
  c : Nat
  d : List Nat

structure AccIn (w : World) (v : AccV) : Prop where
  p1 : wfi v.p.1
  p2 : wfi v.p.2
  a1 : wfi v.a.1
  a2 : wfi v.a.2
  sl : Sl w v.x v.n v.c v.d
  sm : v.n ≤ 140737488351232

structure StV where
  mon : Int
  acc : Bool
  at_ : Nat
  val : Nat

structure StIn (v : StV) : Prop where
  hm : wfi v.mon
  ha : v.at_ < 256
  hv : v.val < 256

def noSt : StV := ⟨0, false, 0, 0⟩

structure StsIn (w : World) (a : Option Addr) (len cap : Nat) (V : Nat → StV) : Prop where
  le : len ≤ cap
  nil : a = none → len = 0 ∧ cap = 0
  small : len ≤ 140737488351232
  row : len = 0 ∨ ∃ b o, a = some ⟨b, o, none⟩ ∧ b < w.heap.size ∧ ∀ i, i < len → w.cell? ⟨b, o + i * 4, none⟩ = some (.int .i64 (V i).mon) ∧ w.cell? ⟨b, o + i * 4 + 1, none⟩ = some (.bool (V i).acc) ∧ w.cell? ⟨b, o + i * 4 + 2, none⟩ = some (.int .u8 ((V i).at_ : Int)) ∧ w.cell? ⟨b, o + i * 4 + 3, none⟩ = some (.int .u8 ((V i).val : Int))
  st : ∀ i, i < len → StIn (V i)

section
variable {H : Type} {enc : TypeId × Value → H} {W : World} {base : Nat} {held : Bool} {d : DataW H} {p : List MemPlace}

theorem bal_cells {fuel : Nat} {e0 e1 : Value} (hf : DataW.trod enc Try.prog W base (fun _ => true) held fuel 23 [e0, e1] = some (d, p)) : ∃ b : Bt, e0 = .int .i64 b.1 ∧ e1 = .int .i64 b.2 ∧ wfi b.1 ∧ wfi b.2 := by
  have c3 : Try.prog.cellsOf 3 = 1 := by kernel_rfl
  obtain ⟨xs, n, _, hx, _, hxl, hF⟩ := DataW.trod_struct Try.underlying23 hf
  simp only [Prod.mk.injEq] at hx
  obtain ⟨hd, _⟩ := hx
  subst hd
  obtain ⟨x0, x1, rfl⟩ : ∃ x0 x1, xs = [x0, x1] := by
    match xs, hxl with
    | [x0, x1], _ => exact ⟨x0, x1, rfl⟩
  have f0' : DataW.trod enc Try.prog W base (fun _ => true) held n 3 (([e0, e1].drop 0).take (Try.prog.cellsOf 3)) = some x0 := hF 0 _ rfl
  rw [c3] at f0'
  have f0 : DataW.trod enc Try.prog W base (fun _ => true) held n 3 [e0] = some x0 := f0'
  have f1' : DataW.trod enc Try.prog W base (fun _ => true) held n 3 (([e0, e1].drop 1).take (Try.prog.cellsOf 3)) = some x1 := hF 1 _ rfl
  rw [c3] at f1'
  have f1 : DataW.trod enc Try.prog W base (fun _ => true) held n 3 [e1] = some x1 := f1'
  obtain ⟨D, d1, _, d3⟩ := DataW.trod_int Try.underlying3 f0
  obtain ⟨N, n1, _, n3⟩ := DataW.trod_int Try.underlying3 f1
  simp at d1 n1
  subst d1 n1
  exact ⟨(D, N), rfl, rfl, d3, n3⟩

theorem two_cells : Try.prog.cellsOf 23 = 2 := by kernel_rfl
theorem five_cells : Try.prog.cellsOf 26 = 5 := by kernel_rfl
theorem four_cells : Try.prog.cellsOf 42 = 4 := by kernel_rfl

theorem bal_in {v : Value} (hv : ∃ cs, v = .agg cs ∧ cs.size = Try.prog.cellsOf 23) (h : DataW.Trod enc Try.prog W base (fun _ => true) held 23 v d p) :
    ∃ b : Bt, v = bt b ∧ wfi b.1 ∧ wfi b.2 := by
  obtain ⟨cs, rfl, hcs⟩ := hv
  obtain ⟨fuel, hf⟩ := h
  rw [two_cells] at hcs
  obtain ⟨e0, e1, rfl⟩ : ∃ e0 e1, cs = #[e0, e1] := by
    obtain ⟨l⟩ := cs
    match l, hcs with
    | [e0, e1], _ => exact ⟨e0, e1, rfl⟩
  obtain ⟨b, rfl, rfl, h1⟩ := bal_cells hf
  exact ⟨b, rfl, h1⟩

theorem acc_in {v : Value} (hv : ∃ cs, v = .agg cs ∧ cs.size = Try.prog.cellsOf 26) (h : DataW.Trod enc Try.prog W base (fun _ => true) held 26 v d p) (hw : ∀ x ∈ d.weights Try.prog 26, x ≤ reachBytes) :
    ∃ V : AccV, v = .agg #[.int .i64 V.p.1, .int .i64 V.p.2, .int .i64 V.a.1, .int .i64 V.a.2, .slice V.x V.n V.c] ∧ AccIn W V := by
  obtain ⟨cs, rfl, hcs⟩ := hv
  obtain ⟨fuel, hf⟩ := h
  rw [five_cells] at hcs
  obtain ⟨e0, e1, e2, e3, e4, rfl⟩ : ∃ e0 e1 e2 e3 e4, cs = #[e0, e1, e2, e3, e4] := by
    obtain ⟨l⟩ := cs
    match l, hcs with
    | [e0, e1, e2, e3, e4], _ => exact ⟨e0, e1, e2, e3, e4, rfl⟩
  have c22 : Try.prog.cellsOf 24 = 1 := by kernel_rfl
  have hf' : DataW.trod enc Try.prog W base (fun _ => true) held fuel 26 [e0, e1, e2, e3, e4] = some (d, p) := hf
  obtain ⟨xs, n, _, hx, _, hxl, hF⟩ := DataW.trod_struct Try.underlying26 hf'
  simp only [Prod.mk.injEq] at hx
  obtain ⟨hd, _⟩ := hx
  subst hd
  obtain ⟨x0, x1, x2, rfl⟩ : ∃ x0 x1 x2, xs = [x0, x1, x2] := by
    match xs, hxl with
    | [x0, x1, x2], _ => exact ⟨x0, x1, x2, rfl⟩
  have f0' : DataW.trod enc Try.prog W base (fun _ => true) held n 23 (([e0, e1, e2, e3, e4].drop 0).take (Try.prog.cellsOf 23)) = some x0 := hF 0 _ rfl
  rw [two_cells] at f0'
  have f0 : DataW.trod enc Try.prog W base (fun _ => true) held n 23 [e0, e1] = some (x0.1, x0.2) := f0'
  have f1' : DataW.trod enc Try.prog W base (fun _ => true) held n 23 (([e0, e1, e2, e3, e4].drop 2).take (Try.prog.cellsOf 23)) = some x1 := hF 1 _ rfl
  rw [two_cells] at f1'
  have f1 : DataW.trod enc Try.prog W base (fun _ => true) held n 23 [e2, e3] = some (x1.1, x1.2) := f1'
  have f2' : DataW.trod enc Try.prog W base (fun _ => true) held n 24 (([e0, e1, e2, e3, e4].drop 4).take (Try.prog.cellsOf 24)) = some x2 := hF 2 _ rfl
  rw [c22] at f2'
  have f2 : DataW.trod enc Try.prog W base (fun _ => true) held n 24 [e4] = some (x2.1, x2.2) := f2'
  obtain ⟨b0, rfl, rfl, w1, w2⟩ := bal_cells f0
  obtain ⟨b1, rfl, rfl, w3, w4⟩ := bal_cells f1
  simp only [DataW.weights, Try.underlying26] at hw
  obtain ⟨a, len, cap, f, g1, g2⟩ := bytes_in f2 (fun x hx => hw x (DataW.weights_mem_each (j := 2) (t := 24) rfl rfl x hx))
  simp at g1
  exact ⟨⟨b0, b1, a, len, cap, (List.range len).map f⟩, by rw [g1], w1, w2, w3, w4, Sl.of_in g2, Nat.le_trans g2.le g2.small⟩

theorem st_cells {fuel : Nat} {e0 e1 e2 e3 : Value} (hf : DataW.trod enc Try.prog W base (fun _ => true) held fuel 42 [e0, e1, e2, e3] = some (d, p)) :
    ∃ v : StV, e0 = .int .i64 v.mon ∧ e1 = .bool v.acc ∧ e2 = .int .u8 (v.at_ : Int) ∧ e3 = .int .u8 (v.val : Int) ∧ StIn v := by
  have c3 : Try.prog.cellsOf 3 = 1 := by kernel_rfl
  have c4 : Try.prog.cellsOf 4 = 1 := by kernel_rfl
  have c5 : Try.prog.cellsOf 5 = 1 := by kernel_rfl
  obtain ⟨xs, n, _, hx, _, hxl, hF⟩ := DataW.trod_struct Try.underlying42 hf
  simp only [Prod.mk.injEq] at hx
  obtain ⟨hd, _⟩ := hx
  subst hd
  obtain ⟨x0, x1, x2, x3, rfl⟩ : ∃ x0 x1 x2 x3, xs = [x0, x1, x2, x3] := by
    match xs, hxl with
    | [x0, x1, x2, x3], _ => exact ⟨x0, x1, x2, x3, rfl⟩
  have f0' : DataW.trod enc Try.prog W base (fun _ => true) held n 3 (([e0, e1, e2, e3].drop 0).take (Try.prog.cellsOf 3)) = some x0 := hF 0 _ rfl
  rw [c3] at f0'
  have f0 : DataW.trod enc Try.prog W base (fun _ => true) held n 3 [e0] = some x0 := f0'
  have f1' : DataW.trod enc Try.prog W base (fun _ => true) held n 4 (([e0, e1, e2, e3].drop 1).take (Try.prog.cellsOf 4)) = some x1 := hF 1 _ rfl
  rw [c4] at f1'
  have f1 : DataW.trod enc Try.prog W base (fun _ => true) held n 4 [e1] = some x1 := f1'
  have f2' : DataW.trod enc Try.prog W base (fun _ => true) held n 5 (([e0, e1, e2, e3].drop 2).take (Try.prog.cellsOf 5)) = some x2 := hF 2 _ rfl
  rw [c5] at f2'
  have f2 : DataW.trod enc Try.prog W base (fun _ => true) held n 5 [e2] = some x2 := f2'
  have f3' : DataW.trod enc Try.prog W base (fun _ => true) held n 5 (([e0, e1, e2, e3].drop 3).take (Try.prog.cellsOf 5)) = some x3 := hF 3 _ rfl
  rw [c5] at f3'
  have f3 : DataW.trod enc Try.prog W base (fun _ => true) held n 5 [e3] = some x3 := f3'
  obtain ⟨D, d1, _, d3⟩ := DataW.trod_int Try.underlying3 f0
  obtain ⟨A, a1, _⟩ := DataW.trod_bool Try.underlying4 f1
  obtain ⟨N, n1, _, n3⟩ := DataW.trod_int Try.underlying5 f2
  obtain ⟨M, m1, _, m3⟩ := DataW.trod_int Try.underlying5 f3
  simp at d1 a1 n1 m1
  obtain ⟨N', rfl, hN⟩ := u8_nat n3
  obtain ⟨M', rfl, hM⟩ := u8_nat m3
  subst d1 a1 n1 m1
  exact ⟨⟨D, A, N', M'⟩, rfl, rfl, rfl, rfl, ⟨d3, hN, hM⟩⟩

theorem sts_open {fuel : Nat} {cs : List Value} (hf : DataW.trod enc Try.prog W base (fun _ => true) held fuel 38 cs = some (d, p)) :
    (cs = [.slice none 0 0] ∧ d = .nil) ∨
    ∃ (a : Addr) (len cap n : Nat) (DD : Nat → DataW H) (Pl : Nat → List MemPlace), cs = [.slice (some a) len cap] ∧ len ≤ cap ∧ d = .slice ((List.range len).map DD) ((List.range (cap - len)).map fun j => DD (len + j)) ∧
      ∀ i, i < cap → ∃ e0 e1 e2 e3, W.cell? (a.add (i * 4)) = some e0 ∧ W.cell? (a.add (i * 4 + 1)) = some e1 ∧ W.cell? (a.add (i * 4 + 2)) = some e2 ∧ W.cell? (a.add (i * 4 + 3)) = some e3 ∧ DataW.trod enc Try.prog W base (fun _ => true) held n 42 [e0, e1, e2, e3] = some (DD i, Pl i) := by
  rcases open_slice Try.underlying38 hf with ⟨h1, h2⟩ | ⟨a, len, cap, m, n, DD, Pl, rfl, hb, hl, hm, hmm, hx, hcell⟩
  · simp only [Prod.mk.injEq] at h2
    exact .inl ⟨h1, h2.1⟩
  · simp only [if_true] at hmm
    subst hmm
    simp only [Prod.mk.injEq] at hx
    refine .inr ⟨a, len, m, n, DD, Pl, rfl, hl, hx.1, fun i hi => ?_⟩
    obtain ⟨cs', h1, h2⟩ := hcell i hi
    rw [four_cells] at h1
    obtain ⟨_, hlen, hc⟩ := World.cells?_some h1
    match cs', hlen with
    | [e0, e1, e2, e3], _ =>
      have q0 := hc 0 (by omega)
      have q1 := hc 1 (by omega)
      have q2 := hc 2 (by omega)
      have q3 := hc 3 (by omega)
      rw [add_add] at q0 q1 q2 q3
      exact ⟨e0, e1, e2, e3, by simpa using q0, by simpa using q1, by simpa using q2, by simpa using q3, h2⟩

theorem sts_in {fuel : Nat} {cs : List Value} (hf : DataW.trod enc Try.prog W base (fun _ => true) held fuel 38 cs = some (d, p)) (hw : ∀ x ∈ d.weights Try.prog 38, x ≤ reachBytes) :
    ∃ a len cap V, cs = [.slice a len cap] ∧ StsIn W a len cap V := by
  rcases sts_open hf with ⟨h1, _⟩ | ⟨a, len, cap, n, DD, Pl, h1, hl, rfl, hc⟩
  · exact ⟨none, 0, 0, fun _ => noSt, h1, Nat.le_refl _, fun _ => ⟨rfl, rfl⟩, by omega, .inl rfl, fun i hi => by omega⟩
  · have hb16 : Try.prog.bytesOf 42 = 16 := by kernel_rfl
    simp only [DataW.weights, Try.underlying38, List.mem_cons, List.mem_append, hb16] at hw
    have hw0 := hw _ (.inl rfl)
    simp only [List.length_map, List.length_range, reachBytes] at hw0
    haveI : Inhabited StV := ⟨noSt⟩
    have each : ∀ i, i < len → ∃ v : StV, W.cell? (a.add (i * 4)) = some (.int .i64 v.mon) ∧ W.cell? (a.add (i * 4 + 1)) = some (.bool v.acc) ∧ W.cell? (a.add (i * 4 + 2)) = some (.int .u8 (v.at_ : Int)) ∧ W.cell? (a.add (i * 4 + 3)) = some (.int .u8 (v.val : Int)) ∧ StIn v := fun i hi => by
      obtain ⟨e0, e1, e2, e3, g0, g1, g2, g3, g5⟩ := hc i (by omega)
      obtain ⟨v, rfl, rfl, rfl, rfl, k⟩ := st_cells g5
      exact ⟨v, g0, g1, g2, g3, k⟩
    obtain ⟨V, hV⟩ := choose_lt each
    refine ⟨some a, len, cap, V, h1, hl, (fun h => by cases h), by omega, ?_, fun i hi => (hV i hi).2.2.2.2⟩
    by_cases h0 : len = 0
    · exact .inl h0
    · obtain ⟨b, off, spot⟩ := a
      have hspot : spot = none := by simpa [Addr.add] using World.cell?_spot (hV 0 (by omega)).1
      subst hspot
      refine .inr ⟨b, off, rfl, by simpa [Addr.add] using cell_lt' (hV 0 (by omega)).1, fun i hi => ?_⟩
      obtain ⟨h1, h2, h3, h4, _⟩ := hV i hi
      rw [add_at] at h1 h2 h3 h4
      exact ⟨h1, by simpa [Nat.add_assoc] using h2, by simpa [Nat.add_assoc] using h3, by simpa [Nat.add_assoc] using h4⟩

end

end Go.Proofs.Ytlfeafbpknbbfaa.Ba
