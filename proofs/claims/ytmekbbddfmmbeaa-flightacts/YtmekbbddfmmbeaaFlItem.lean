/-
  What a law is told of an Act, and of a list of Acts, that came in, with their reach.
  Conditions: none.
-/
import Derived.Test.YtmekbbddfmmbeaaFlMem
import Derived.Deep.Slices
namespace Go.Proofs.Ytmekbbddfmmbeaa.Fl
open Go.RowKit Go.ChangeShapes Go.WideShapes Go.Deep By
set_option linter.unusedVariables false
set_option linter.unusedSimpArgs false
set_option maxRecDepth 100000

theorem mem_weightsAll {H : Type} {P : Program} {e : TypeId} {d : DataW H} {n : Nat} (hn : n ∈ d.weights P e) : ∀ {ds : List (DataW H)}, d ∈ ds → n ∈ DataW.weightsAll P e ds
  | d0 :: ds, h => by
    simp only [DataW.weightsAll, List.mem_append]
    rcases List.mem_cons.1 h with h | h
    · subst h; exact .inl hn
    · exact .inr (mem_weightsAll hn h)

structure ActV where
  do_ : Int
  a : Int
  b : Int
  x : Option Addr
  n : Nat
  c : Nat
  d : List Nat

structure ActIn (w : World) (v : ActV) : Prop where
  hdo : wfi v.do_
  ha : wfi v.a
  hb : wfi v.b
  sl : Sl w v.x v.n v.c v.d
  sm : v.n ≤ 140737488351232

structure ActsIn (w : World) (a : Option Addr) (len cap : Nat) (V : Nat → ActV) : Prop where
  le : len ≤ cap
  nil : a = none → len = 0 ∧ cap = 0
  small : len ≤ 140737488351232
  row : len = 0 ∨ ∃ b o, a = some ⟨b, o, none⟩ ∧ b < w.heap.size ∧ ∀ i, i < len → w.cell? ⟨b, o + i * 4, none⟩ = some (.int .i64 (V i).do_) ∧ w.cell? ⟨b, o + i * 4 + 1, none⟩ = some (.int .i64 (V i).a) ∧ w.cell? ⟨b, o + i * 4 + 2, none⟩ = some (.int .i64 (V i).b) ∧ w.cell? ⟨b, o + i * 4 + 3, none⟩ = some (.slice (V i).x (V i).n (V i).c)
  act : ∀ i, i < len → ActIn w (V i)

section
variable {H : Type} {enc : TypeId × Value → H} {W : World} {base : Nat} {held : Bool} {d : DataW H} {p : List MemPlace}

theorem act_cells {fuel : Nat} {e0 e1 e2 e3 : Value} (hf : DataW.trod enc Try.prog W base (fun _ => true) held fuel 33 [e0, e1, e2, e3] = some (d, p)) (hw : ∀ x ∈ d.weights Try.prog 33, x ≤ reachBytes) :
    ∃ v : ActV, e0 = .int .i64 v.do_ ∧ e1 = .int .i64 v.a ∧ e2 = .int .i64 v.b ∧ e3 = .slice v.x v.n v.c ∧ ActIn W v := by
  have c3 : Try.prog.cellsOf 3 = 1 := by kernel_rfl
  have c22 : Try.prog.cellsOf 31 = 1 := by kernel_rfl
  obtain ⟨xs, n, _, hx, _, hxl, hF⟩ := DataW.trod_struct Try.underlying33 hf
  simp only [Prod.mk.injEq] at hx
  obtain ⟨hd, _⟩ := hx
  subst hd
  obtain ⟨x0, x1, x2, x3, rfl⟩ : ∃ x0 x1 x2 x3, xs = [x0, x1, x2, x3] := by
    match xs, hxl with
    | [x0, x1, x2, x3], _ => exact ⟨x0, x1, x2, x3, rfl⟩
  have f0' : DataW.trod enc Try.prog W base (fun _ => true) held n 3 (([e0, e1, e2, e3].drop 0).take (Try.prog.cellsOf 3)) = some x0 := hF 0 _ rfl
  rw [c3] at f0'
  have f0 : DataW.trod enc Try.prog W base (fun _ => true) held n 3 [e0] = some x0 := f0'
  have f1' : DataW.trod enc Try.prog W base (fun _ => true) held n 3 (([e0, e1, e2, e3].drop 1).take (Try.prog.cellsOf 3)) = some x1 := hF 1 _ rfl
  rw [c3] at f1'
  have f1 : DataW.trod enc Try.prog W base (fun _ => true) held n 3 [e1] = some x1 := f1'
  have f2' : DataW.trod enc Try.prog W base (fun _ => true) held n 3 (([e0, e1, e2, e3].drop 2).take (Try.prog.cellsOf 3)) = some x2 := hF 2 _ rfl
  rw [c3] at f2'
  have f2 : DataW.trod enc Try.prog W base (fun _ => true) held n 3 [e2] = some x2 := f2'
  have f3' : DataW.trod enc Try.prog W base (fun _ => true) held n 31 (([e0, e1, e2, e3].drop 3).take (Try.prog.cellsOf 31)) = some x3 := hF 3 _ rfl
  rw [c22] at f3'
  have f3 : DataW.trod enc Try.prog W base (fun _ => true) held n 31 [e3] = some (x3.1, x3.2) := f3'
  obtain ⟨D, d1, _, d3⟩ := DataW.trod_int Try.underlying3 f0
  obtain ⟨N, n1, _, n3⟩ := DataW.trod_int Try.underlying3 f1
  obtain ⟨M, m1, _, m3⟩ := DataW.trod_int Try.underlying3 f2
  simp at d1 n1 m1
  subst d1 n1 m1
  simp only [DataW.weights, Try.underlying33] at hw
  obtain ⟨a, len, cap, f, g1, g2⟩ := bytes_in f3 (fun x hx => hw x (DataW.weights_mem_each (j := 3) (t := 31) rfl rfl x hx))
  simp at g1
  exact ⟨⟨D, N, M, a, len, cap, (List.range len).map f⟩, rfl, rfl, rfl, g1, ⟨d3, n3, m3, Sl.of_in g2, Nat.le_trans g2.le g2.small⟩⟩

theorem four_cells : Try.prog.cellsOf 33 = 4 := by kernel_rfl

theorem act_in {v : Value} (hv : ∃ cs, v = .agg cs ∧ cs.size = Try.prog.cellsOf 33) (h : DataW.Trod enc Try.prog W base (fun _ => true) held 33 v d p) (hw : ∀ x ∈ d.weights Try.prog 33, x ≤ reachBytes) :
    ∃ V : ActV, v = .agg #[.int .i64 V.do_, .int .i64 V.a, .int .i64 V.b, .slice V.x V.n V.c] ∧ ActIn W V := by
  obtain ⟨cs, rfl, hcs⟩ := hv
  obtain ⟨fuel, hf⟩ := h
  rw [four_cells] at hcs
  obtain ⟨e0, e1, e2, e3, rfl⟩ : ∃ e0 e1 e2 e3, cs = #[e0, e1, e2, e3] := by
    obtain ⟨l⟩ := cs
    match l, hcs with
    | [e0, e1, e2, e3], _ => exact ⟨e0, e1, e2, e3, rfl⟩
  obtain ⟨V, rfl, rfl, rfl, rfl, h1⟩ := act_cells hf hw
  exact ⟨V, rfl, h1⟩

theorem acts_open {fuel : Nat} {cs : List Value} (hf : DataW.trod enc Try.prog W base (fun _ => true) held fuel 22 cs = some (d, p)) :
    (cs = [.slice none 0 0] ∧ d = .nil) ∨
    ∃ (a : Addr) (len cap n : Nat) (DD : Nat → DataW H) (Pl : Nat → List MemPlace), cs = [.slice (some a) len cap] ∧ len ≤ cap ∧ d = .slice ((List.range len).map DD) ((List.range (cap - len)).map fun j => DD (len + j)) ∧
      ∀ i, i < cap → ∃ e0 e1 e2 e3, W.cell? (a.add (i * 4)) = some e0 ∧ W.cell? (a.add (i * 4 + 1)) = some e1 ∧ W.cell? (a.add (i * 4 + 2)) = some e2 ∧ W.cell? (a.add (i * 4 + 3)) = some e3 ∧ DataW.trod enc Try.prog W base (fun _ => true) held n 33 [e0, e1, e2, e3] = some (DD i, Pl i) := by
  rcases open_slice Try.underlying22 hf with ⟨h1, h2⟩ | ⟨a, len, cap, m, n, DD, Pl, rfl, hb, hl, hm, hmm, hx, hcell⟩
  · simp only [Prod.mk.injEq] at h2
    exact .inl ⟨h1, h2.1⟩
  · simp only [if_true] at hmm
    subst hmm
    simp only [Prod.mk.injEq] at hx
    refine .inr ⟨a, len, m, n, DD, Pl, rfl, hl, hx.1, fun i hi => ?_⟩
    obtain ⟨cs', h1, h2⟩ := hcell i hi
    rw [four_cells] at h1
    obtain ⟨_, hlen, hc⟩ := World.cells?_some h1
    match cs', hlen with
    | [e0, e1, e2, e3], _ =>
      have q0 := hc 0 (by omega)
      have q1 := hc 1 (by omega)
      have q2 := hc 2 (by omega)
      have q3 := hc 3 (by omega)
      rw [add_add] at q0 q1 q2 q3
      exact ⟨e0, e1, e2, e3, by simpa using q0, by simpa using q1, by simpa using q2, by simpa using q3, h2⟩

def noAct : ActV := ⟨0, 0, 0, none, 0, 0, []⟩

theorem acts_in {fuel : Nat} {cs : List Value} (hf : DataW.trod enc Try.prog W base (fun _ => true) held fuel 22 cs = some (d, p)) (hw : ∀ x ∈ d.weights Try.prog 22, x ≤ reachBytes) :
    ∃ a len cap V, cs = [.slice a len cap] ∧ ActsIn W a len cap V := by
  rcases acts_open hf with ⟨h1, _⟩ | ⟨a, len, cap, n, DD, Pl, h1, hl, rfl, hc⟩
  · exact ⟨none, 0, 0, fun _ => noAct, h1, Nat.le_refl _, fun _ => ⟨rfl, rfl⟩, by omega, .inl rfl, fun i hi => by omega⟩
  · have hb48 : Try.prog.bytesOf 33 = 48 := by kernel_rfl
    simp only [DataW.weights, Try.underlying22, List.mem_cons, List.mem_append, hb48] at hw
    have hw0 := hw _ (.inl rfl)
    simp only [List.length_map, List.length_range, reachBytes] at hw0
    haveI : Inhabited ActV := ⟨noAct⟩
    have each : ∀ i, i < len → ∃ v : ActV, W.cell? (a.add (i * 4)) = some (.int .i64 v.do_) ∧ W.cell? (a.add (i * 4 + 1)) = some (.int .i64 v.a) ∧ W.cell? (a.add (i * 4 + 2)) = some (.int .i64 v.b) ∧ W.cell? (a.add (i * 4 + 3)) = some (.slice v.x v.n v.c) ∧ ActIn W v := fun i hi => by
      obtain ⟨e0, e1, e2, e3, g0, g1, g2, g3, g5⟩ := hc i (by omega)
      obtain ⟨v, rfl, rfl, rfl, rfl, k⟩ := act_cells g5 (fun x hx => hw x (.inr (.inl (mem_weightsAll hx (List.mem_map.2 ⟨i, List.mem_range.2 hi, rfl⟩)))))
      exact ⟨v, g0, g1, g2, g3, k⟩
    obtain ⟨V, hV⟩ := choose_lt each
    refine ⟨some a, len, cap, V, h1, hl, (fun h => by cases h), by omega, ?_, fun i hi => (hV i hi).2.2.2.2⟩
    by_cases h0 : len = 0
    · exact .inl h0
    · obtain ⟨b, off, spot⟩ := a
      have hspot : spot = none := by simpa [Addr.add] using World.cell?_spot (hV 0 (by omega)).1
      subst hspot
      refine .inr ⟨b, off, rfl, by simpa [Addr.add] using cell_lt' (hV 0 (by omega)).1, fun i hi => ?_⟩
      obtain ⟨h1, h2, h3, h4, _⟩ := hV i hi
      rw [add_at] at h1 h2 h3 h4
      exact ⟨h1, by simpa [Nat.add_assoc] using h2, by simpa [Nat.add_assoc] using h3, by simpa [Nat.add_assoc] using h4⟩

end

end Go.Proofs.Ytmekbbddfmmbeaa.Fl
