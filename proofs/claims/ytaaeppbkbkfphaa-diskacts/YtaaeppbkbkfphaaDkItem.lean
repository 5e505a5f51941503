/-
  What a law is told of an Act, and of a list of Acts, that came in, with their reach.
  Conditions: none.
-/
import Derived.Test.YtaaeppbkbkfphaaDkCrash
import Derived.Deep.Slices
namespace Go.Proofs.Ytaaeppbkbkfphaa
open Go.RowKit Go.ChangeShapes Go.WideShapes Go.Deep By
set_option linter.unusedVariables false
set_option linter.unusedSimpArgs false

theorem mem_weightsAll {H : Type} {P : Program} {e : TypeId} {d : DataW H} {n : Nat} (hn : n ∈ d.weights P e) : ∀ {ds : List (DataW H)}, d ∈ ds → n ∈ DataW.weightsAll P e ds
  | d0 :: ds, h => by
    simp only [DataW.weightsAll, List.mem_append]
    rcases List.mem_cons.1 h with h | h
    · subst h; exact .inl hn
    · exact .inr (mem_weightsAll hn h)

structure BoolsIn (w : World) (a : Option Addr) (len cap : Nat) (h : Nat → Bool) : Prop where
  row : BoolsAt w a len h
  le : len ≤ cap
  small : len ≤ 140737488351232
  nil : a = none → len = 0 ∧ cap = 0

structure ActV where
  do_ : Int
  at_ : Int
  x : Option Addr
  n : Nat
  c : Nat
  f : Nat → Nat
  y : Nat
  u : Option Addr
  l : Nat
  k : Nat
  h : Nat → Bool

structure ActIn (w : World) (v : ActV) : Prop where
  hdo : (Lit.int .i64 v.do_).wf = true
  hat : (Lit.int .i64 v.at_).wf = true
  bytes : BytesIn w v.x v.n v.c v.f
  hy : v.y < 256
  cut : BoolsIn w v.u v.l v.k v.h

structure ActsIn (w : World) (a : Option Addr) (len cap : Nat) (V : Nat → ActV) : Prop where
  le : len ≤ cap
  nil : a = none → len = 0 ∧ cap = 0
  small : len ≤ 140737488351232
  row : len = 0 ∨ ∃ b o, a = some ⟨b, o, none⟩ ∧ b < w.heap.size ∧ ∀ i, i < len → w.cell? ⟨b, o + i * 5, none⟩ = some (.int .i64 (V i).do_) ∧ w.cell? ⟨b, o + i * 5 + 1, none⟩ = some (.int .i64 (V i).at_) ∧ w.cell? ⟨b, o + i * 5 + 2, none⟩ = some (.slice (V i).x (V i).n (V i).c) ∧ w.cell? ⟨b, o + i * 5 + 3, none⟩ = some (.int .u8 ((V i).y : Int)) ∧ w.cell? ⟨b, o + i * 5 + 4, none⟩ = some (.slice (V i).u (V i).l (V i).k)
  act : ∀ i, i < len → ActIn w (V i)

section
variable {H : Type} {enc : TypeId × Value → H} {W : World} {base : Nat} {held : Bool} {d : DataW H} {p : List MemPlace}

theorem bools_in {fuel : Nat} {cs : List Value} (hf : DataW.trod enc Try.prog W base (fun _ => true) held fuel 33 cs = some (d, p)) (hw : ∀ x ∈ d.weights Try.prog 33, x ≤ reachBytes) :
    ∃ a len cap h, cs = [.slice a len cap] ∧ BoolsIn W a len cap h := by
  rcases open_bools Try.underlying33 Try.underlying4 (by kernel_rfl) hf with ⟨hcs, _⟩ | ⟨x, len, cap, B, hcs, _, hl, hm, hx, hcell⟩
  · exact ⟨none, 0, 0, fun _ => false, hcs, .inl rfl, Nat.le_refl _, by omega, fun _ => ⟨rfl, rfl⟩⟩
  · simp only [Prod.mk.injEq] at hx
    have hd := hx.1
    subst hd
    have hb1 : Try.prog.bytesOf 4 = 1 := by kernel_rfl
    simp only [boolRow, DataW.weights, Try.underlying33, List.mem_cons, hb1] at hw
    have hw0 := hw _ (.inl rfl)
    simp only [List.length_map, List.length_range, reachBytes] at hw0
    refine ⟨some x, len, cap, B, hcs, ?_, hl, by omega, fun h => by cases h⟩
    by_cases h0 : len = 0
    · exact .inl h0
    · obtain ⟨b, off, spot⟩ := x
      have hspot : spot = none := by simpa [Addr.add] using World.cell?_spot (hcell 0 (by omega))
      subst hspot
      refine .inr ⟨b, off, rfl, cell_lt' (hcell 0 (by omega)), fun i hi => ?_⟩
      have := hcell i (by omega)
      rwa [add_at] at this

theorem act_cells {fuel : Nat} {e0 e1 e2 e3 e4 : Value} (hf : DataW.trod enc Try.prog W base (fun _ => true) held fuel 35 [e0, e1, e2, e3, e4] = some (d, p)) (hw : ∀ x ∈ d.weights Try.prog 35, x ≤ reachBytes) :
    ∃ v : ActV, e0 = .int .i64 v.do_ ∧ e1 = .int .i64 v.at_ ∧ e2 = .slice v.x v.n v.c ∧ e3 = .int .u8 (v.y : Int) ∧ e4 = .slice v.u v.l v.k ∧ ActIn W v := by
  have c3 : Try.prog.cellsOf 3 = 1 := by kernel_rfl
  have c5 : Try.prog.cellsOf 5 = 1 := by kernel_rfl
  have c22 : Try.prog.cellsOf 32 = 1 := by kernel_rfl
  have c33 : Try.prog.cellsOf 33 = 1 := by kernel_rfl
  obtain ⟨xs, n, _, hx, _, hxl, hF⟩ := DataW.trod_struct Try.underlying35 hf
  simp only [Prod.mk.injEq] at hx
  obtain ⟨hd, _⟩ := hx
  subst hd
  obtain ⟨x0, x1, x2, x3, x4, rfl⟩ : ∃ x0 x1 x2 x3 x4, xs = [x0, x1, x2, x3, x4] := by
    match xs, hxl with
    | [x0, x1, x2, x3, x4], _ => exact ⟨x0, x1, x2, x3, x4, rfl⟩
  have f0' : DataW.trod enc Try.prog W base (fun _ => true) held n 3 (([e0, e1, e2, e3, e4].drop 0).take (Try.prog.cellsOf 3)) = some x0 := hF 0 _ rfl
  rw [c3] at f0'
  have f0 : DataW.trod enc Try.prog W base (fun _ => true) held n 3 [e0] = some x0 := f0'
  have f1' : DataW.trod enc Try.prog W base (fun _ => true) held n 3 (([e0, e1, e2, e3, e4].drop 1).take (Try.prog.cellsOf 3)) = some x1 := hF 1 _ rfl
  rw [c3] at f1'
  have f1 : DataW.trod enc Try.prog W base (fun _ => true) held n 3 [e1] = some x1 := f1'
  have f2' : DataW.trod enc Try.prog W base (fun _ => true) held n 32 (([e0, e1, e2, e3, e4].drop 2).take (Try.prog.cellsOf 32)) = some x2 := hF 2 _ rfl
  rw [c22] at f2'
  have f2 : DataW.trod enc Try.prog W base (fun _ => true) held n 32 [e2] = some (x2.1, x2.2) := f2'
  have f3' : DataW.trod enc Try.prog W base (fun _ => true) held n 5 (([e0, e1, e2, e3, e4].drop 3).take (Try.prog.cellsOf 5)) = some x3 := hF 3 _ rfl
  rw [c5] at f3'
  have f3 : DataW.trod enc Try.prog W base (fun _ => true) held n 5 [e3] = some x3 := f3'
  have f4' : DataW.trod enc Try.prog W base (fun _ => true) held n 33 (([e0, e1, e2, e3, e4].drop 4).take (Try.prog.cellsOf 33)) = some x4 := hF 4 _ rfl
  rw [c33] at f4'
  have f4 : DataW.trod enc Try.prog W base (fun _ => true) held n 33 [e4] = some (x4.1, x4.2) := f4'
  obtain ⟨D, d1, _, d3⟩ := DataW.trod_int Try.underlying3 f0
  obtain ⟨N, n1, _, n3⟩ := DataW.trod_int Try.underlying3 f1
  obtain ⟨M, m1, _, m3⟩ := DataW.trod_int Try.underlying5 f3
  simp at d1 n1 m1
  subst d1 n1 m1
  simp only [DataW.weights, Try.underlying35] at hw
  obtain ⟨a, len, cap, f, g1, g2⟩ := bytes_in f2 (fun x hx => hw x (DataW.weights_mem_each (j := 2) (t := 32) rfl rfl x hx))
  obtain ⟨a', len', cap', h', g1', g2'⟩ := bools_in f4 (fun x hx => hw x (DataW.weights_mem_each (j := 4) (t := 33) rfl rfl x hx))
  simp at g1 g1'
  obtain ⟨Y, hY, hY2⟩ := u8_nat m3
  subst hY
  exact ⟨⟨D, N, a, len, cap, f, Y, a', len', cap', h'⟩, rfl, rfl, g1, rfl, g1', ⟨d3, n3, g2, hY2, g2'⟩⟩

theorem five_cells : Try.prog.cellsOf 35 = 5 := by kernel_rfl

theorem act_in {v : Value} (hv : ∃ cs, v = .agg cs ∧ cs.size = Try.prog.cellsOf 35) (h : DataW.Trod enc Try.prog W base (fun _ => true) held 35 v d p) (hw : ∀ x ∈ d.weights Try.prog 35, x ≤ reachBytes) :
    ∃ V : ActV, v = .agg #[.int .i64 V.do_, .int .i64 V.at_, .slice V.x V.n V.c, .int .u8 (V.y : Int), .slice V.u V.l V.k] ∧ ActIn W V := by
  obtain ⟨cs, rfl, hcs⟩ := hv
  obtain ⟨fuel, hf⟩ := h
  rw [five_cells] at hcs
  obtain ⟨e0, e1, e2, e3, e4, rfl⟩ : ∃ e0 e1 e2 e3 e4, cs = #[e0, e1, e2, e3, e4] := by
    obtain ⟨l⟩ := cs
    match l, hcs with
    | [e0, e1, e2, e3, e4], _ => exact ⟨e0, e1, e2, e3, e4, rfl⟩
  obtain ⟨V, rfl, rfl, rfl, rfl, rfl, h1⟩ := act_cells hf hw
  exact ⟨V, rfl, h1⟩

theorem acts_open {fuel : Nat} {cs : List Value} (hf : DataW.trod enc Try.prog W base (fun _ => true) held fuel 22 cs = some (d, p)) :
    (cs = [.slice none 0 0] ∧ d = .nil) ∨
    ∃ (a : Addr) (len cap n : Nat) (DD : Nat → DataW H) (Pl : Nat → List MemPlace), cs = [.slice (some a) len cap] ∧ len ≤ cap ∧ d = .slice ((List.range len).map DD) ((List.range (cap - len)).map fun j => DD (len + j)) ∧
      ∀ i, i < cap → ∃ e0 e1 e2 e3 e4, W.cell? (a.add (i * 5)) = some e0 ∧ W.cell? (a.add (i * 5 + 1)) = some e1 ∧ W.cell? (a.add (i * 5 + 2)) = some e2 ∧ W.cell? (a.add (i * 5 + 3)) = some e3 ∧ W.cell? (a.add (i * 5 + 4)) = some e4 ∧ DataW.trod enc Try.prog W base (fun _ => true) held n 35 [e0, e1, e2, e3, e4] = some (DD i, Pl i) := by
  rcases open_slice Try.underlying22 hf with ⟨h1, h2⟩ | ⟨a, len, cap, m, n, DD, Pl, rfl, hb, hl, hm, hmm, hx, hcell⟩
  · simp only [Prod.mk.injEq] at h2
    exact .inl ⟨h1, h2.1⟩
  · simp only [if_true] at hmm
    subst hmm
    simp only [Prod.mk.injEq] at hx
    refine .inr ⟨a, len, m, n, DD, Pl, rfl, hl, hx.1, fun i hi => ?_⟩
    obtain ⟨cs', h1, h2⟩ := hcell i hi
    rw [five_cells] at h1
    obtain ⟨_, hlen, hc⟩ := World.cells?_some h1
    match cs', hlen with
    | [e0, e1, e2, e3, e4], _ =>
      have q0 := hc 0 (by omega)
      have q1 := hc 1 (by omega)
      have q2 := hc 2 (by omega)
      have q3 := hc 3 (by omega)
      have q4 := hc 4 (by omega)
      rw [add_add] at q0 q1 q2 q3 q4
      exact ⟨e0, e1, e2, e3, e4, by simpa using q0, by simpa using q1, by simpa using q2, by simpa using q3, by simpa using q4, h2⟩

def noAct : ActV := ⟨0, 0, none, 0, 0, fun _ => 0, 0, none, 0, 0, fun _ => false⟩

theorem acts_in {fuel : Nat} {cs : List Value} (hf : DataW.trod enc Try.prog W base (fun _ => true) held fuel 22 cs = some (d, p)) (hw : ∀ x ∈ d.weights Try.prog 22, x ≤ reachBytes) :
    ∃ a len cap V, cs = [.slice a len cap] ∧ ActsIn W a len cap V := by
  rcases acts_open hf with ⟨h1, _⟩ | ⟨a, len, cap, n, DD, Pl, h1, hl, rfl, hc⟩
  · exact ⟨none, 0, 0, fun _ => noAct, h1, Nat.le_refl _, fun _ => ⟨rfl, rfl⟩, by omega, .inl rfl, fun i hi => by omega⟩
  · have hb72 : Try.prog.bytesOf 35 = 72 := by kernel_rfl
    simp only [DataW.weights, Try.underlying22, List.mem_cons, List.mem_append, hb72] at hw
    have hw0 := hw _ (.inl rfl)
    simp only [List.length_map, List.length_range, reachBytes] at hw0
    haveI : Inhabited ActV := ⟨noAct⟩
    have each : ∀ i, i < len → ∃ v : ActV, W.cell? (a.add (i * 5)) = some (.int .i64 v.do_) ∧ W.cell? (a.add (i * 5 + 1)) = some (.int .i64 v.at_) ∧ W.cell? (a.add (i * 5 + 2)) = some (.slice v.x v.n v.c) ∧ W.cell? (a.add (i * 5 + 3)) = some (.int .u8 (v.y : Int)) ∧ W.cell? (a.add (i * 5 + 4)) = some (.slice v.u v.l v.k) ∧ ActIn W v := fun i hi => by
      obtain ⟨e0, e1, e2, e3, e4, g0, g1, g2, g3, g4, g5⟩ := hc i (by omega)
      obtain ⟨v, rfl, rfl, rfl, rfl, rfl, k⟩ := act_cells g5 (fun x hx => hw x (.inr (.inl (mem_weightsAll hx (List.mem_map.2 ⟨i, List.mem_range.2 hi, rfl⟩)))))
      exact ⟨v, g0, g1, g2, g3, g4, k⟩
    obtain ⟨V, hV⟩ := choose_lt each
    refine ⟨some a, len, cap, V, h1, hl, (fun h => by cases h), by omega, ?_, fun i hi => (hV i hi).2.2.2.2.2⟩
    by_cases h0 : len = 0
    · exact .inl h0
    · obtain ⟨b, off, spot⟩ := a
      have hspot : spot = none := by simpa [Addr.add] using World.cell?_spot (hV 0 (by omega)).1
      subst hspot
      refine .inr ⟨b, off, rfl, by simpa [Addr.add] using cell_lt' (hV 0 (by omega)).1, fun i hi => ?_⟩
      obtain ⟨h1, h2, h3, h4, h5, _⟩ := hV i hi
      rw [add_at] at h1 h2 h3 h4 h5
      exact ⟨h1, by simpa [Nat.add_assoc] using h2, by simpa [Nat.add_assoc] using h3, by simpa [Nat.add_assoc] using h4, by simpa [Nat.add_assoc] using h5⟩

end

end Go.Proofs.Ytaaeppbkbkfphaa
