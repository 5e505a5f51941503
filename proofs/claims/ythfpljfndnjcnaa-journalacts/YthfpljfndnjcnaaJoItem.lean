/-
  What a law is told of a list of Acts that came in, with their reach.
  Conditions: none.
-/
import Derived.Test.YthfpljfndnjcnaaDkCrash
import Derived.Deep.Slices
namespace Go.Proofs.Ythfpljfndnjcnaa
open Go.RowKit Go.ChangeShapes Go.WideShapes Go.Deep By
set_option linter.unusedVariables false
set_option linter.unusedSimpArgs false

theorem mem_weightsAll {H : Type} {P : Program} {e : TypeId} {d : DataW H} {n : Nat} (hn : n ∈ d.weights P e) : ∀ {ds : List (DataW H)}, d ∈ ds → n ∈ DataW.weightsAll P e ds
  | d0 :: ds, h => by
    simp only [DataW.weightsAll, List.mem_append]
    rcases List.mem_cons.1 h with h | h
    · subst h; exact .inl hn
    · exact .inr (mem_weightsAll hn h)

structure BoolsIn (w : World) (a : Option Addr) (len cap : Nat) (h : Nat → Bool) : Prop where
  row : BoolsAt w a len h
  le : len ≤ cap
  small : len ≤ 140737488351232
  nil : a = none → len = 0 ∧ cap = 0

structure ActV where
  do_ : Int
  x : Option Addr
  n : Nat
  c : Nat
  f : Nat → Nat
  u : Option Addr
  l : Nat
  k : Nat
  h : Nat → Bool

structure ActIn (w : World) (v : ActV) : Prop where
  hdo : (Lit.int .i64 v.do_).wf = true
  bytes : BytesIn w v.x v.n v.c v.f
  cut : BoolsIn w v.u v.l v.k v.h

structure ActsIn (w : World) (a : Option Addr) (len cap : Nat) (V : Nat → ActV) : Prop where
  le : len ≤ cap
  nil : a = none → len = 0 ∧ cap = 0
  small : len ≤ 140737488351232
  row : len = 0 ∨ ∃ b o, a = some ⟨b, o, none⟩ ∧ b < w.heap.size ∧ ∀ i, i < len → w.cell? ⟨b, o + i * 3, none⟩ = some (.int .i64 (V i).do_) ∧ w.cell? ⟨b, o + i * 3 + 1, none⟩ = some (.slice (V i).x (V i).n (V i).c) ∧ w.cell? ⟨b, o + i * 3 + 2, none⟩ = some (.slice (V i).u (V i).l (V i).k)
  act : ∀ i, i < len → ActIn w (V i)

section
variable {H : Type} {enc : TypeId × Value → H} {W : World} {base : Nat} {held : Bool} {d : DataW H} {p : List MemPlace}

theorem bools_in {fuel : Nat} {cs : List Value} (hf : DataW.trod enc Try.prog W base (fun _ => true) held fuel 32 cs = some (d, p)) (hw : ∀ x ∈ d.weights Try.prog 32, x ≤ reachBytes) :
    ∃ a len cap h, cs = [.slice a len cap] ∧ BoolsIn W a len cap h := by
  rcases open_bools Try.underlying32 Try.underlying4 (by kernel_rfl) hf with ⟨hcs, _⟩ | ⟨x, len, cap, B, hcs, _, hl, hm, hx, hcell⟩
  · exact ⟨none, 0, 0, fun _ => false, hcs, .inl rfl, Nat.le_refl _, by omega, fun _ => ⟨rfl, rfl⟩⟩
  · simp only [Prod.mk.injEq] at hx
    have hd := hx.1
    subst hd
    have hb1 : Try.prog.bytesOf 4 = 1 := by kernel_rfl
    simp only [boolRow, DataW.weights, Try.underlying32, List.mem_cons, hb1] at hw
    have hw0 := hw _ (.inl rfl)
    simp only [List.length_map, List.length_range, reachBytes] at hw0
    refine ⟨some x, len, cap, B, hcs, ?_, hl, by omega, fun h => by cases h⟩
    by_cases h0 : len = 0
    · exact .inl h0
    · obtain ⟨b, off, spot⟩ := x
      have hspot : spot = none := by simpa [Addr.add] using World.cell?_spot (hcell 0 (by omega))
      subst hspot
      refine .inr ⟨b, off, rfl, cell_lt' (hcell 0 (by omega)), fun i hi => ?_⟩
      have := hcell i (by omega)
      rwa [add_at] at this

theorem act_cells {fuel : Nat} {e0 e1 e2 : Value} (hf : DataW.trod enc Try.prog W base (fun _ => true) held fuel 34 [e0, e1, e2] = some (d, p)) (hw : ∀ x ∈ d.weights Try.prog 34, x ≤ reachBytes) :
    ∃ v : ActV, e0 = .int .i64 v.do_ ∧ e1 = .slice v.x v.n v.c ∧ e2 = .slice v.u v.l v.k ∧ ActIn W v := by
  have c3 : Try.prog.cellsOf 3 = 1 := by kernel_rfl
  have c22 : Try.prog.cellsOf 31 = 1 := by kernel_rfl
  have c33 : Try.prog.cellsOf 32 = 1 := by kernel_rfl
  obtain ⟨xs, n, _, hx, _, hxl, hF⟩ := DataW.trod_struct Try.underlying34 hf
  simp only [Prod.mk.injEq] at hx
  obtain ⟨hd, _⟩ := hx
  subst hd
  obtain ⟨x0, x1, x2, rfl⟩ : ∃ x0 x1 x2, xs = [x0, x1, x2] := by
    match xs, hxl with
    | [x0, x1, x2], _ => exact ⟨x0, x1, x2, rfl⟩
  have f0' : DataW.trod enc Try.prog W base (fun _ => true) held n 3 (([e0, e1, e2].drop 0).take (Try.prog.cellsOf 3)) = some x0 := hF 0 _ rfl
  rw [c3] at f0'
  have f0 : DataW.trod enc Try.prog W base (fun _ => true) held n 3 [e0] = some x0 := f0'
  have f1' : DataW.trod enc Try.prog W base (fun _ => true) held n 31 (([e0, e1, e2].drop 1).take (Try.prog.cellsOf 31)) = some x1 := hF 1 _ rfl
  rw [c22] at f1'
  have f1 : DataW.trod enc Try.prog W base (fun _ => true) held n 31 [e1] = some (x1.1, x1.2) := f1'
  have f2' : DataW.trod enc Try.prog W base (fun _ => true) held n 32 (([e0, e1, e2].drop 2).take (Try.prog.cellsOf 32)) = some x2 := hF 2 _ rfl
  rw [c33] at f2'
  have f2 : DataW.trod enc Try.prog W base (fun _ => true) held n 32 [e2] = some (x2.1, x2.2) := f2'
  obtain ⟨D, d1, _, d3⟩ := DataW.trod_int Try.underlying3 f0
  simp at d1
  subst d1
  simp only [DataW.weights, Try.underlying34] at hw
  obtain ⟨a, len, cap, f, g1, g2⟩ := bytes_in f1 (fun x hx => hw x (DataW.weights_mem_each (j := 1) (t := 31) rfl rfl x hx))
  obtain ⟨a', len', cap', h', g1', g2'⟩ := bools_in f2 (fun x hx => hw x (DataW.weights_mem_each (j := 2) (t := 32) rfl rfl x hx))
  simp at g1 g1'
  exact ⟨⟨D, a, len, cap, f, a', len', cap', h'⟩, rfl, g1, g1', ⟨d3, g2, g2'⟩⟩

theorem three_cells : Try.prog.cellsOf 34 = 3 := by kernel_rfl

theorem acts_open {fuel : Nat} {cs : List Value} (hf : DataW.trod enc Try.prog W base (fun _ => true) held fuel 22 cs = some (d, p)) :
    (cs = [.slice none 0 0] ∧ d = .nil) ∨
    ∃ (a : Addr) (len cap n : Nat) (DD : Nat → DataW H) (Pl : Nat → List MemPlace), cs = [.slice (some a) len cap] ∧ len ≤ cap ∧ d = .slice ((List.range len).map DD) ((List.range (cap - len)).map fun j => DD (len + j)) ∧
      ∀ i, i < cap → ∃ e0 e1 e2, W.cell? (a.add (i * 3)) = some e0 ∧ W.cell? (a.add (i * 3 + 1)) = some e1 ∧ W.cell? (a.add (i * 3 + 2)) = some e2 ∧ DataW.trod enc Try.prog W base (fun _ => true) held n 34 [e0, e1, e2] = some (DD i, Pl i) := by
  rcases open_slice Try.underlying22 hf with ⟨h1, h2⟩ | ⟨a, len, cap, m, n, DD, Pl, rfl, hb, hl, hm, hmm, hx, hcell⟩
  · simp only [Prod.mk.injEq] at h2
    exact .inl ⟨h1, h2.1⟩
  · simp only [if_true] at hmm
    subst hmm
    simp only [Prod.mk.injEq] at hx
    refine .inr ⟨a, len, m, n, DD, Pl, rfl, hl, hx.1, fun i hi => ?_⟩
    obtain ⟨cs', h1, h2⟩ := hcell i hi
    rw [three_cells] at h1
    obtain ⟨_, hlen, hc⟩ := World.cells?_some h1
    match cs', hlen with
    | [e0, e1, e2], _ =>
      have q0 := hc 0 (by omega)
      have q1 := hc 1 (by omega)
      have q2 := hc 2 (by omega)
      rw [add_add] at q0 q1 q2
      exact ⟨e0, e1, e2, by simpa using q0, by simpa using q1, by simpa using q2, h2⟩

def noAct : ActV := ⟨0, none, 0, 0, fun _ => 0, none, 0, 0, fun _ => false⟩

theorem acts_in {fuel : Nat} {cs : List Value} (hf : DataW.trod enc Try.prog W base (fun _ => true) held fuel 22 cs = some (d, p)) (hw : ∀ x ∈ d.weights Try.prog 22, x ≤ reachBytes) :
    ∃ a len cap V, cs = [.slice a len cap] ∧ ActsIn W a len cap V := by
  rcases acts_open hf with ⟨h1, _⟩ | ⟨a, len, cap, n, DD, Pl, h1, hl, rfl, hc⟩
  · exact ⟨none, 0, 0, fun _ => noAct, h1, Nat.le_refl _, fun _ => ⟨rfl, rfl⟩, by omega, .inl rfl, fun i hi => by omega⟩
  · have hb56 : Try.prog.bytesOf 34 = 56 := by kernel_rfl
    simp only [DataW.weights, Try.underlying22, List.mem_cons, List.mem_append, hb56] at hw
    have hw0 := hw _ (.inl rfl)
    simp only [List.length_map, List.length_range, reachBytes] at hw0
    haveI : Inhabited ActV := ⟨noAct⟩
    have each : ∀ i, i < len → ∃ v : ActV, W.cell? (a.add (i * 3)) = some (.int .i64 v.do_) ∧ W.cell? (a.add (i * 3 + 1)) = some (.slice v.x v.n v.c) ∧ W.cell? (a.add (i * 3 + 2)) = some (.slice v.u v.l v.k) ∧ ActIn W v := fun i hi => by
      obtain ⟨e0, e1, e2, g0, g1, g2, g5⟩ := hc i (by omega)
      obtain ⟨v, rfl, rfl, rfl, k⟩ := act_cells g5 (fun x hx => hw x (.inr (.inl (mem_weightsAll hx (List.mem_map.2 ⟨i, List.mem_range.2 hi, rfl⟩)))))
      exact ⟨v, g0, g1, g2, k⟩
    obtain ⟨V, hV⟩ := choose_lt each
    refine ⟨some a, len, cap, V, h1, hl, (fun h => by cases h), by omega, ?_, fun i hi => (hV i hi).2.2.2⟩
    by_cases h0 : len = 0
    · exact .inl h0
    · obtain ⟨b, off, spot⟩ := a
      have hspot : spot = none := by simpa [Addr.add] using World.cell?_spot (hV 0 (by omega)).1
      subst hspot
      refine .inr ⟨b, off, rfl, by simpa [Addr.add] using cell_lt' (hV 0 (by omega)).1, fun i hi => ?_⟩
      obtain ⟨h1, h2, h3, _⟩ := hV i hi
      rw [add_at] at h1 h2 h3
      exact ⟨h1, by simpa [Nat.add_assoc] using h2, by simpa [Nat.add_assoc] using h3⟩

end

end Go.Proofs.Ythfpljfndnjcnaa
