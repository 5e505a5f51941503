/-
  Bytes that are turned one by one.
  Conditions: none.
-/
import Derived.Test.YtlfeafbpknbbfaaBaAwake
namespace Go.Proofs.Ytlfeafbpknbbfaa.Ba
open Go.RowKit By Fl
set_option linter.unusedVariables false
set_option linter.unusedSimpArgs false
set_option maxRecDepth 100000

def atB (g : Nat) : Nat → Prop := fun k => k = g

structure Bm (w0 w : World) (g n : Nat) (d : List Nat) (i : Nat) : Prop where
  turns : Turns (atB g) w0 w
  rest : ∀ j, i ≤ j → j < n → w.cell? ⟨g, j, none⟩ = some (.int .u8 (gl d j : Int)) ∧ w.frozen? ⟨g, j, none⟩ = false

theorem Bm.start {w : World} {g n c : Nat} {d : List Nat} (h : Sl w (some ⟨g, 0, none⟩) n c d) (hf : ∀ j, w.frozen? ⟨g, j, none⟩ = false) : Bm w w g n d 0 := by
  refine ⟨Turns.refl _ _, fun j _ hj => ?_⟩
  rcases h.row with h0 | ⟨b, o, e, _, hc⟩
  · omega
  · injection e with e
    injection e with e1 e2 _
    subst e1
    subst e2
    have := hc j hj
    rw [Nat.zero_add] at this
    exact ⟨this, hf j⟩

theorem Bm.step {w0 w : World} {n g : Nat} {d : List Nat} {i : Nat} (h : Bm w0 w g n d i) (u : Value) : Bm w0 (w.setCell ⟨g, i, none⟩ u) g n d (i + 1) := by
  refine ⟨h.turns.setCell (p := ⟨g, i, none⟩) (.inl rfl) u, fun j hj hn => ?_⟩
  obtain ⟨h1, h2⟩ := h.rest j (by omega) hn
  refine ⟨(World.cell?_setCell_other _ _ _ _ (fun e => ?_)).trans h1, ?_⟩
  · injection e with _ e _
    omega
  · rw [World.frozen?_setCell]
    exact h2

theorem keept {G : Nat → Prop} {w v : World} {b o : Nat} {x : Value} (t : Turns G w v) (hb : ¬ G b) (h : w.cell? ⟨b, o, none⟩ = some x) : v.cell? ⟨b, o, none⟩ = some x :=
  (World.cell?_of_block (a := ⟨b, o, none⟩) (t.block b (cell_lt' h) hb)).trans h

theorem keeptf {G : Nat → Prop} {w v : World} {b o : Nat} (t : Turns G w v) (hb : ¬ G b) (hlt : b < w.heap.size) (h : w.frozen? ⟨b, o, none⟩ = false) : v.frozen? ⟨b, o, none⟩ = false := by
  rw [← h]
  unfold World.frozen?
  rw [t.block b hlt hb]

theorem keepn {g : Nat} {w v : World} {b o : Nat} {x : Value} (t : Turns (atB g) w v) (hb : b ≠ g) (h : w.cell? ⟨b, o, none⟩ = some x) : v.cell? ⟨b, o, none⟩ = some x := keept t hb h
theorem keepnf {g : Nat} {w v : World} {b o : Nat} (t : Turns (atB g) w v) (hb : b ≠ g) (hlt : b < w.heap.size) (h : w.frozen? ⟨b, o, none⟩ = false) : v.frozen? ⟨b, o, none⟩ = false := keeptf t hb hlt h

end Go.Proofs.Ytlfeafbpknbbfaa.Ba
