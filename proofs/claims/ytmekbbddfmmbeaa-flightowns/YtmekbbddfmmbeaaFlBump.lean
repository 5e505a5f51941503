/-
  Bytes that are turned one by one; a flight beside them.
  Conditions: none.
-/
import Derived.Test.YtmekbbddfmmbeaaFlAwake
namespace Go.Proofs.Ytmekbbddfmmbeaa.Fl
open Go.RowKit By
set_option linter.unusedVariables false
set_option linter.unusedSimpArgs false
set_option maxRecDepth 100000

def atB (y : Option Addr) : Nat → Prop := fun k => ∃ a, y = some a ∧ k = a.block

structure Bm (w0 w : World) (y : Option Addr) (n : Nat) (d : List Nat) (i : Nat) : Prop where
  turns : Turns (atB y) w0 w
  rest : ∀ j, i ≤ j → j < n → ∃ g, y = some ⟨g, 0, none⟩ ∧ w.cell? ⟨g, j, none⟩ = some (.int .u8 (gl d j : Int)) ∧ w.frozen? ⟨g, j, none⟩ = false

theorem Bm.start {w : World} {y : Option Addr} {n c : Nat} {d : List Nat} (h : Sl w y n c d) (hf : ∀ a, y = some a → (∀ j, w.frozen? ⟨a.block, j, none⟩ = false) ∧ a = ⟨a.block, 0, none⟩) : Bm w w y n d 0 := by
  refine ⟨Turns.refl _ _, fun j _ hj => ?_⟩
  rcases h.row with h0 | ⟨b, o, rfl, _, hc⟩
  · omega
  · obtain ⟨h1, h2⟩ := hf _ rfl
    injection h2 with _ h2 _
    subst h2
    have := hc j hj
    rw [Nat.zero_add] at this
    exact ⟨b, rfl, this, h1 j⟩

theorem Bm.step {w0 w : World} {n g : Nat} {d : List Nat} {i : Nat} (h : Bm w0 w (some ⟨g, 0, none⟩) n d i) (u : Value) : Bm w0 (w.setCell ⟨g, i, none⟩ u) (some ⟨g, 0, none⟩) n d (i + 1) := by
  refine ⟨h.turns.setCell (p := ⟨g, i, none⟩) (.inl ⟨_, rfl, rfl⟩) u, fun j hj hn => ?_⟩
  obtain ⟨g', e, h1, h2⟩ := h.rest j (by omega) hn
  cases e
  refine ⟨g, rfl, (World.cell?_setCell_other _ _ _ _ (fun e => ?_)).trans h1, ?_⟩
  · injection e with _ e _
    omega
  · rw [World.frozen?_setCell]
    exact h2

theorem Bm.drew {w0 w : World} {y : Option Addr} {n : Nat} {d : List Nat} {i : Nat} (h : Bm w0 w y n d i) : Bm w0 w.drew y n d i := ⟨h.turns.drew, h.rest⟩

theorem FlAt.bump {w w' : World} {B p mb nb : Nat} {D : DataW Value} {R : Value} {L : List MV} {S : Int → Int → Bool} (h : FlAt w B p mb nb D R L S) {y : Option Addr} (t : Turns (atB y) w w') (hy : ∀ a, y = some a → Tb w a.block 5) (hd : ∀ m ∈ L, ∀ a a', m.x = some a → y = some a' → a.block ≠ a'.block) : FlAt w' B p mb nb D R L S := by
  refine h.turns t (fun ⟨a, e1, e2⟩ => ?_) (fun ⟨a, e1, e2⟩ => ?_) (fun g hg ⟨a, e1, e2⟩ => ?_) (fun m hm a ha ⟨a', e1, e2⟩ => hd m hm a a' ha e1 e2)
  · have h1 := hy a e1
    rw [← e2] at h1
    have := h1.same h.obj.tb
    revert this
    decide
  · have h1 := hy a e1
    rw [← e2] at h1
    exact h1.not_map (map_lt h.map).2
  · have h1 := hy a e1
    rw [← e2] at h1
    have := h1.same (h.own.tb hg).2
    revert this
    decide

end Go.Proofs.Ytmekbbddfmmbeaa.Fl
