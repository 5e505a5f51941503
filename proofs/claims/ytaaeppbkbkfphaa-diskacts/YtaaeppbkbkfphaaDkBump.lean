/-
  Bytes that are turned one by one; bytes as text behind calls.
  Conditions: none.
-/
import Derived.Test.YtaaeppbkbkfphaaDkAwake
namespace Go.Proofs.Ytaaeppbkbkfphaa
open Go.RowKit By Dk
set_option linter.unusedVariables false
set_option linter.unusedSimpArgs false

def Bump (w : World) (g n : Nat) : Prop := ∀ i, i < n → (∃ Z : Int, w.cell? ⟨g, i, none⟩ = some (.int .u8 Z)) ∧ w.frozen? ⟨g, i, none⟩ = false

theorem Bump.set {w : World} {g n : Nat} (h : Bump w g n) (k : Nat) (T : Int) : Bump (w.setCell ⟨g, k, none⟩ (.int .u8 T)) g n := fun i hi => by
  obtain ⟨⟨Z, h1⟩, h2⟩ := h i hi
  refine ⟨?_, by simpa using h2⟩
  by_cases e : i = k
  · subst e
    exact ⟨T, World.cell?_setCell_same _ _ _ h1⟩
  · exact ⟨Z, (World.cell?_setCell_other _ _ _ _ (fun h => e (by injection h with _ h2 _; exact h2.symm))).trans h1⟩

theorem Bump.blk {w : World} {g n : Nat} {f : Nat → Nat} (h : Blk w g 5 n (fun i => .int .u8 (f i : Int))) : Bump w g n := fun i hi => ⟨⟨_, h.cell hi⟩, h.frozen i⟩

theorem Bump.own {w : World} {base g n c : Nat} {f : Nat → Nat} (h : w.ownsRow base 5 1 (.slice (some ⟨g, 0, none⟩) n c) n (bytesOf f n)) : Bump w g n := fun i hi => by
  refine ⟨⟨(f i : Int), ?_⟩, ?_⟩
  · rw [h.cellAt i (by omega)]
    simp [bytesOf, hi]
  · rcases h.2 with ⟨hv, _⟩ | ⟨g', cap, cur, hv, _, hh, _⟩
    · cases hv
    · injection hv with e1 _ _
      injection e1 with e1
      injection e1 with e1 _ _
      subst e1
      simp [World.frozen?, hh]

theorem Turns.far {F : Nat → Prop} {a b : World} {g n : Nat} {t : TypeId} {v : Nat → Value} (h : Turns F a b) (k : Blk a g t n v) (hF : ∀ i, F i → i < g) : Blk b g t n v := h.blk k (fun e => by have := hF g e; omega)

theorem now_zero (f A : Nat → Nat) (D : Nat → Nat → Nat) (k : Nat) : now f A D k 0 = sec f k := by simp [now, last]

end Go.Proofs.Ytaaeppbkbkfphaa
