/-
  What the laws' own awake answers: true.
  Conditions: none.
-/
import Derived.Test.YtmlaloadeeohbaaMxInvert
namespace Go.Proofs.Ytmlaloadeeohbaa
open Go.RowKit Gf
set_option linter.unusedVariables false

theorem red_two : (red 1 (aug (fun _ _ => 2) 1) 1).1 = 1 ∧ (red 1 (aug (fun _ _ => 2) 1) 1).2 0 (1 + 0) = 142 := by decide +kernel

theorem inverse_two (w : World) : Calls Try.prog 45 #[.slice (some ⟨w.heap.size + 1, 0, none⟩) 1 1] ((w.alloc (.cells #[.int .u8 2] 5)).alloc (.cells #[.slice (some ⟨w.heap.size, 0, none⟩) 1 1] 22)) fun e w' =>
    ∃ B g c, e = .returned (.tuple #[.slice (some ⟨B, 0, none⟩) 1 1, .int .i64 0]) ∧ Below w.heap.size w w' ∧ w'.cell? ⟨B, 0, none⟩ = some (.slice (some ⟨g, 0, none⟩) 1 c) ∧ w'.cell? ⟨g, 0, none⟩ = some (.int .u8 142) := by
  have r1 : (w.alloc (.cells #[.int .u8 2] 5)).rowIs w.heap.size 5 1 (fun _ => .int .u8 2) := World.rowIs_alloc w _ _ _ (fun i hi => by
    have : i = 0 := by simpa using hi
    subst this; rfl)
  have r2 := World.rowIs_alloc (w.alloc (.cells #[.int .u8 2] 5)) #[.slice (some ⟨w.heap.size, 0, none⟩) 1 1] 22 (fun _ => .slice (some ⟨w.heap.size, 0, none⟩) 1 1) (fun i hi => by
    have : i = 0 := by simpa using hi
    subst this; rfl)
  have r3 := r1.alloc (.cells #[.slice (some ⟨w.heap.size, 0, none⟩) 1 1] 22)
  have e1 : (w.alloc (.cells #[.int .u8 2] 5)).heap.size = w.heap.size + 1 := by simp
  rw [e1] at r2
  have hM : Mat ((w.alloc (.cells #[.int .u8 2] 5)).alloc (.cells #[.slice (some ⟨w.heap.size, 0, none⟩) 1 1] 22)) (w.heap.size + 1) 0 1 1 (fun _ => w.heap.size) (fun _ => 0) (fun _ => 1) (fun _ _ => 2) :=
    ⟨r2.lt, fun r hr => r3.lt, fun r hr => by rw [Nat.zero_add]; exact r2.cell hr, fun r hr j hj => by rw [Nat.zero_add]; exact r3.cell hj, fun _ _ => by omega⟩
  refine (inverse_any (w.heap.size + 1) 0 1 1 _ _ _ _ _ hM (by omega) (by omega)).mono fun e w' h => ?_
  have hb : Below w.heap.size w w' := (((Below.refl _ _).alloc (Nat.le_refl _) _).alloc (by simp) _).trans (h.1.mono (by simp; omega))
  rcases h.2 with ⟨h1, _⟩ | ⟨_, B, G, C, he, ho⟩
  · rw [red_two.1] at h1; omega
  · refine ⟨B, G 0, C 0, he, hb, ho.top 0 (by omega), ?_⟩
    rw [ho.cell 0 (by omega) 0 (by omega), red_two.2]; rfl

end Go.Proofs.Ytmlaloadeeohbaa
