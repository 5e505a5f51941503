/-
  The built-in copy between rows of bytes, as a law for the walk.
  Conditions: both rows lie in memory; the first may be written.
-/
import Derived.Test.YtmlaloadeeohbaaMxMem
import Derived.Laws.IdiomCopy
namespace Go.Proofs.Ytmlaloadeeohbaa
open Go.RowKit Gf
set_option linter.unusedVariables false

theorem heap_setCells_other (g : Nat) : ∀ (vs : List Value) (o : Nat) (w : World) (k : Nat), k ≠ g → (w.setCells g o vs).heap[k]? = w.heap[k]?
  | [], o, w, k, h => rfl
  | v :: vs, o, w, k, h => by
    show ((w.setCell ⟨g, o, none⟩ v).setCells g (o + 1) vs).heap[k]? = _
    rw [heap_setCells_other g vs (o + 1) _ k h, Below.heap_setCell _ _ _ _ h]

theorem touch_setCells (g : Nat) : ∀ (vs : List Value) (o : Nat) (w : World), Touch g w (w.setCells g o vs)
  | [], o, w => Touch.refl _ _
  | v :: vs, o, w => ((Touch.refl g w).setCell (p := ⟨g, o, none⟩) rfl v).trans (touch_setCells g vs (o + 1) _)

structure Copied (g off k : Nat) (f : Nat → Nat) (w w' : World) : Prop where
  touch : Touch g w w'
  frozen : ∀ j, w'.frozen? ⟨g, j, none⟩ = false
  cell : ∀ j, j < k → w'.cell? ⟨g, off + j, none⟩ = some (.int .u8 (f j : Int))
  old : ∀ j, (j < off ∨ off + k ≤ j) → w'.cell? ⟨g, j, none⟩ = w.cell? ⟨g, j, none⟩

theorem elem_row : Try.prog.underlying 22 = some (.slice (Try.prog.elem 22)) := by kernel_rfl
theorem elem_is : Try.prog.elem 22 = 5 := by kernel_rfl

/- A row from a place on. -/
theorem cut_row (g o m c d : Nat) (w : World) (h1 : d ≤ m) (h2 : d < c) :
    (Instr.slice 22 (.slice (some ⟨g, o, none⟩) m c) (some (.int .i64 (d : Int))) none none).run Try.prog w = .ok (.slice (some ⟨g, o + d, none⟩) (m - d) (c - d)) w := by
  rw [run_slice_l w 22 _ _ _ elem_row .i64 (d : Int) (by omega) (by omega), elem_is, size_byte]
  simp only [Result.andThen, sliced, Int.toNat_natCast, Nat.mul_one, Option.map]
  rw [if_neg (by omega)]
  have hadd : (⟨g, o, none⟩ : Addr).add d = ⟨g, o + d, none⟩ := by unfold Addr.add; split <;> simp_all
  rw [hadd]

theorem copy_run (w : World) (ty : TypeId) (g off dLen dCap sb so sLen sCap : Nat) (f : Nat → Nat) (k : Nat) (hk : k = Nat.min sLen dLen)
    (hsrc : ∀ j, j < k → w.cell? ⟨sb, so + j, none⟩ = some (.int .u8 (f j : Int))) (hdst : ∀ j, j < k → (w.cell? ⟨g, off + j, none⟩).isSome = true) (hfr : ∀ j, w.frozen? ⟨g, j, none⟩ = false) :
    ∃ w1, (Builtin.copy_ #[22, 22] ty #[.slice (some ⟨g, off, none⟩) dLen dCap, .slice (some ⟨sb, so, none⟩) sLen sCap]).run Try.prog w = .ok (.int .i64 (k : Int)) w1 ∧ Copied g off k f w w1 := by
  have hlen : ((List.range k).map fun j => Value.int .u8 (f j : Int)).length = k := by simp
  have hsz : (Try.prog.info? 5).map (·.size) = some 1 := by kernel_rfl
  have hrun := run_copy_cells (P := Try.prog) w 22 22 ty 5 g off dLen dCap ⟨sb, so, none⟩ sLen sCap ((List.range k).map fun j => Value.int .u8 (f j : Int)) Try.underlying22 hsz (by rw [hlen]; exact hk)
    (fun j v hv => by
      have hj : j < k := by
        have := (List.getElem?_eq_some_iff.1 hv).1
        simpa using this
      have e : v = .int .u8 (f j : Int) := by simp [hj] at hv; exact hv.symm
      rw [e]
      have hadd : (⟨sb, so, none⟩ : Addr).add j = ⟨sb, so + j, none⟩ := by unfold Addr.add; split <;> simp_all
      rw [hadd]
      exact hsrc j hj)
    (fun j hj => hdst j (by rw [hlen] at hj; exact hj)) (fun j _ => hfr _) (fun v hv => by
      simp at hv
      obtain ⟨j, _, rfl⟩ := hv
      rfl)
  rw [hlen] at hrun
  refine ⟨_, hrun, ⟨touch_setCells _ _ _ _, fun j => by rw [World.frozen?_setCells]; exact hfr j, fun j hj => ?_, fun j hj => ?_⟩⟩
  · rw [World.cell?_setCells_in g _ off w (fun i hi => hdst i (by rw [hlen] at hi; exact hi)) j (by rw [hlen]; exact hj)]
    simp
  · rw [World.cell?_setCells_out g _ off w _ (fun _ _ => by rw [hlen]; exact hj)]

end Go.Proofs.Ytmlaloadeeohbaa
