/-
  What scale of package matrix does: a contract over plain numbers.
  Conditions: no more than 1000 columns; the row lies in memory and may be written.
-/
import Derived.Test.YtmlaloadeeohbaaMxMem
namespace Go.Proofs.Ytmlaloadeeohbaa
open Go.RowKit Gf
set_option linter.unusedVariables false

structure Scaled (g m c : Nat) (f : Nat → Nat) (w wr : World) (k : Nat) : Prop where
  touch : Touch g w wr
  frozen : ∀ j, wr.frozen? ⟨g, j, none⟩ = false
  cell : ∀ j, j < m → wr.cell? ⟨g, j, none⟩ = some (.int .u8 ((if j < k then tmul (f j) (tinv (f c)) else f j : Nat) : Int))

theorem scaled_step {g m c : Nat} {f : Nat → Nat} {w wr : World} {k : Nat} (h : Scaled g m c f w wr k) (hk : k < m) :
    Scaled g m c f w (wr.setCell ⟨g, k, none⟩ (.int .u8 ((tmul (f k) (tinv (f c)) : Nat) : Int))) (k + 1) := by
  refine ⟨h.touch.setCell rfl _, fun j => by simpa using h.frozen j, fun j hj => ?_⟩
  by_cases e : j = k
  · subst e; rw [World.cell?_setCell_same _ _ _ (h.cell j hj)]; simp
  · rw [World.cell?_setCell_other _ _ _ _ (fun h => e (by injection h with _ h2 _; exact h2.symm)), h.cell j hj]
    by_cases hlt : j < k
    · rw [if_pos hlt, if_pos (by omega)]
    · rw [if_neg hlt, if_neg (by omega)]

set_option maxHeartbeats 1000000 in
set_option maxRecDepth 100000 in
theorem scale_any (g m cp c : Nat) (f : Nat → Nat) (w : World) (hm : m ≤ 1000) (hc : c < m) (hf : ∀ i, f i < 256) (hnz : f c ≠ 0) (hfr : ∀ j, w.frozen? ⟨g, j, none⟩ = false)
    (hcell : ∀ j, j < m → w.cell? ⟨g, j, none⟩ = some (.int .u8 (f j : Int))) :
    Calls Try.prog 57 #[.slice (some ⟨g, 0, none⟩) m cp, .int .i64 c] w fun e w' => e = .returned (.tuple #[]) ∧ Scaled g m c f w w' m := by
  have h1 := hcell c hc
  have hfc := hf c
  have hcm : (c : Int) < (m : Int) := by omega
  obtain ⟨t, ht⟩ : ∃ t, t = tinv (f c) := ⟨_, rfl⟩
  have htl : t < 256 := by rw [ht]; exact tinv_lt _
  have HT : Hid (t = tinv (f c)) := ht
  have hinv : ∀ w, Calls Try.prog 43 #[.int .u8 (f c : Int)] w fun e w' => e = .returned (.tuple #[.int .u8 (t : Int), .bool true]) ∧ w' = w := by
    intro w
    have := inv_any (f c) w hfc
    rw [show (f c != 0) = true by simp [hnz], ← ht] at this
    exact this
  clear ht
  go_enter Try.func57, Try.ntmps57
  go_wp2_with (go_at_call 43; refine (hinv _).mono ?_; rintro e w' ⟨rfl, rfl⟩)
  clear hinv
  have hw0 := Touch.refl g w'
  clear h1 hnz
  go_loopw [17] (fun i wr => ∃ k : Nat, k ≤ m ∧ i = .int .i64 k ∧ Hid (Scaled g m c f w' wr k)) (fun i _ => m - (intOf i).toNat)
  case atStart => exact ⟨0, by omega, rfl, ⟨hw0, hfr, fun j hj => by simpa using hcell j hj⟩⟩
  case round =>
    obtain ⟨k, hk, rfl, HW⟩ := hrel
    clear hw0
    by_cases hlt : k < m
    · have hkm : (k : Int) < (m : Int) := by omega
      have h1 : wr.cell? ⟨g, k, none⟩ = some (.int .u8 (f k : Int)) := by simpa using HW.out.cell k hlt
      have h2 := HW.out.frozen k
      have hfk := hf k
      have HS : Hid (Scaled g m c f w' (wr.setCell ⟨g, k, none⟩ (.int .u8 ((tmul (f k) t : Nat) : Int))) (k + 1)) := by
        have := scaled_step HW.out hlt
        rw [← HT.out] at this
        exact ⟨this.touch, this.frozen, this.cell⟩
      clear hf hfr hcell HW
      go_wp2_with (go_at_call 47; refine (mul_any _ _ _ hfk htl).mono ?_; rintro e w' ⟨rfl, rfl⟩)
      go_roundw
      case rel => exact ⟨k + 1, by omega, by go_num, HS⟩
      case measure => simp [intOf]; omega
    · have hk2 : k = m := by omega
      subst hk2
      clear hf hfr hcell
      go_wp2_with fail
      go_end0
      exact ⟨rfl, HW.out⟩

end Go.Proofs.Ytmlaloadeeohbaa
