/-
  Of any bytes package sum tells all but the last four, and true, just if these are their sum, else false: 'mooringlaw04.SumStrips' returns true and leaves its argument as it was.
  Conditions: none.
-/
import Derived.Test.YthfdfebeemakkaaRows
import Derived.WalkKit
import Derived.ProofKit
import Derived.OpenShut
import Derived.SizedLaws
import Derived.ShutString
import Derived.ChangeOld
import Derived.Below
import Derived.Test.YthfdfebeemakkaaByRows
import Derived.Test.YthfdfebeemakkaaSuStrip
import Derived.Deep.RegionHeld3
namespace Go.Proofs.Ythfdfebeemakkaa.sumStrips
open Go.ChangeShapes Go.WideShapes Go.ChangeAt Go.RowKit By
open Su
set_option linter.unusedVariables false
set_option linter.unusedSimpArgs false

theorem own : ownKnob Try.prog.godebug = none := by kernel_rfl
theorem laidOut : laidOutB Try.prog = true := by kernel_rfl

theorem short (x : Option Addr) (n c : Nat) (w : World) (hn : n < 4) :
    Calls Try.prog 5 #[.slice x n c] w fun e w' => e = .returned (.bool true) ∧ Below w.heap.size w w' := by
  have hs := strip_short n c x w hn
  have g0 : decide ((n : Int) - 4 < 0) = true := by simp; omega
  go_enter Try.func5, Try.ntmps5
  go_wp2_with (go_at_call 9; refine hs.mono ?_; rintro e w' ⟨rfl, rfl⟩; clear hs)
  go_quiet (fail)
  go_wp2_with (go_at_call 12; refine (awake_any _).mono ?_; rintro e x6 ⟨rfl, hb6⟩)
  go_ret
  exact ⟨rfl, below_of_drewN hb6⟩

theorem below_drew {B : Nat} {a w : World} (h : Below B a w) : Below B a w.drew := ⟨h.os, h.tape, h.output, h.size, h.block⟩
theorem below_of_drew {B : Nat} {w x : World} (h : Below B w.drew x) : Below B w x := ⟨h.os, h.tape, h.output, h.size, h.block⟩

theorem head_row (b o n c m : Nat) (w : World) (h1 : m ≤ c) :
    (Instr.slice 22 (.slice (some ⟨b, o, none⟩) n c) none (some (.int .i64 (m : Int))) none).run Try.prog w = .ok (.slice (some ⟨b, o, none⟩) m c) w := by
  rw [run_slice_h w 22 _ _ _ elem_row .i64 (m : Int) (by omega) (by omega), elem_is, size_byte]
  simp only [Result.andThen, sliced, Int.toNat_natCast, Nat.zero_mul, Option.map, Nat.sub_zero]
  have hadd : (⟨b, o, none⟩ : Addr).add 0 = ⟨b, o, none⟩ := by unfold Addr.add; split <;> simp_all
  rw [hadd]
  split <;> rfl

set_option maxHeartbeats 1000000 in
set_option maxRecDepth 100000 in
theorem no (b o n c m : Nat) (f : Nat → Nat) (w : World) (hw : BytesIn w (some ⟨b, o, none⟩) n c f) (hm : n = m + 4) (he : ¬ Ends f m) :
    Calls Try.prog 5 #[.slice (some ⟨b, o, none⟩) n c] w fun e w' => e = .returned (.bool true) ∧ Below w.heap.size w w' := by
  have hc := hw.le
  have hsm := hw.small
  have hs := strip_no n c b o m f w hw.lt (by omega) hc hm hw.row he
  have hsub : (n : Int) - 4 = (m : Int) := by omega
  have g0 : decide ((m : Int) < 0) = false := by simp
  have hra : ∀ v, Below w.heap.size w v → Calls Try.prog 11 #[.slice (some ⟨b, o, none⟩) m c] v fun e w' => ∃ g cy, e = .returned (.slice (some ⟨g, 0, none⟩) (m + 4) cy) ∧ Below v.heap.size v w' ∧ RowAt w' (some ⟨g, 0, none⟩) (m + 4) (fun i => if i < m then f i else lo (sumOf f m) (i - m)) := fun v hv =>
    rappend_any m c (some ⟨b, o, none⟩) f v hw.lt (by omega) ((hw.row.take (by omega)).below hv) (fun h => by cases h)
  have hcb : ∀ v, Below w.heap.size w v → (convert 22 9 (.slice (some ⟨b, o, none⟩) n c)).run Try.prog v = .ok (.string (strOfNums (nums f n))) v := fun v hv => conv_row v _ n c f (hw.row.below hv)
  have hne : strOfNums (nums (fun i => if i < m then f i else lo (sumOf f m) (i - m)) (m + 4)) ≠ strOfNums (nums f n) := fun h => by
    have := (str_inj (fun i => by split; exact hw.lt i; exact lo_lt _ _) hw.lt h).2
    refine he fun i hi => ?_
    have h1 := this (m + i) (by omega)
    rw [if_neg (by omega), Nat.add_sub_cancel_left] at h1
    exact h1.symm
  have hca : ∀ v g cy, RowAt v (some ⟨g, 0, none⟩) (m + 4) (fun i => if i < m then f i else lo (sumOf f m) (i - m)) → (convert 22 9 (.slice (some ⟨g, 0, none⟩) n cy)).run Try.prog v = .ok (.string (strOfNums (nums (fun i => if i < m then f i else lo (sumOf f m) (i - m)) (m + 4)))) v := fun v g cy h => by
    rw [hm]
    exact conv_row v _ _ cy _ h
  generalize hF : (fun i => if i < m then f i else lo (sumOf f m) (i - m)) = F at *
  rw [← hm] at hra hca hne
  generalize strOfNums (nums F n) = S at *
  generalize strOfNums (nums f n) = S' at *
  have hnb : (!S.toList == S'.toList) = true := by
    have : S.toList ≠ S'.toList := fun q => hne (toList_inj q)
    simpa using this
  have hsl : ∀ v : World, (Instr.slice 22 (.slice (some ⟨b, o, none⟩) n c) none (some (.int .i64 (m : Int))) none).run Try.prog v = .ok (.slice (some ⟨b, o, none⟩) m c) v := fun v => head_row b o n c m v (by omega)
  clear hm hw he hF
  go_enter Try.func5, Try.ntmps5
  go_wp2_with (go_at_call 9; refine hs.mono ?_; rintro e w1 ⟨rfl, hb1⟩; clear hs)
  have hb1d : Below w.heap.size w w1.drew := ⟨hb1.os, hb1.tape, hb1.output, hb1.size, hb1.block⟩
  refine wp_region_held_drew (S := fun v => (convert 22 9 (.slice (some ⟨b, o, none⟩) n c)).run Try.prog v = .ok (.string S') v) (by kernel_rfl) (hcb _ hb1d) (fun hHeld => ?_)
  refine wpAnyH_take (i := 0) (v := ?_) rfl (by kernel_rfl) (by kernel_rfl) (by kernel_rfl) (fun _ _ _ h => h) (Or.inl ⟨by rfl, ?_⟩) (by assumption) ?_
  case refine_2 => (intro w hSw; (try dsimp only at hSw); go_simp; (try with_reducible rfl))
  (try simp only [Act.put, List.getElem_toArray, List.getElem_cons_succ, List.getElem_cons_zero, List.setIfInBounds_toArray, List.set_cons_zero, List.set_cons_succ])
  refine wpAnyH_take (i := 1) (v := ?_) rfl (by kernel_rfl) (by kernel_rfl) (by kernel_rfl) (fun _ _ _ h => h) (Or.inl ⟨by rfl, ?_⟩) (by assumption) ?_
  case refine_2 => (intro w hSw; (try dsimp only at hSw); go_simp; (try with_reducible rfl))
  (try simp only [Act.put, List.getElem_toArray, List.getElem_cons_succ, List.getElem_cons_zero, List.setIfInBounds_toArray, List.set_cons_zero, List.set_cons_succ])
  refine wpAnyH_take (i := 2) (v := ?_) rfl (by kernel_rfl) (by kernel_rfl) (by kernel_rfl) (fun _ _ _ h => h) (Or.inl ⟨by rfl, ?_⟩) (by assumption) ?_
  case refine_2 => (intro w hSw; (try dsimp only at hSw); go_simp; (try with_reducible rfl))
  (try simp only [Act.put, List.getElem_toArray, List.getElem_cons_succ, List.getElem_cons_zero, List.setIfInBounds_toArray, List.set_cons_zero, List.set_cons_succ])
  refine wpAnyH_take (i := 3) (v := ?_) rfl (by kernel_rfl) (by kernel_rfl) (by kernel_rfl) (fun _ _ _ h => h) (Or.inl ⟨by rfl, ?_⟩) (by assumption) ?_
  case refine_2 => (intro w hSw; (try dsimp only at hSw); go_simp; (try with_reducible rfl))
  (try simp only [Act.put, List.getElem_toArray, List.getElem_cons_succ, List.getElem_cons_zero, List.setIfInBounds_toArray, List.set_cons_zero, List.set_cons_succ])
  refine wpAnyH_take (i := 4) (v := ?_) rfl (by kernel_rfl) (by kernel_rfl) (by kernel_rfl) (fun _ _ _ h => h) (Or.inl ⟨by rfl, ?_⟩) (by assumption) ?_
  case refine_2 => (intro w hSw; (try dsimp only at hSw); go_simp; (try with_reducible rfl))
  (try simp only [Act.put, List.getElem_toArray, List.getElem_cons_succ, List.getElem_cons_zero, List.setIfInBounds_toArray, List.set_cons_zero, List.set_cons_succ])
  refine wpAnyH_take (i := 5) (v := ?_) rfl (by kernel_rfl) (by kernel_rfl) (by kernel_rfl) (fun _ _ _ h => h) (Or.inl ⟨by rfl, ?_⟩) (by assumption) ?_
  case refine_2 => (intro w hSw; (try dsimp only at hSw); go_simp; (try with_reducible rfl))
  (try simp only [Act.put, List.getElem_toArray, List.getElem_cons_succ, List.getElem_cons_zero, List.setIfInBounds_toArray, List.set_cons_zero, List.set_cons_succ])
  refine wpAnyH_take (i := 8) (v := ?_) rfl (by kernel_rfl) (by kernel_rfl) (by kernel_rfl) (fun _ _ _ h => h) (Or.inl ⟨by rfl, ?_⟩) (by assumption) ?_
  case refine_2 => (intro w hSw; (try dsimp only at hSw); go_simp; (try with_reducible rfl))
  (try simp only [Act.put, List.getElem_toArray, List.getElem_cons_succ, List.getElem_cons_zero, List.setIfInBounds_toArray, List.set_cons_zero, List.set_cons_succ])
  refine wpAnyH_take (i := 9) (v := ?_) rfl (by kernel_rfl) (by kernel_rfl) (by kernel_rfl) (fun _ _ _ h => h) (Or.inl ⟨by rfl, ?_⟩) (by assumption) ?_
  case refine_2 => (intro w hSw; (try dsimp only at hSw); go_simp; (try with_reducible rfl))
  (try simp only [Act.put, List.getElem_toArray, List.getElem_cons_succ, List.getElem_cons_zero, List.setIfInBounds_toArray, List.set_cons_zero, List.set_cons_succ])
  refine wpAnyH_ready (rs := [6]) (by kernel_rfl) (by simp) ?_
  refine AllReadyH.cons rfl (fun K hK => ?_) AllReadyH.nil
  go_simp
  refine (hra _ hb1d).mono ?_
  rintro e w2 ⟨g2, c2, rfl, hb2, hr2⟩
  have hb02 := hb1d.trans (hb2.mono hb1d.size)
  have hS3 := hca _ _ c2 hr2
  clear hra
  refine hK.out _ _ (hcb _ hb02) (fun hHeld => ?_)
  clear hK K
  refine wpAnyH_ready (rs := [7]) (by kernel_rfl) (by simp) ?_
  refine AllReadyH.cons rfl (fun K hK => ?_) AllReadyH.nil
  go_simp
  refine hK.out _ _ (hcb _ hb02) (fun hHeld => ?_)
  clear hK K
  refine wpAnyH_take (i := 10) (v := ?_) rfl (by kernel_rfl) (by kernel_rfl) (by kernel_rfl) (fun _ _ _ h => h) (Or.inl ⟨by rfl, ?_⟩) (by assumption) ?_
  case refine_2 => (intro w hSw; (try dsimp only at hSw); go_simp; (try with_reducible rfl))
  (try simp only [Act.put, List.getElem_toArray, List.getElem_cons_succ, List.getElem_cons_zero, List.setIfInBounds_toArray, List.set_cons_zero, List.set_cons_succ])
  refine wpAnyH_take (i := 11) (v := ?_) rfl (by kernel_rfl) (by kernel_rfl) (by kernel_rfl) (fun _ _ _ h => h) (Or.inl ⟨by rfl, ?_⟩) (by assumption) ?_
  case refine_2 => (intro w hSw; (try dsimp only at hSw); go_simp; (try with_reducible rfl))
  (try simp only [Act.put, List.getElem_toArray, List.getElem_cons_succ, List.getElem_cons_zero, List.setIfInBounds_toArray, List.set_cons_zero, List.set_cons_succ])
  refine wpAnyH_done (by kernel_rfl) ?_ _
  go_wp2_with (go_at_call 12; refine (awake_any _).mono ?_; rintro e x6 ⟨rfl, hb6⟩)
  go_ret
  exact ⟨rfl, hb02.trans (hb6.mono hb02.size)⟩

set_option maxHeartbeats 1000000 in
set_option maxRecDepth 100000 in
theorem yes (b o n c m : Nat) (f : Nat → Nat) (w : World) (hw : BytesIn w (some ⟨b, o, none⟩) n c f) (hm : n = m + 4) (he : Ends f m) :
    Calls Try.prog 5 #[.slice (some ⟨b, o, none⟩) n c] w fun e w' => e = .returned (.bool true) ∧ Below w.heap.size w w' := by
  have hc := hw.le
  have hsm := hw.small
  have hs := strip_yes n c b o m f w hw.lt (by omega) hc hm hw.row he
  have hsub : (n : Int) - 4 = (m : Int) := by omega
  have g0 : decide ((m : Int) < 0) = false := by simp
  have hra : ∀ v, Below w.heap.size w v → Calls Try.prog 11 #[.slice (some ⟨b, o, none⟩) m c] v fun e w' => ∃ g cy, e = .returned (.slice (some ⟨g, 0, none⟩) (m + 4) cy) ∧ Below v.heap.size v w' ∧ RowAt w' (some ⟨g, 0, none⟩) (m + 4) (fun i => if i < m then f i else lo (sumOf f m) (i - m)) := fun v hv =>
    rappend_any m c (some ⟨b, o, none⟩) f v hw.lt (by omega) ((hw.row.take (by omega)).below hv) (fun h => by cases h)
  have hcb : ∀ v, Below w.heap.size w v → (convert 22 9 (.slice (some ⟨b, o, none⟩) n c)).run Try.prog v = .ok (.string (strOfNums (nums f n))) v := fun v hv => conv_row v _ n c f (hw.row.below hv)
  have heq : strOfNums (nums (fun i => if i < m then f i else lo (sumOf f m) (i - m)) (m + 4)) = strOfNums (nums f n) := by
    rw [hm]
    refine str_congr fun i hi => ?_
    by_cases e : i < m
    · simp [e]
    · have := he (i - m) (by omega)
      rw [show m + (i - m) = i by omega] at this
      simp [e, this]
  have hcm : ∀ v, Below w.heap.size w v → (convert 22 9 (.slice (some ⟨b, o, none⟩) m c)).run Try.prog v = .ok (.string (strOfNums (nums f m))) v := fun v hv => conv_row v _ m c f ((hw.row.take (by omega)).below hv)
  have hct : ∀ v y cy, RowAt v (some ⟨y, 0, none⟩) m f → (convert 22 9 (.slice (some ⟨y, 0, none⟩) m cy)).run Try.prog v = .ok (.string (strOfNums (nums f m))) v := fun v y cy h => conv_row v _ m cy f h
  have hca : ∀ v g cy, RowAt v (some ⟨g, 0, none⟩) (m + 4) (fun i => if i < m then f i else lo (sumOf f m) (i - m)) → (convert 22 9 (.slice (some ⟨g, 0, none⟩) n cy)).run Try.prog v = .ok (.string (strOfNums (nums (fun i => if i < m then f i else lo (sumOf f m) (i - m)) (m + 4)))) v := fun v g cy h => by
    rw [hm]
    exact conv_row v _ _ cy _ h
  generalize hF : (fun i => if i < m then f i else lo (sumOf f m) (i - m)) = F at *
  rw [← hm] at hra hca heq
  rw [heq] at hca
  clear heq
  generalize strOfNums (nums f n) = S at *
  generalize strOfNums (nums f m) = S2 at *
  have hSS : (S2.toList == S2.toList) = true := by simp
  have hS1 : (!S.toList == S.toList) = false := by simp
  have hsl : ∀ v : World, (Instr.slice 22 (.slice (some ⟨b, o, none⟩) n c) none (some (.int .i64 (m : Int))) none).run Try.prog v = .ok (.slice (some ⟨b, o, none⟩) m c) v := fun v => head_row b o n c m v (by omega)
  clear hm hw he hF
  go_enter Try.func5, Try.ntmps5
  go_wp2_with (go_at_call 9; refine hs.mono ?_; rintro e w1 ⟨y, cy, rfl, hb1, hry⟩; clear hs)
  have hb1d : Below w.heap.size w w1.drew := ⟨hb1.os, hb1.tape, hb1.output, hb1.size, hb1.block⟩
  refine wp_region_held_drew (S := fun v => (convert 22 9 (.slice (some ⟨b, o, none⟩) n c)).run Try.prog v = .ok (.string S) v) (by kernel_rfl) (hcb _ hb1d) (fun hHeld => ?_)
  refine wpAnyH_take (i := 0) (v := ?_) rfl (by kernel_rfl) (by kernel_rfl) (by kernel_rfl) (fun _ _ _ h => h) (Or.inl ⟨by rfl, ?_⟩) (by assumption) ?_
  case refine_2 => (intro w hSw; (try dsimp only at hSw); go_simp; (try with_reducible rfl))
  (try simp only [Act.put, List.getElem_toArray, List.getElem_cons_succ, List.getElem_cons_zero, List.setIfInBounds_toArray, List.set_cons_zero, List.set_cons_succ])
  refine wpAnyH_take (i := 1) (v := ?_) rfl (by kernel_rfl) (by kernel_rfl) (by kernel_rfl) (fun _ _ _ h => h) (Or.inl ⟨by rfl, ?_⟩) (by assumption) ?_
  case refine_2 => (intro w hSw; (try dsimp only at hSw); go_simp; (try with_reducible rfl))
  (try simp only [Act.put, List.getElem_toArray, List.getElem_cons_succ, List.getElem_cons_zero, List.setIfInBounds_toArray, List.set_cons_zero, List.set_cons_succ])
  refine wpAnyH_take (i := 2) (v := ?_) rfl (by kernel_rfl) (by kernel_rfl) (by kernel_rfl) (fun _ _ _ h => h) (Or.inl ⟨by rfl, ?_⟩) (by assumption) ?_
  case refine_2 => (intro w hSw; (try dsimp only at hSw); go_simp; (try with_reducible rfl))
  (try simp only [Act.put, List.getElem_toArray, List.getElem_cons_succ, List.getElem_cons_zero, List.setIfInBounds_toArray, List.set_cons_zero, List.set_cons_succ])
  refine wpAnyH_take (i := 3) (v := ?_) rfl (by kernel_rfl) (by kernel_rfl) (by kernel_rfl) (fun _ _ _ h => h) (Or.inl ⟨by rfl, ?_⟩) (by assumption) ?_
  case refine_2 => (intro w hSw; (try dsimp only at hSw); go_simp; (try with_reducible rfl))
  (try simp only [Act.put, List.getElem_toArray, List.getElem_cons_succ, List.getElem_cons_zero, List.setIfInBounds_toArray, List.set_cons_zero, List.set_cons_succ])
  refine wpAnyH_take (i := 4) (v := ?_) rfl (by kernel_rfl) (by kernel_rfl) (by kernel_rfl) (fun _ _ _ h => h) (Or.inl ⟨by rfl, ?_⟩) (by assumption) ?_
  case refine_2 => (intro w hSw; (try dsimp only at hSw); go_simp; (try with_reducible rfl))
  (try simp only [Act.put, List.getElem_toArray, List.getElem_cons_succ, List.getElem_cons_zero, List.setIfInBounds_toArray, List.set_cons_zero, List.set_cons_succ])
  refine wpAnyH_take (i := 5) (v := ?_) rfl (by kernel_rfl) (by kernel_rfl) (by kernel_rfl) (fun _ _ _ h => h) (Or.inl ⟨by rfl, ?_⟩) (by assumption) ?_
  case refine_2 => (intro w hSw; (try dsimp only at hSw); go_simp; (try with_reducible rfl))
  (try simp only [Act.put, List.getElem_toArray, List.getElem_cons_succ, List.getElem_cons_zero, List.setIfInBounds_toArray, List.set_cons_zero, List.set_cons_succ])
  refine wpAnyH_take (i := 8) (v := ?_) rfl (by kernel_rfl) (by kernel_rfl) (by kernel_rfl) (fun _ _ _ h => h) (Or.inl ⟨by rfl, ?_⟩) (by assumption) ?_
  case refine_2 => (intro w hSw; (try dsimp only at hSw); go_simp; (try with_reducible rfl))
  (try simp only [Act.put, List.getElem_toArray, List.getElem_cons_succ, List.getElem_cons_zero, List.setIfInBounds_toArray, List.set_cons_zero, List.set_cons_succ])
  refine wpAnyH_take (i := 9) (v := ?_) rfl (by kernel_rfl) (by kernel_rfl) (by kernel_rfl) (fun _ _ _ h => h) (Or.inl ⟨by rfl, ?_⟩) (by assumption) ?_
  case refine_2 => (intro w hSw; (try dsimp only at hSw); go_simp; (try with_reducible rfl))
  (try simp only [Act.put, List.getElem_toArray, List.getElem_cons_succ, List.getElem_cons_zero, List.setIfInBounds_toArray, List.set_cons_zero, List.set_cons_succ])
  refine wpAnyH_ready (rs := [6]) (by kernel_rfl) (by simp) ?_
  refine AllReadyH.cons rfl (fun K hK => ?_) AllReadyH.nil
  go_simp
  refine (hra _ hb1d).mono ?_
  rintro e w2 ⟨g2, c2, rfl, hb2, hr2⟩
  have hb02 := hb1d.trans (hb2.mono hb1d.size)
  have hS3 := hca _ _ c2 hr2
  clear hra
  refine hK.out _ _ (hcb _ hb02) (fun hHeld => ?_)
  clear hK K
  refine wpAnyH_ready (rs := [7]) (by kernel_rfl) (by simp) ?_
  refine AllReadyH.cons rfl (fun K hK => ?_) AllReadyH.nil
  go_simp
  refine hK.out _ _ (hcb _ hb02) (fun hHeld => ?_)
  clear hK K
  refine wpAnyH_take (i := 10) (v := ?_) rfl (by kernel_rfl) (by kernel_rfl) (by kernel_rfl) (fun _ _ _ h => h) (Or.inl ⟨by rfl, ?_⟩) (by assumption) ?_
  case refine_2 => (intro w hSw; (try dsimp only at hSw); go_simp; (try with_reducible rfl))
  (try simp only [Act.put, List.getElem_toArray, List.getElem_cons_succ, List.getElem_cons_zero, List.setIfInBounds_toArray, List.set_cons_zero, List.set_cons_succ])
  refine wpAnyH_take (i := 11) (v := ?_) rfl (by kernel_rfl) (by kernel_rfl) (by kernel_rfl) (fun _ _ _ h => h) (Or.inl ⟨by rfl, ?_⟩) (by assumption) ?_
  case refine_2 => (intro w hSw; (try dsimp only at hSw); go_simp; (try with_reducible rfl))
  (try simp only [Act.put, List.getElem_toArray, List.getElem_cons_succ, List.getElem_cons_zero, List.setIfInBounds_toArray, List.set_cons_zero, List.set_cons_succ])
  refine wpAnyH_done (by kernel_rfl) ?_ _
  have hb02d := below_drew hb02
  have hry2 : Below w1.heap.size w1 w2.drew := below_drew (below_of_drew hb2)
  have hS5 : ∀ v, Below w1.heap.size w1 v → (convert 22 9 (.slice (some ⟨y, 0, none⟩) m cy)).run Try.prog v = .ok (.string S2) v := fun v hv => hct v y cy (hry.below hv)
  clear hS3 hb2 hr2 hry hca hcb hb1d hct
  go_wp2_with fail
  go_region_held3 (fun v => (convert 22 9 (.slice (some ⟨y, 0, none⟩) m cy)).run Try.prog v = .ok (.string S2) v ∧ (convert 22 9 (.slice (some ⟨b, o, none⟩) m c)).run Try.prog v = .ok (.string S2) v) (first | exact ⟨hS5 _ hry2, hcm _ hb02d⟩ | exact ⟨hS5 _ (hry2.trans (hb6.mono hry2.size)), hcm _ (hb02d.trans (hb6.mono hb02d.size))⟩ | go_keep) (first | (go_at_call 12; refine (awake_any _).mono ?_; rintro e x6 ⟨rfl, hb6⟩))
  go_wp2_with fail
  go_ret
  exact ⟨rfl, hb02d.trans (hb6.mono hb02d.size)⟩

theorem walk (a : Option Addr) (len cap : Nat) (f : Nat → Nat) (w : World) (w0 : BytesIn w a len cap f) :
    Calls Try.prog 5 #[.slice a len cap] w fun e w' => e = .returned (.bool true) ∧ Below w.heap.size w w' := by
  by_cases h4 : len < 4
  · exact short a len cap w h4
  · obtain ⟨b, o, rfl⟩ : ∃ b o, a = some ⟨b, o, none⟩ := by
      rcases w0.row with h | ⟨b, o, h, _⟩
      · omega
      · exact ⟨b, o, h⟩
    by_cases he : Ends f (len - 4)
    · exact yes b o len cap (len - 4) f w w0 (by omega) he
    · exact no b o len cap (len - 4) f w w0 (by omega) he

set_option maxRecDepth 100000 in
theorem lifted (os : Os) (started : os.Started) (H : Type) (enc : TypeId × Value → H) :
    ReturnsInHanded {} Try.checked os 5 .any (Rows.sumStripsSpec.pre6 enc Try.prog Try.f5 Rows.sumStripsRow.domain false) (Rows.sumStripsSpec.post enc Try.prog Try.f5 false true false false) := by
  refine returnsInHanded_of_change_sized (C := Try.checked) own started (by kernel_rfl) Try.func5
    (ChangeSpec.witness6 (enc := enc) (C := Try.checked) false ⟨#[], #[.slice none 0 0], []⟩ 8 (by kernel_rfl) (by kernel_rfl) (by kernel_rfl) (by kernel_rfl)) ?_
  intro W base args ds gs before hval0 hW hcnd hsz0 _
  have hsz : (DataW.weightsEach Try.prog (Try.f5.params.toList ++ Rows.sumStripsSpec.plain.varTypes Try.prog) (ds ++ gs)).all (· ≤ reachBytes) = true := hsz0
  have hval : ∀ (j : Nat) t v, Try.f5.params[j]? = some t → args[j]? = some v → Value.okWide Try.prog W .any base t v := hval0
  have hW' := hW
  obtain ⟨p, q, hA0, hV, rfl, hfz, hnd⟩ := hW
  have hA : DataW.TrodAll enc Try.prog W 0 (fun _ => true) true Try.f5.params.toList args.toList ds p := hA0
  rw [Try.params5] at hA hval hsz
  obtain ⟨v0, vs0, d0, ds0, p0, q0, hargs, rfl, rfl, h0, r0⟩ := trodAll_cons hA
  obtain ⟨rfl, rfl, rfl⟩ := trodAll_nil r0
  obtain rfl : args = #[v0] := by cases args; simp_all
  obtain ⟨rfl, rfl⟩ := trodVars_none hV
  have k0 := h0
  have lt0 : ∀ x ∈ p0, x.block < W.heap.size := by obtain ⟨m, hm⟩ := k0; exact DataW.trod_lt m _ _ _ hm
  have s0 : ∀ x ∈ d0.weights Try.prog 22, x ≤ reachBytes := fun x hx => by
    have := List.all_eq_true.1 hsz x (DataW.weights_mem_each (j := 0) rfl rfl x hx)
    simpa using this
  obtain ⟨b0, nn0, cc0, rfl⟩ := okWide_slice Try.underlying22 (hval 0 22 v0 rfl rfl)
  obtain ⟨fu0, hf0⟩ := h0
  obtain ⟨a0, len0, cap0, f0, e0, w0⟩ := bytes_in hf0 s0
  simp [Value.cells] at e0
  obtain ⟨rfl, rfl, rfl⟩ := e0
  clear hA0 hval0
  refine (walk b0 nn0 cc0 f0 W w0).mono fun e W' ⟨he, bel⟩ => ?_
  subst he
  exact ⟨_, rfl, _, _, _, [], _, [], hW', trodAll_mk1 (shut_bool Try.underlying4 _), (trodAll_cons_mk (Below.trod laidOut (by kernel_rfl) (of_decide_eq_true (by kernel_rfl)) k0 bel lt0) trodAll_mk0), rfl, bel.frame _, fun h => by cases h⟩

theorem over : Rows.sumStripsRow.holds Try.pinned (OpenSpec.ofChange Rows.sumStripsSpec) :=
  OpenClaim.holds_of_wide 5 Try.f5 rfl rfl rfl rfl rfl rfl rfl ⟨rfl, rfl, rfl, rfl, rfl⟩ rfl rfl rfl rfl rfl (by kernel_rfl) Try.func5 (by kernel_rfl)
    (of_decide_eq_true (by kernel_rfl)) (by unfold Func.isWrapper; first | (rw [if_pos (by decide +kernel)]; kernel_rfl) | (rw [if_neg (by decide +kernel)]; exact ⟨rfl, rfl⟩))
    (fun os started H enc _ => lifted os started H enc)

theorem proved : Rows.SumStripsSaid := over
#print axioms proved
end Go.Proofs.Ythfdfebeemakkaa.sumStrips
