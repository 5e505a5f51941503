/-
  Which ballot is lower, strictly and wholly, which is the next one, and which acceptors may be: 'mooringlaw11.BallotOrders' returns true and leaves its arguments as they were.
  Conditions: none.
-/
import Derived.Test.YtlfeafbpknbbfaaRows
import Derived.WalkKit
import Derived.ProofKit
import Derived.OpenShut
import Derived.SizedLaws
import Derived.ShutString
import Derived.ChangeOld
import Derived.Below
import Derived.Test.YtlfeafbpknbbfaaByRows
import Derived.Test.YtlfeafbpknbbfaaBaItem
import Derived.Test.YtlfeafbpknbbfaaBaBump
namespace Go.Proofs.Ytlfeafbpknbbfaa.ballotOrders
open Go.ChangeShapes Go.WideShapes Go.ChangeAt Go.RowKit By
open Fl Ba
set_option linter.unusedVariables false
set_option linter.unusedSimpArgs false
set_option maxRecDepth 100000

theorem own : ownKnob Try.prog.godebug = none := by kernel_rfl
theorem laidOut : laidOutB Try.prog = true := by kernel_rfl

theorem ltb_irr (a : Bt) : ltb a a = false := by simp [ltb]

theorem ltb_tri {a b : Bt} (h : a ≠ b) : (ltb a b == ltb b a) = false := by
  obtain ⟨a1, a2⟩ := a
  obtain ⟨b1, b2⟩ := b
  have h2 : ¬ (a1 = b1 ∧ a2 = b2) := fun e => h (by rw [e.1, e.2])
  unfold ltb
  dsimp only
  by_cases e : a1 = b1
  · subst e
    have : ¬ a2 = b2 := fun e => h2 ⟨rfl, e⟩
    by_cases l : a2 < b2
    · have l2 : ¬ b2 < a2 := by omega
      simp [l, l2]
    · have l2 : b2 < a2 := by omega
      simp [l, l2]
  · have e2 : ¬ b1 = a1 := fun h => e h.symm
    by_cases l : a1 < b1
    · have l2 : ¬ b1 < a1 := by omega
      simp [e, e2, l, l2]
    · have l2 : b1 < a1 := by omega
      simp [e, e2, l, l2]

theorem nx_above (s : Bt) (m : Int) (h : (nx s m).2 = true) : ltb s (nx s m).1 = true := by
  obtain ⟨s1, s2⟩ := s
  unfold nx at h ⊢
  dsimp only at h ⊢
  by_cases hs : mzb (s1, s2) = true
  · rw [if_pos hs] at h ⊢
    by_cases hl : ltb (s1, s2) (max s1 1, m) = true
    · rw [if_pos hl] at h ⊢
      by_cases hm : mayb (max s1 1, m) = true
      · rw [if_pos hm]
        exact hl
      · rw [if_neg hm] at h
        cases h
    · rw [if_neg hl] at h ⊢
      by_cases hm : mayb (max s1 1 + 1, m) = true
      · rw [if_pos hm]
        unfold ltb
        dsimp only
        have e : ¬ s1 = max s1 1 + 1 := by omega
        rw [if_neg e]
        exact decide_eq_true (by omega)
      · rw [if_neg hm] at h
        cases h
  · rw [if_neg hs] at h
    cases h

set_option maxHeartbeats 4000000 in
set_option maxRecDepth 100000 in
theorem orders_ne_t (a1 a2 b1 b2 N1 N2 p1 p2 q1 q2 : Int) (x : Option Addr) (n c : Nat) (t mt : Bool) (w : World) (hne : ¬ (a1 = b1 ∧ a2 = b2)) (hlt : ltb (a1, a2) (N1, N2) = true)
    (hN : ∀ W, Calls Try.prog 6 #[.agg #[.int .i64 a1, .int .i64 a2], .int .i64 b2] W fun e w' => e = .returned (.tuple #[.agg #[.int .i64 N1, .int .i64 N2], .bool true]) ∧ Below W.heap.size W w')
    (hR : ∀ W, Calls Try.prog 7 #[.agg #[.int .i64 a1, .int .i64 a2], .int .i64 b2] W fun e w' => e = .returned (.tuple #[.agg #[.int .i64 N1, .int .i64 N2], .bool true]) ∧ Below W.heap.size W w')
    (hM : ∀ W, Calls Try.prog 10 #[.agg #[.int .i64 p1, .int .i64 p2, .int .i64 q1, .int .i64 q2, .slice x n c]] W fun e w' => e = .returned (.bool mt) ∧ Below W.heap.size W w')
    (hQ : ∀ W, Calls Try.prog 11 #[.agg #[.int .i64 p1, .int .i64 p2, .int .i64 q1, .int .i64 q2, .slice x n c]] W fun e w' => e = .returned (.bool mt) ∧ Below W.heap.size W w') :
    Calls Try.prog 3 #[.agg #[.int .i64 a1, .int .i64 a2], .agg #[.int .i64 b1, .int .i64 b2], .agg #[.int .i64 p1, .int .i64 p2, .int .i64 q1, .int .i64 q2, .slice x n c]] w fun e w' => e = .returned (.bool true) ∧ Below w.heap.size w w' := by
  have hL := fun W => less_any (a1, a2) (b1, b2) W
  have hL' := fun W => rless_any (a1, a2) (b1, b2) W
  have hI := fun W => less_any (a1, a2) (a1, a2) W
  rw [ltb_irr] at hI
  have hG := fun W => less_any (b1, b2) (a1, a2) W
  have hW := fun W => awake_any W
  have hE := fun W => eq_bt N1 N2 N1 N2 W
  simp only [decide_true, Bool.and_self] at hE
  have hD := fun W => neq_bt a1 a2 b1 b2 W
  have hd2 : (decide (a1 = b1) && decide (a2 = b2)) = false := by
    cases h : (decide (a1 = b1) && decide (a2 = b2)) with
    | false => rfl
    | true => simp at h; exact absurd h hne
  rw [hd2] at hD
  simp only [Bool.not_false] at hD
  have hT : (ltb (a1, a2) (b1, b2) == ltb (b1, b2) (a1, a2)) = false := ltb_tri (fun e => hne (by simpa using e))
  clear hd2 hne
  generalize ltb (b1, b2) (a1, a2) = t2 at *
  generalize ltb (a1, a2) (b1, b2) = t1 at *
  have hA := fun W => less_any (a1, a2) (N1, N2) W
  rw [hlt] at hA
  clear hlt
  dsimp only [bt] at *
  have b0 : ∀ x y z, Below w.heap.size w (((w.alloc x).alloc y).alloc z) := fun x y z => on (on (al _ _) (al _ _)) (al _ _)
  go_enter Try.func3, Try.ntmps3
  go_wp2_with (first
    | (
       go_at_call 6; refine (hN _).mono ?_; rintro e w1 ⟨rfl, hb1⟩; clear hN
       have k0 := keep hb1 (b := w.heap.size) (o := 0) (x := .int .i64 a1) (by first | assumption | go_simp)
       have k1 := keep hb1 (b := w.heap.size) (o := 1) (x := .int .i64 a2) (by first | assumption | go_simp)
       have j0 := keep hb1 (b := w.heap.size + 1) (o := 0) (x := .int .i64 b1) (by first | assumption | go_simp)
       have j1 := keep hb1 (b := w.heap.size + 1) (o := 1) (x := .int .i64 b2) (by first | assumption | go_simp)
       have z0 := keep hb1 (b := w.heap.size + 1 + 1) (o := 0) (x := .int .i64 p1) (by first | assumption | go_simp)
       have z1 := keep hb1 (b := w.heap.size + 1 + 1) (o := 1) (x := .int .i64 p2) (by first | assumption | go_simp)
       have z2 := keep hb1 (b := w.heap.size + 1 + 1) (o := 2) (x := .int .i64 q1) (by first | assumption | go_simp)
       have z3 := keep hb1 (b := w.heap.size + 1 + 1) (o := 3) (x := .int .i64 q2) (by first | assumption | go_simp)
       have z4 := keep hb1 (b := w.heap.size + 1 + 1) (o := 4) (x := .slice x n c) (by first | assumption | go_simp)
       have l0 : w.heap.size < w1.heap.size := cell_lt' k0
       have l1 : w.heap.size + 1 < w1.heap.size := cell_lt' j0
       have l2 : w.heap.size + 1 + 1 < w1.heap.size := cell_lt' z0
       have B1 := on (b0 _ _ _) hb1; clear hb1)
    | (
       go_at_call 7; refine (hR _).mono ?_; rintro e w2 ⟨rfl, hb2⟩; clear hR
       have k0 := keep hb2 (b := w.heap.size) (o := 0) (x := .int .i64 a1) (by first | assumption | go_simp)
       have k1 := keep hb2 (b := w.heap.size) (o := 1) (x := .int .i64 a2) (by first | assumption | go_simp)
       have j0 := keep hb2 (b := w.heap.size + 1) (o := 0) (x := .int .i64 b1) (by first | assumption | go_simp)
       have j1 := keep hb2 (b := w.heap.size + 1) (o := 1) (x := .int .i64 b2) (by first | assumption | go_simp)
       have z0 := keep hb2 (b := w.heap.size + 1 + 1) (o := 0) (x := .int .i64 p1) (by first | assumption | go_simp)
       have z1 := keep hb2 (b := w.heap.size + 1 + 1) (o := 1) (x := .int .i64 p2) (by first | assumption | go_simp)
       have z2 := keep hb2 (b := w.heap.size + 1 + 1) (o := 2) (x := .int .i64 q1) (by first | assumption | go_simp)
       have z3 := keep hb2 (b := w.heap.size + 1 + 1) (o := 3) (x := .int .i64 q2) (by first | assumption | go_simp)
       have z4 := keep hb2 (b := w.heap.size + 1 + 1) (o := 4) (x := .slice x n c) (by first | assumption | go_simp)
       have u0 := keep hb2 (b := w1.heap.size) (o := 0) (x := .int .i64 N1) (by first | assumption | go_simp)
       have u1 := keep hb2 (b := w1.heap.size) (o := 1) (x := .int .i64 N2) (by first | assumption | go_simp)
       have l3 : w.heap.size < w2.heap.size := cell_lt' k0
       have l4 : w.heap.size + 1 < w2.heap.size := cell_lt' j0
       have l5 : w.heap.size + 1 + 1 < w2.heap.size := cell_lt' z0
       have l6 : w1.heap.size < w2.heap.size := cell_lt' u0
       have B2 := on (on B1 (al _ _)) hb2; clear hb2 B1))
  have bD : Below (w2.alloc (.cells #[.int .i64 N1, .int .i64 N2] 23)).heap.size (w2.alloc (.cells #[.int .i64 N1, .int .i64 N2] 23)) (w2.alloc (.cells #[.int .i64 N1, .int .i64 N2] 23)).drew := (Below.refl _ _).drew
  have k0 := keep bD (b := w.heap.size) (o := 0) (x := .int .i64 a1) (by first | assumption | go_simp)
  have k1 := keep bD (b := w.heap.size) (o := 1) (x := .int .i64 a2) (by first | assumption | go_simp)
  have j0 := keep bD (b := w.heap.size + 1) (o := 0) (x := .int .i64 b1) (by first | assumption | go_simp)
  have j1 := keep bD (b := w.heap.size + 1) (o := 1) (x := .int .i64 b2) (by first | assumption | go_simp)
  have z0 := keep bD (b := w.heap.size + 1 + 1) (o := 0) (x := .int .i64 p1) (by first | assumption | go_simp)
  have z1 := keep bD (b := w.heap.size + 1 + 1) (o := 1) (x := .int .i64 p2) (by first | assumption | go_simp)
  have z2 := keep bD (b := w.heap.size + 1 + 1) (o := 2) (x := .int .i64 q1) (by first | assumption | go_simp)
  have z3 := keep bD (b := w.heap.size + 1 + 1) (o := 3) (x := .int .i64 q2) (by first | assumption | go_simp)
  have z4 := keep bD (b := w.heap.size + 1 + 1) (o := 4) (x := .slice x n c) (by first | assumption | go_simp)
  have u0 := keep bD (b := w1.heap.size) (o := 0) (x := .int .i64 N1) (by first | assumption | go_simp)
  have u1 := keep bD (b := w1.heap.size) (o := 1) (x := .int .i64 N2) (by first | assumption | go_simp)
  have v0 := keep bD (b := w2.heap.size) (o := 0) (x := .int .i64 N1) (by first | assumption | go_simp)
  have v1 := keep bD (b := w2.heap.size) (o := 1) (x := .int .i64 N2) (by first | assumption | go_simp)
  have B3 := on (on B2 (al _ _)) bD
  have HK : Hid ((w2.alloc (.cells #[.int .i64 N1, .int .i64 N2] 23)).drew.cell? ⟨w.heap.size, 0, none⟩ = some (.int .i64 a1) ∧ (w2.alloc (.cells #[.int .i64 N1, .int .i64 N2] 23)).drew.cell? ⟨w.heap.size, 1, none⟩ = some (.int .i64 a2) ∧ (w2.alloc (.cells #[.int .i64 N1, .int .i64 N2] 23)).drew.cell? ⟨w.heap.size + 1, 0, none⟩ = some (.int .i64 b1) ∧ (w2.alloc (.cells #[.int .i64 N1, .int .i64 N2] 23)).drew.cell? ⟨w.heap.size + 1, 1, none⟩ = some (.int .i64 b2) ∧ (w2.alloc (.cells #[.int .i64 N1, .int .i64 N2] 23)).drew.cell? ⟨w.heap.size + 1 + 1, 0, none⟩ = some (.int .i64 p1) ∧ (w2.alloc (.cells #[.int .i64 N1, .int .i64 N2] 23)).drew.cell? ⟨w.heap.size + 1 + 1, 1, none⟩ = some (.int .i64 p2) ∧ (w2.alloc (.cells #[.int .i64 N1, .int .i64 N2] 23)).drew.cell? ⟨w.heap.size + 1 + 1, 2, none⟩ = some (.int .i64 q1) ∧ (w2.alloc (.cells #[.int .i64 N1, .int .i64 N2] 23)).drew.cell? ⟨w.heap.size + 1 + 1, 3, none⟩ = some (.int .i64 q2) ∧ (w2.alloc (.cells #[.int .i64 N1, .int .i64 N2] 23)).drew.cell? ⟨w.heap.size + 1 + 1, 4, none⟩ = some (.slice x n c) ∧ (w2.alloc (.cells #[.int .i64 N1, .int .i64 N2] 23)).drew.cell? ⟨w1.heap.size, 0, none⟩ = some (.int .i64 N1) ∧ (w2.alloc (.cells #[.int .i64 N1, .int .i64 N2] 23)).drew.cell? ⟨w1.heap.size, 1, none⟩ = some (.int .i64 N2) ∧ (w2.alloc (.cells #[.int .i64 N1, .int .i64 N2] 23)).drew.cell? ⟨w2.heap.size, 0, none⟩ = some (.int .i64 N1) ∧ (w2.alloc (.cells #[.int .i64 N1, .int .i64 N2] 23)).drew.cell? ⟨w2.heap.size, 1, none⟩ = some (.int .i64 N2)) := ⟨k0, k1, j0, j1, z0, z1, z2, z3, z4, u0, u1, v0, v1⟩
  clear bD B2 k0 k1 j0 j1 z0 z1 z2 z3 z4 u0 u1 v0 v1 l0 l1 l2 l3 l4 l5
  refine wp_region_held_drew (S := fun v => v.cell? ⟨w.heap.size, 0, none⟩ = some (.int .i64 a1) ∧ v.cell? ⟨w.heap.size, 1, none⟩ = some (.int .i64 a2) ∧ v.cell? ⟨w.heap.size + 1, 0, none⟩ = some (.int .i64 b1) ∧ v.cell? ⟨w.heap.size + 1, 1, none⟩ = some (.int .i64 b2)) (by kernel_rfl) ⟨HK.out.1, HK.out.2.1, HK.out.2.2.1, HK.out.2.2.2.1⟩ (fun hHeld => ?_)
  generalize (w2.alloc (.cells #[.int .i64 N1, .int .i64 N2] 23)).drew = wD at *
  refine wpAnyH_take (i := 0) (v := ?_) rfl (by kernel_rfl) (by kernel_rfl) (by kernel_rfl) (fun _ _ _ h => h) (Or.inl ⟨by rfl, ?_⟩) (by assumption) ?_
  case refine_2 => (intro w hSw; (try dsimp only at hSw); go_simp; (try with_reducible rfl))
  (try simp only [Act.put, List.getElem_toArray, List.getElem_cons_succ, List.getElem_cons_zero, List.setIfInBounds_toArray, List.set_cons_zero, List.set_cons_succ])
  refine wpAnyH_take (i := 1) (v := ?_) rfl (by kernel_rfl) (by kernel_rfl) (by kernel_rfl) (fun _ _ _ h => h) (Or.inl ⟨by rfl, ?_⟩) (by assumption) ?_
  case refine_2 => (intro w hSw; (try dsimp only at hSw); go_simp; (try with_reducible rfl))
  (try simp only [Act.put, List.getElem_toArray, List.getElem_cons_succ, List.getElem_cons_zero, List.setIfInBounds_toArray, List.set_cons_zero, List.set_cons_succ])
  refine wpAnyH_take (i := 3) (v := ?_) rfl (by kernel_rfl) (by kernel_rfl) (by kernel_rfl) (fun _ _ _ h => h) (Or.inl ⟨by rfl, ?_⟩) (by assumption) ?_
  case refine_2 => (intro w hSw; (try dsimp only at hSw); go_simp; (try with_reducible rfl))
  (try simp only [Act.put, List.getElem_toArray, List.getElem_cons_succ, List.getElem_cons_zero, List.setIfInBounds_toArray, List.set_cons_zero, List.set_cons_succ])
  refine wpAnyH_take (i := 4) (v := ?_) rfl (by kernel_rfl) (by kernel_rfl) (by kernel_rfl) (fun _ _ _ h => h) (Or.inl ⟨by rfl, ?_⟩) (by assumption) ?_
  case refine_2 => (intro w hSw; (try dsimp only at hSw); go_simp; (try with_reducible rfl))
  (try simp only [Act.put, List.getElem_toArray, List.getElem_cons_succ, List.getElem_cons_zero, List.setIfInBounds_toArray, List.set_cons_zero, List.set_cons_succ])
  refine wpAnyH_ready (rs := [2]) (by kernel_rfl) (by simp) ?_
  refine AllReadyH.cons rfl (fun K hK => ?_) AllReadyH.nil
  go_simp
  refine (hL _).mono ?_
  rintro e y1 ⟨rfl, hb1⟩
  have C1 := on B3 hb1
  have HK1 : Hid (y1.cell? ⟨w.heap.size, 0, none⟩ = some (.int .i64 a1) ∧ y1.cell? ⟨w.heap.size, 1, none⟩ = some (.int .i64 a2) ∧ y1.cell? ⟨w.heap.size + 1, 0, none⟩ = some (.int .i64 b1) ∧ y1.cell? ⟨w.heap.size + 1, 1, none⟩ = some (.int .i64 b2) ∧ y1.cell? ⟨w.heap.size + 1 + 1, 0, none⟩ = some (.int .i64 p1) ∧ y1.cell? ⟨w.heap.size + 1 + 1, 1, none⟩ = some (.int .i64 p2) ∧ y1.cell? ⟨w.heap.size + 1 + 1, 2, none⟩ = some (.int .i64 q1) ∧ y1.cell? ⟨w.heap.size + 1 + 1, 3, none⟩ = some (.int .i64 q2) ∧ y1.cell? ⟨w.heap.size + 1 + 1, 4, none⟩ = some (.slice x n c) ∧ y1.cell? ⟨w1.heap.size, 0, none⟩ = some (.int .i64 N1) ∧ y1.cell? ⟨w1.heap.size, 1, none⟩ = some (.int .i64 N2) ∧ y1.cell? ⟨w2.heap.size, 0, none⟩ = some (.int .i64 N1) ∧ y1.cell? ⟨w2.heap.size, 1, none⟩ = some (.int .i64 N2)) := ⟨keep hb1 HK.out.1, keep hb1 HK.out.2.1, keep hb1 HK.out.2.2.1, keep hb1 HK.out.2.2.2.1, keep hb1 HK.out.2.2.2.2.1, keep hb1 HK.out.2.2.2.2.2.1, keep hb1 HK.out.2.2.2.2.2.2.1, keep hb1 HK.out.2.2.2.2.2.2.2.1, keep hb1 HK.out.2.2.2.2.2.2.2.2.1, keep hb1 HK.out.2.2.2.2.2.2.2.2.2.1, keep hb1 HK.out.2.2.2.2.2.2.2.2.2.2.1, keep hb1 HK.out.2.2.2.2.2.2.2.2.2.2.2.1, keep hb1 HK.out.2.2.2.2.2.2.2.2.2.2.2.2⟩
  clear hb1
  refine hK.out _ _ ⟨HK1.out.1, HK1.out.2.1, HK1.out.2.2.1, HK1.out.2.2.2.1⟩ (fun hHeld => ?_)
  clear hK K
  refine wpAnyH_ready (rs := [5]) (by kernel_rfl) (by simp) ?_
  refine AllReadyH.cons rfl (fun K hK => ?_) AllReadyH.nil
  go_simp
  refine (hL' _).mono ?_
  rintro e y2 ⟨rfl, hb2⟩
  have C2 := on C1 hb2
  have HK2 : Hid (y2.cell? ⟨w.heap.size, 0, none⟩ = some (.int .i64 a1) ∧ y2.cell? ⟨w.heap.size, 1, none⟩ = some (.int .i64 a2) ∧ y2.cell? ⟨w.heap.size + 1, 0, none⟩ = some (.int .i64 b1) ∧ y2.cell? ⟨w.heap.size + 1, 1, none⟩ = some (.int .i64 b2) ∧ y2.cell? ⟨w.heap.size + 1 + 1, 0, none⟩ = some (.int .i64 p1) ∧ y2.cell? ⟨w.heap.size + 1 + 1, 1, none⟩ = some (.int .i64 p2) ∧ y2.cell? ⟨w.heap.size + 1 + 1, 2, none⟩ = some (.int .i64 q1) ∧ y2.cell? ⟨w.heap.size + 1 + 1, 3, none⟩ = some (.int .i64 q2) ∧ y2.cell? ⟨w.heap.size + 1 + 1, 4, none⟩ = some (.slice x n c) ∧ y2.cell? ⟨w1.heap.size, 0, none⟩ = some (.int .i64 N1) ∧ y2.cell? ⟨w1.heap.size, 1, none⟩ = some (.int .i64 N2) ∧ y2.cell? ⟨w2.heap.size, 0, none⟩ = some (.int .i64 N1) ∧ y2.cell? ⟨w2.heap.size, 1, none⟩ = some (.int .i64 N2)) := ⟨keep hb2 HK1.out.1, keep hb2 HK1.out.2.1, keep hb2 HK1.out.2.2.1, keep hb2 HK1.out.2.2.2.1, keep hb2 HK1.out.2.2.2.2.1, keep hb2 HK1.out.2.2.2.2.2.1, keep hb2 HK1.out.2.2.2.2.2.2.1, keep hb2 HK1.out.2.2.2.2.2.2.2.1, keep hb2 HK1.out.2.2.2.2.2.2.2.2.1, keep hb2 HK1.out.2.2.2.2.2.2.2.2.2.1, keep hb2 HK1.out.2.2.2.2.2.2.2.2.2.2.1, keep hb2 HK1.out.2.2.2.2.2.2.2.2.2.2.2.1, keep hb2 HK1.out.2.2.2.2.2.2.2.2.2.2.2.2⟩
  clear hb2
  refine hK.out _ _ ⟨HK2.out.1, HK2.out.2.1, HK2.out.2.2.1, HK2.out.2.2.2.1⟩ (fun hHeld => ?_)
  clear hK K
  refine wpAnyH_take (i := 6) (v := ?_) rfl (by kernel_rfl) (by kernel_rfl) (by kernel_rfl) (fun _ _ _ h => h) (Or.inl ⟨by rfl, ?_⟩) (by assumption) ?_
  case refine_2 => (intro w hSw; (try dsimp only at hSw); go_simp; (try with_reducible rfl))
  (try simp only [Act.put, List.getElem_toArray, List.getElem_cons_succ, List.getElem_cons_zero, List.setIfInBounds_toArray, List.set_cons_zero, List.set_cons_succ])
  refine wpAnyH_take (i := 7) (v := ?_) rfl (by kernel_rfl) (by kernel_rfl) (by kernel_rfl) (fun _ _ _ h => h) (Or.inl ⟨by rfl, ?_⟩) (by assumption) ?_
  case refine_2 => (intro w hSw; (try dsimp only at hSw); go_simp; (try with_reducible rfl))
  (try simp only [Act.put, List.getElem_toArray, List.getElem_cons_succ, List.getElem_cons_zero, List.setIfInBounds_toArray, List.set_cons_zero, List.set_cons_succ])
  refine wpAnyH_take (i := 8) (v := ?_) rfl (by kernel_rfl) (by kernel_rfl) (by kernel_rfl) (fun _ _ _ h => h) (Or.inl ⟨by rfl, ?_⟩) (by assumption) ?_
  case refine_2 => (intro w hSw; (try dsimp only at hSw); go_simp; (try with_reducible rfl))
  (try simp only [Act.put, List.getElem_toArray, List.getElem_cons_succ, List.getElem_cons_zero, List.setIfInBounds_toArray, List.set_cons_zero, List.set_cons_succ])
  refine wpAnyH_take (i := 9) (v := ?_) rfl (by kernel_rfl) (by kernel_rfl) (by kernel_rfl) (fun _ _ _ h => h) (Or.inl ⟨by rfl, ?_⟩) (by assumption) ?_
  case refine_2 => (intro w hSw; (try dsimp only at hSw); go_simp; (try with_reducible rfl))
  (try simp only [Act.put, List.getElem_toArray, List.getElem_cons_succ, List.getElem_cons_zero, List.setIfInBounds_toArray, List.set_cons_zero, List.set_cons_succ])
  refine wpAnyH_ready (rs := [10]) (by kernel_rfl) (by simp) ?_
  refine AllReadyH.cons rfl (fun K hK => ?_) AllReadyH.nil
  go_simp
  refine (hI _).mono ?_
  rintro e y3 ⟨rfl, hb3⟩
  have C3 := on C2 hb3
  have HK3 : Hid (y3.cell? ⟨w.heap.size, 0, none⟩ = some (.int .i64 a1) ∧ y3.cell? ⟨w.heap.size, 1, none⟩ = some (.int .i64 a2) ∧ y3.cell? ⟨w.heap.size + 1, 0, none⟩ = some (.int .i64 b1) ∧ y3.cell? ⟨w.heap.size + 1, 1, none⟩ = some (.int .i64 b2) ∧ y3.cell? ⟨w.heap.size + 1 + 1, 0, none⟩ = some (.int .i64 p1) ∧ y3.cell? ⟨w.heap.size + 1 + 1, 1, none⟩ = some (.int .i64 p2) ∧ y3.cell? ⟨w.heap.size + 1 + 1, 2, none⟩ = some (.int .i64 q1) ∧ y3.cell? ⟨w.heap.size + 1 + 1, 3, none⟩ = some (.int .i64 q2) ∧ y3.cell? ⟨w.heap.size + 1 + 1, 4, none⟩ = some (.slice x n c) ∧ y3.cell? ⟨w1.heap.size, 0, none⟩ = some (.int .i64 N1) ∧ y3.cell? ⟨w1.heap.size, 1, none⟩ = some (.int .i64 N2) ∧ y3.cell? ⟨w2.heap.size, 0, none⟩ = some (.int .i64 N1) ∧ y3.cell? ⟨w2.heap.size, 1, none⟩ = some (.int .i64 N2)) := ⟨keep hb3 HK2.out.1, keep hb3 HK2.out.2.1, keep hb3 HK2.out.2.2.1, keep hb3 HK2.out.2.2.2.1, keep hb3 HK2.out.2.2.2.2.1, keep hb3 HK2.out.2.2.2.2.2.1, keep hb3 HK2.out.2.2.2.2.2.2.1, keep hb3 HK2.out.2.2.2.2.2.2.2.1, keep hb3 HK2.out.2.2.2.2.2.2.2.2.1, keep hb3 HK2.out.2.2.2.2.2.2.2.2.2.1, keep hb3 HK2.out.2.2.2.2.2.2.2.2.2.2.1, keep hb3 HK2.out.2.2.2.2.2.2.2.2.2.2.2.1, keep hb3 HK2.out.2.2.2.2.2.2.2.2.2.2.2.2⟩
  clear hb3
  refine hK.out _ _ ⟨HK3.out.1, HK3.out.2.1, HK3.out.2.2.1, HK3.out.2.2.2.1⟩ (fun hHeld => ?_)
  clear hK K
  refine wpAnyH_take (i := 11) (v := ?_) rfl (by kernel_rfl) (by kernel_rfl) (by kernel_rfl) (fun _ _ _ h => h) (Or.inl ⟨by rfl, ?_⟩) (by assumption) ?_
  case refine_2 => (intro w hSw; (try dsimp only at hSw); go_simp; (try with_reducible rfl))
  (try simp only [Act.put, List.getElem_toArray, List.getElem_cons_succ, List.getElem_cons_zero, List.setIfInBounds_toArray, List.set_cons_zero, List.set_cons_succ])
  refine wpAnyH_take (i := 12) (v := ?_) rfl (by kernel_rfl) (by kernel_rfl) (by kernel_rfl) (fun _ _ _ h => h) (Or.inl ⟨by rfl, ?_⟩) (by assumption) ?_
  case refine_2 => (intro w hSw; (try dsimp only at hSw); go_simp; (try with_reducible rfl))
  (try simp only [Act.put, List.getElem_toArray, List.getElem_cons_succ, List.getElem_cons_zero, List.setIfInBounds_toArray, List.set_cons_zero, List.set_cons_succ])
  refine wpAnyH_take (i := 13) (v := ?_) rfl (by kernel_rfl) (by kernel_rfl) (by kernel_rfl) (fun _ _ _ h => h) (Or.inl ⟨by rfl, ?_⟩) (by assumption) ?_
  case refine_2 => (intro w hSw; (try dsimp only at hSw); go_simp; (try with_reducible rfl))
  (try simp only [Act.put, List.getElem_toArray, List.getElem_cons_succ, List.getElem_cons_zero, List.setIfInBounds_toArray, List.set_cons_zero, List.set_cons_succ])
  refine wpAnyH_take (i := 14) (v := ?_) rfl (by kernel_rfl) (by kernel_rfl) (by kernel_rfl) (fun _ _ _ h => h) (Or.inl ⟨by rfl, ?_⟩) (by assumption) ?_
  case refine_2 => (intro w hSw; (try dsimp only at hSw); go_simp; (try with_reducible rfl))
  (try simp only [Act.put, List.getElem_toArray, List.getElem_cons_succ, List.getElem_cons_zero, List.setIfInBounds_toArray, List.set_cons_zero, List.set_cons_succ])
  refine wpAnyH_take (i := 15) (v := ?_) rfl (by kernel_rfl) (by kernel_rfl) (by kernel_rfl) (fun _ _ _ h => h) (Or.inl ⟨by rfl, ?_⟩) (by assumption) ?_
  case refine_2 => (intro w hSw; (try dsimp only at hSw); go_simp; (try with_reducible rfl))
  (try simp only [Act.put, List.getElem_toArray, List.getElem_cons_succ, List.getElem_cons_zero, List.setIfInBounds_toArray, List.set_cons_zero, List.set_cons_succ])
  refine wpAnyH_take (i := 16) (v := ?_) rfl (by kernel_rfl) (by kernel_rfl) (by kernel_rfl) (fun _ _ _ h => h) (Or.inl ⟨by rfl, ?_⟩) (by assumption) ?_
  case refine_2 => (intro w hSw; (try dsimp only at hSw); go_simp; (try with_reducible rfl))
  (try simp only [Act.put, List.getElem_toArray, List.getElem_cons_succ, List.getElem_cons_zero, List.setIfInBounds_toArray, List.set_cons_zero, List.set_cons_succ])
  refine wpAnyH_take (i := 17) (v := ?_) rfl (by kernel_rfl) (by kernel_rfl) (by kernel_rfl) (fun _ _ _ h => h) (Or.inl ⟨by rfl, ?_⟩) (by assumption) ?_
  case refine_2 => (intro w hSw; (try dsimp only at hSw); go_simp; (try with_reducible rfl))
  (try simp only [Act.put, List.getElem_toArray, List.getElem_cons_succ, List.getElem_cons_zero, List.setIfInBounds_toArray, List.set_cons_zero, List.set_cons_succ])
  refine wpAnyH_take (i := 18) (v := ?_) rfl (by kernel_rfl) (by kernel_rfl) (by kernel_rfl) (fun _ _ _ h => h) (Or.inl ⟨by rfl, ?_⟩) (by assumption) ?_
  case refine_2 => (intro w hSw; (try dsimp only at hSw); go_simp; (try with_reducible rfl))
  (try simp only [Act.put, List.getElem_toArray, List.getElem_cons_succ, List.getElem_cons_zero, List.setIfInBounds_toArray, List.set_cons_zero, List.set_cons_succ])
  refine wpAnyH_take (i := 20) (v := ?_) rfl (by kernel_rfl) (by kernel_rfl) (by kernel_rfl) (fun _ _ _ h => h) (Or.inl ⟨by rfl, ?_⟩) (by assumption) ?_
  case refine_2 => (intro w hSw; (try dsimp only at hSw); go_simp; (try with_reducible rfl))
  (try simp only [Act.put, List.getElem_toArray, List.getElem_cons_succ, List.getElem_cons_zero, List.setIfInBounds_toArray, List.set_cons_zero, List.set_cons_succ])
  refine wpAnyH_take (i := 21) (v := ?_) rfl (by kernel_rfl) (by kernel_rfl) (by kernel_rfl) (fun _ _ _ h => h) (Or.inl ⟨by rfl, ?_⟩) (by assumption) ?_
  case refine_2 => (intro w hSw; (try dsimp only at hSw); go_simp; (try with_reducible rfl))
  (try simp only [Act.put, List.getElem_toArray, List.getElem_cons_succ, List.getElem_cons_zero, List.setIfInBounds_toArray, List.set_cons_zero, List.set_cons_succ])
  refine wpAnyH_ready (rs := [19]) (by kernel_rfl) (by simp) ?_
  refine AllReadyH.cons rfl (fun K hK => ?_) AllReadyH.nil
  go_simp
  refine (hL _).mono ?_
  rintro e y4 ⟨rfl, hb4⟩
  have C4 := on C3 hb4
  have HK4 : Hid (y4.cell? ⟨w.heap.size, 0, none⟩ = some (.int .i64 a1) ∧ y4.cell? ⟨w.heap.size, 1, none⟩ = some (.int .i64 a2) ∧ y4.cell? ⟨w.heap.size + 1, 0, none⟩ = some (.int .i64 b1) ∧ y4.cell? ⟨w.heap.size + 1, 1, none⟩ = some (.int .i64 b2) ∧ y4.cell? ⟨w.heap.size + 1 + 1, 0, none⟩ = some (.int .i64 p1) ∧ y4.cell? ⟨w.heap.size + 1 + 1, 1, none⟩ = some (.int .i64 p2) ∧ y4.cell? ⟨w.heap.size + 1 + 1, 2, none⟩ = some (.int .i64 q1) ∧ y4.cell? ⟨w.heap.size + 1 + 1, 3, none⟩ = some (.int .i64 q2) ∧ y4.cell? ⟨w.heap.size + 1 + 1, 4, none⟩ = some (.slice x n c) ∧ y4.cell? ⟨w1.heap.size, 0, none⟩ = some (.int .i64 N1) ∧ y4.cell? ⟨w1.heap.size, 1, none⟩ = some (.int .i64 N2) ∧ y4.cell? ⟨w2.heap.size, 0, none⟩ = some (.int .i64 N1) ∧ y4.cell? ⟨w2.heap.size, 1, none⟩ = some (.int .i64 N2)) := ⟨keep hb4 HK3.out.1, keep hb4 HK3.out.2.1, keep hb4 HK3.out.2.2.1, keep hb4 HK3.out.2.2.2.1, keep hb4 HK3.out.2.2.2.2.1, keep hb4 HK3.out.2.2.2.2.2.1, keep hb4 HK3.out.2.2.2.2.2.2.1, keep hb4 HK3.out.2.2.2.2.2.2.2.1, keep hb4 HK3.out.2.2.2.2.2.2.2.2.1, keep hb4 HK3.out.2.2.2.2.2.2.2.2.2.1, keep hb4 HK3.out.2.2.2.2.2.2.2.2.2.2.1, keep hb4 HK3.out.2.2.2.2.2.2.2.2.2.2.2.1, keep hb4 HK3.out.2.2.2.2.2.2.2.2.2.2.2.2⟩
  clear hb4
  refine hK.out _ _ ⟨HK4.out.1, HK4.out.2.1, HK4.out.2.2.1, HK4.out.2.2.2.1⟩ (fun hHeld => ?_)
  clear hK K
  refine wpAnyH_ready (rs := [22]) (by kernel_rfl) (by simp) ?_
  refine AllReadyH.cons rfl (fun K hK => ?_) AllReadyH.nil
  go_simp
  refine (hG _).mono ?_
  rintro e y5 ⟨rfl, hb5⟩
  have C5 := on C4 hb5
  have HK5 : Hid (y5.cell? ⟨w.heap.size, 0, none⟩ = some (.int .i64 a1) ∧ y5.cell? ⟨w.heap.size, 1, none⟩ = some (.int .i64 a2) ∧ y5.cell? ⟨w.heap.size + 1, 0, none⟩ = some (.int .i64 b1) ∧ y5.cell? ⟨w.heap.size + 1, 1, none⟩ = some (.int .i64 b2) ∧ y5.cell? ⟨w.heap.size + 1 + 1, 0, none⟩ = some (.int .i64 p1) ∧ y5.cell? ⟨w.heap.size + 1 + 1, 1, none⟩ = some (.int .i64 p2) ∧ y5.cell? ⟨w.heap.size + 1 + 1, 2, none⟩ = some (.int .i64 q1) ∧ y5.cell? ⟨w.heap.size + 1 + 1, 3, none⟩ = some (.int .i64 q2) ∧ y5.cell? ⟨w.heap.size + 1 + 1, 4, none⟩ = some (.slice x n c) ∧ y5.cell? ⟨w1.heap.size, 0, none⟩ = some (.int .i64 N1) ∧ y5.cell? ⟨w1.heap.size, 1, none⟩ = some (.int .i64 N2) ∧ y5.cell? ⟨w2.heap.size, 0, none⟩ = some (.int .i64 N1) ∧ y5.cell? ⟨w2.heap.size, 1, none⟩ = some (.int .i64 N2)) := ⟨keep hb5 HK4.out.1, keep hb5 HK4.out.2.1, keep hb5 HK4.out.2.2.1, keep hb5 HK4.out.2.2.2.1, keep hb5 HK4.out.2.2.2.2.1, keep hb5 HK4.out.2.2.2.2.2.1, keep hb5 HK4.out.2.2.2.2.2.2.1, keep hb5 HK4.out.2.2.2.2.2.2.2.1, keep hb5 HK4.out.2.2.2.2.2.2.2.2.1, keep hb5 HK4.out.2.2.2.2.2.2.2.2.2.1, keep hb5 HK4.out.2.2.2.2.2.2.2.2.2.2.1, keep hb5 HK4.out.2.2.2.2.2.2.2.2.2.2.2.1, keep hb5 HK4.out.2.2.2.2.2.2.2.2.2.2.2.2⟩
  clear hb5
  refine hK.out _ _ ⟨HK5.out.1, HK5.out.2.1, HK5.out.2.2.1, HK5.out.2.2.2.1⟩ (fun hHeld => ?_)
  clear hK K
  refine wpAnyH_take (i := 23) (v := ?_) rfl (by kernel_rfl) (by kernel_rfl) (by kernel_rfl) (fun _ _ _ h => h) (Or.inl ⟨by rfl, ?_⟩) (by assumption) ?_
  case refine_2 => (intro w hSw; (try dsimp only at hSw); go_simp; (try with_reducible rfl))
  (try simp only [Act.put, List.getElem_toArray, List.getElem_cons_succ, List.getElem_cons_zero, List.setIfInBounds_toArray, List.set_cons_zero, List.set_cons_succ])
  refine wpAnyH_take (i := 24) (v := ?_) rfl (by kernel_rfl) (by kernel_rfl) (by kernel_rfl) (fun _ _ _ h => h) (Or.inl ⟨by rfl, ?_⟩) (by assumption) ?_
  case refine_2 => (intro w hSw; (try dsimp only at hSw); go_simp; (try with_reducible rfl))
  (try simp only [Act.put, List.getElem_toArray, List.getElem_cons_succ, List.getElem_cons_zero, List.setIfInBounds_toArray, List.set_cons_zero, List.set_cons_succ])
  refine wpAnyH_take (i := 25) (v := ?_) rfl (by kernel_rfl) (by kernel_rfl) (by kernel_rfl) (fun _ _ _ h => h) (Or.inl ⟨by rfl, ?_⟩) (by assumption) ?_
  case refine_2 => (intro w hSw; (try dsimp only at hSw); go_simp; (try with_reducible rfl))
  (try simp only [Act.put, List.getElem_toArray, List.getElem_cons_succ, List.getElem_cons_zero, List.setIfInBounds_toArray, List.set_cons_zero, List.set_cons_succ])
  refine wpAnyH_done (by kernel_rfl) ?_ _
  go_wp2_with fail
  have bE : Below y5.heap.size y5 y5.drew := (Below.refl _ _).drew
  have C0 := on C5 bE
  have HK0 : Hid (y5.drew.cell? ⟨w.heap.size, 0, none⟩ = some (.int .i64 a1) ∧ y5.drew.cell? ⟨w.heap.size, 1, none⟩ = some (.int .i64 a2) ∧ y5.drew.cell? ⟨w.heap.size + 1, 0, none⟩ = some (.int .i64 b1) ∧ y5.drew.cell? ⟨w.heap.size + 1, 1, none⟩ = some (.int .i64 b2) ∧ y5.drew.cell? ⟨w.heap.size + 1 + 1, 0, none⟩ = some (.int .i64 p1) ∧ y5.drew.cell? ⟨w.heap.size + 1 + 1, 1, none⟩ = some (.int .i64 p2) ∧ y5.drew.cell? ⟨w.heap.size + 1 + 1, 2, none⟩ = some (.int .i64 q1) ∧ y5.drew.cell? ⟨w.heap.size + 1 + 1, 3, none⟩ = some (.int .i64 q2) ∧ y5.drew.cell? ⟨w.heap.size + 1 + 1, 4, none⟩ = some (.slice x n c) ∧ y5.drew.cell? ⟨w1.heap.size, 0, none⟩ = some (.int .i64 N1) ∧ y5.drew.cell? ⟨w1.heap.size, 1, none⟩ = some (.int .i64 N2) ∧ y5.drew.cell? ⟨w2.heap.size, 0, none⟩ = some (.int .i64 N1) ∧ y5.drew.cell? ⟨w2.heap.size, 1, none⟩ = some (.int .i64 N2)) := ⟨keep bE HK5.out.1, keep bE HK5.out.2.1, keep bE HK5.out.2.2.1, keep bE HK5.out.2.2.2.1, keep bE HK5.out.2.2.2.2.1, keep bE HK5.out.2.2.2.2.2.1, keep bE HK5.out.2.2.2.2.2.2.1, keep bE HK5.out.2.2.2.2.2.2.2.1, keep bE HK5.out.2.2.2.2.2.2.2.2.1, keep bE HK5.out.2.2.2.2.2.2.2.2.2.1, keep bE HK5.out.2.2.2.2.2.2.2.2.2.2.1, keep bE HK5.out.2.2.2.2.2.2.2.2.2.2.2.1, keep bE HK5.out.2.2.2.2.2.2.2.2.2.2.2.2⟩
  clear bE
  refine wp_region_held_drew (S := fun v => v.cell? ⟨w.heap.size, 0, none⟩ = some (.int .i64 a1) ∧ v.cell? ⟨w.heap.size, 1, none⟩ = some (.int .i64 a2) ∧ v.cell? ⟨w.heap.size + 1, 0, none⟩ = some (.int .i64 b1) ∧ v.cell? ⟨w.heap.size + 1, 1, none⟩ = some (.int .i64 b2) ∧ v.cell? ⟨w.heap.size + 1 + 1, 0, none⟩ = some (.int .i64 p1) ∧ v.cell? ⟨w.heap.size + 1 + 1, 1, none⟩ = some (.int .i64 p2) ∧ v.cell? ⟨w.heap.size + 1 + 1, 2, none⟩ = some (.int .i64 q1) ∧ v.cell? ⟨w.heap.size + 1 + 1, 3, none⟩ = some (.int .i64 q2) ∧ v.cell? ⟨w.heap.size + 1 + 1, 4, none⟩ = some (.slice x n c) ∧ v.cell? ⟨w1.heap.size, 0, none⟩ = some (.int .i64 N1) ∧ v.cell? ⟨w1.heap.size, 1, none⟩ = some (.int .i64 N2) ∧ v.cell? ⟨w2.heap.size, 0, none⟩ = some (.int .i64 N1) ∧ v.cell? ⟨w2.heap.size, 1, none⟩ = some (.int .i64 N2)) (by kernel_rfl) HK0.out (fun hHeld => ?_)
  generalize y5.drew = wE at *
  refine wpAnyH_take (i := 0) (v := ?_) rfl (by kernel_rfl) (by kernel_rfl) (by kernel_rfl) (fun _ _ _ h => h) (Or.inl ⟨by rfl, ?_⟩) (by assumption) ?_
  case refine_2 => (intro w hSw; (try dsimp only at hSw); go_simp; (try with_reducible rfl))
  (try simp only [Act.put, List.getElem_toArray, List.getElem_cons_succ, List.getElem_cons_zero, List.setIfInBounds_toArray, List.set_cons_zero, List.set_cons_succ])
  refine wpAnyH_take (i := 1) (v := ?_) rfl (by kernel_rfl) (by kernel_rfl) (by kernel_rfl) (fun _ _ _ h => h) (Or.inl ⟨by rfl, ?_⟩) (by assumption) ?_
  case refine_2 => (intro w hSw; (try dsimp only at hSw); go_simp; (try with_reducible rfl))
  (try simp only [Act.put, List.getElem_toArray, List.getElem_cons_succ, List.getElem_cons_zero, List.setIfInBounds_toArray, List.set_cons_zero, List.set_cons_succ])
  refine wpAnyH_take (i := 2) (v := ?_) rfl (by kernel_rfl) (by kernel_rfl) (by kernel_rfl) (fun _ _ _ h => h) (Or.inl ⟨by rfl, ?_⟩) (by assumption) ?_
  case refine_2 => (intro w hSw; (try dsimp only at hSw); go_simp; (try with_reducible rfl))
  (try simp only [Act.put, List.getElem_toArray, List.getElem_cons_succ, List.getElem_cons_zero, List.setIfInBounds_toArray, List.set_cons_zero, List.set_cons_succ])
  refine wpAnyH_take (i := 3) (v := ?_) rfl (by kernel_rfl) (by kernel_rfl) (by kernel_rfl) (fun _ _ _ h => h) (Or.inl ⟨by rfl, ?_⟩) (by assumption) ?_
  case refine_2 => (intro w hSw; (try dsimp only at hSw); go_simp; (try with_reducible rfl))
  (try simp only [Act.put, List.getElem_toArray, List.getElem_cons_succ, List.getElem_cons_zero, List.setIfInBounds_toArray, List.set_cons_zero, List.set_cons_succ])
  refine wpAnyH_take (i := 4) (v := ?_) rfl (by kernel_rfl) (by kernel_rfl) (by kernel_rfl) (fun _ _ _ h => h) (Or.inl ⟨by rfl, ?_⟩) (by assumption) ?_
  case refine_2 => (intro w hSw; (try dsimp only at hSw); go_simp; (try with_reducible rfl))
  (try simp only [Act.put, List.getElem_toArray, List.getElem_cons_succ, List.getElem_cons_zero, List.setIfInBounds_toArray, List.set_cons_zero, List.set_cons_succ])
  refine wpAnyH_take (i := 5) (v := ?_) rfl (by kernel_rfl) (by kernel_rfl) (by kernel_rfl) (fun _ _ _ h => h) (Or.inl ⟨by rfl, ?_⟩) (by assumption) ?_
  case refine_2 => (intro w hSw; (try dsimp only at hSw); go_simp; (try with_reducible rfl))
  (try simp only [Act.put, List.getElem_toArray, List.getElem_cons_succ, List.getElem_cons_zero, List.setIfInBounds_toArray, List.set_cons_zero, List.set_cons_succ])
  refine wpAnyH_take (i := 6) (v := ?_) rfl (by kernel_rfl) (by kernel_rfl) (by kernel_rfl) (fun _ _ _ h => h) (Or.inl ⟨by rfl, ?_⟩) (by assumption) ?_
  case refine_2 => (intro w hSw; (try dsimp only at hSw); go_simp; (try with_reducible rfl))
  (try simp only [Act.put, List.getElem_toArray, List.getElem_cons_succ, List.getElem_cons_zero, List.setIfInBounds_toArray, List.set_cons_zero, List.set_cons_succ])
  refine wpAnyH_take (i := 7) (v := ?_) rfl (by kernel_rfl) (by kernel_rfl) (by kernel_rfl) (fun _ _ _ h => h) (Or.inl ⟨by rfl, ?_⟩) (by assumption) ?_
  case refine_2 => (intro w hSw; (try dsimp only at hSw); go_simp; (try with_reducible rfl))
  (try simp only [Act.put, List.getElem_toArray, List.getElem_cons_succ, List.getElem_cons_zero, List.setIfInBounds_toArray, List.set_cons_zero, List.set_cons_succ])
  refine wpAnyH_take (i := 8) (v := ?_) rfl (by kernel_rfl) (by kernel_rfl) (by kernel_rfl) (fun _ _ _ h => h) (Or.inl ⟨by rfl, ?_⟩) (by assumption) ?_
  case refine_2 => (intro w hSw; (try dsimp only at hSw); go_simp; (try with_reducible rfl))
  (try simp only [Act.put, List.getElem_toArray, List.getElem_cons_succ, List.getElem_cons_zero, List.setIfInBounds_toArray, List.set_cons_zero, List.set_cons_succ])
  refine wpAnyH_take (i := 9) (v := ?_) rfl (by kernel_rfl) (by kernel_rfl) (by kernel_rfl) (fun _ _ _ h => h) (Or.inl ⟨by rfl, ?_⟩) (by assumption) ?_
  case refine_2 => (intro w hSw; (try dsimp only at hSw); go_simp; (try with_reducible rfl))
  (try simp only [Act.put, List.getElem_toArray, List.getElem_cons_succ, List.getElem_cons_zero, List.setIfInBounds_toArray, List.set_cons_zero, List.set_cons_succ])
  refine wpAnyH_take (i := 10) (v := ?_) rfl (by kernel_rfl) (by kernel_rfl) (by kernel_rfl) (fun _ _ _ h => h) (Or.inl ⟨by rfl, ?_⟩) (by assumption) ?_
  case refine_2 => (intro w hSw; (try dsimp only at hSw); go_simp; (try with_reducible rfl))
  (try simp only [Act.put, List.getElem_toArray, List.getElem_cons_succ, List.getElem_cons_zero, List.setIfInBounds_toArray, List.set_cons_zero, List.set_cons_succ])
  refine wpAnyH_take (i := 11) (v := ?_) rfl (by kernel_rfl) (by kernel_rfl) (by kernel_rfl) (fun _ _ _ h => h) (Or.inl ⟨by rfl, ?_⟩) (by assumption) ?_
  case refine_2 => (intro w hSw; (try dsimp only at hSw); go_simp; (try with_reducible rfl))
  (try simp only [Act.put, List.getElem_toArray, List.getElem_cons_succ, List.getElem_cons_zero, List.setIfInBounds_toArray, List.set_cons_zero, List.set_cons_succ])
  refine wpAnyH_take (i := 12) (v := ?_) rfl (by kernel_rfl) (by kernel_rfl) (by kernel_rfl) (fun _ _ _ h => h) (Or.inl ⟨by rfl, ?_⟩) (by assumption) ?_
  case refine_2 => (intro w hSw; (try dsimp only at hSw); go_simp; (try with_reducible rfl))
  (try simp only [Act.put, List.getElem_toArray, List.getElem_cons_succ, List.getElem_cons_zero, List.setIfInBounds_toArray, List.set_cons_zero, List.set_cons_succ])
  refine wpAnyH_take (i := 13) (v := ?_) rfl (by kernel_rfl) (by kernel_rfl) (by kernel_rfl) (fun _ _ _ h => h) (Or.inl ⟨by rfl, ?_⟩) (by assumption) ?_
  case refine_2 => (intro w hSw; (try dsimp only at hSw); go_simp; (try with_reducible rfl))
  (try simp only [Act.put, List.getElem_toArray, List.getElem_cons_succ, List.getElem_cons_zero, List.setIfInBounds_toArray, List.set_cons_zero, List.set_cons_succ])
  refine wpAnyH_ready (rs := [14]) (by kernel_rfl) (by simp) ?_
  refine AllReadyH.cons rfl (fun K hK => ?_) AllReadyH.nil
  go_simp
  refine (hA _).mono ?_
  rintro e y6 ⟨rfl, hb6⟩
  have C6 := on C0 hb6
  have HK6 : Hid (y6.cell? ⟨w.heap.size, 0, none⟩ = some (.int .i64 a1) ∧ y6.cell? ⟨w.heap.size, 1, none⟩ = some (.int .i64 a2) ∧ y6.cell? ⟨w.heap.size + 1, 0, none⟩ = some (.int .i64 b1) ∧ y6.cell? ⟨w.heap.size + 1, 1, none⟩ = some (.int .i64 b2) ∧ y6.cell? ⟨w.heap.size + 1 + 1, 0, none⟩ = some (.int .i64 p1) ∧ y6.cell? ⟨w.heap.size + 1 + 1, 1, none⟩ = some (.int .i64 p2) ∧ y6.cell? ⟨w.heap.size + 1 + 1, 2, none⟩ = some (.int .i64 q1) ∧ y6.cell? ⟨w.heap.size + 1 + 1, 3, none⟩ = some (.int .i64 q2) ∧ y6.cell? ⟨w.heap.size + 1 + 1, 4, none⟩ = some (.slice x n c) ∧ y6.cell? ⟨w1.heap.size, 0, none⟩ = some (.int .i64 N1) ∧ y6.cell? ⟨w1.heap.size, 1, none⟩ = some (.int .i64 N2) ∧ y6.cell? ⟨w2.heap.size, 0, none⟩ = some (.int .i64 N1) ∧ y6.cell? ⟨w2.heap.size, 1, none⟩ = some (.int .i64 N2)) := ⟨keep hb6 HK0.out.1, keep hb6 HK0.out.2.1, keep hb6 HK0.out.2.2.1, keep hb6 HK0.out.2.2.2.1, keep hb6 HK0.out.2.2.2.2.1, keep hb6 HK0.out.2.2.2.2.2.1, keep hb6 HK0.out.2.2.2.2.2.2.1, keep hb6 HK0.out.2.2.2.2.2.2.2.1, keep hb6 HK0.out.2.2.2.2.2.2.2.2.1, keep hb6 HK0.out.2.2.2.2.2.2.2.2.2.1, keep hb6 HK0.out.2.2.2.2.2.2.2.2.2.2.1, keep hb6 HK0.out.2.2.2.2.2.2.2.2.2.2.2.1, keep hb6 HK0.out.2.2.2.2.2.2.2.2.2.2.2.2⟩
  clear hb6
  refine hK.out _ _ HK6.out (fun hHeld => ?_)
  clear hK K
  refine wpAnyH_take (i := 15) (v := ?_) rfl (by kernel_rfl) (by kernel_rfl) (by kernel_rfl) (fun _ _ _ h => h) (Or.inl ⟨by rfl, ?_⟩) (by assumption) ?_
  case refine_2 => (intro w hSw; (try dsimp only at hSw); go_simp; (try with_reducible rfl))
  (try simp only [Act.put, List.getElem_toArray, List.getElem_cons_succ, List.getElem_cons_zero, List.setIfInBounds_toArray, List.set_cons_zero, List.set_cons_succ])
  refine wpAnyH_take (i := 16) (v := ?_) rfl (by kernel_rfl) (by kernel_rfl) (by kernel_rfl) (fun _ _ _ h => h) (Or.inl ⟨by rfl, ?_⟩) (by assumption) ?_
  case refine_2 => (intro w hSw; (try dsimp only at hSw); go_simp; (try with_reducible rfl))
  (try simp only [Act.put, List.getElem_toArray, List.getElem_cons_succ, List.getElem_cons_zero, List.setIfInBounds_toArray, List.set_cons_zero, List.set_cons_succ])
  refine wpAnyH_take (i := 17) (v := ?_) rfl (by kernel_rfl) (by kernel_rfl) (by kernel_rfl) (fun _ _ _ h => h) (Or.inl ⟨by rfl, ?_⟩) (by assumption) ?_
  case refine_2 => (intro w hSw; (try dsimp only at hSw); go_simp; (try with_reducible rfl))
  (try simp only [Act.put, List.getElem_toArray, List.getElem_cons_succ, List.getElem_cons_zero, List.setIfInBounds_toArray, List.set_cons_zero, List.set_cons_succ])
  refine wpAnyH_take (i := 18) (v := ?_) rfl (by kernel_rfl) (by kernel_rfl) (by kernel_rfl) (fun _ _ _ h => h) (Or.inl ⟨by rfl, ?_⟩) (by assumption) ?_
  case refine_2 => (intro w hSw; (try dsimp only at hSw); go_simp; (try with_reducible rfl))
  (try simp only [Act.put, List.getElem_toArray, List.getElem_cons_succ, List.getElem_cons_zero, List.setIfInBounds_toArray, List.set_cons_zero, List.set_cons_succ])
  refine wpAnyH_take (i := 20) (v := ?_) rfl (by kernel_rfl) (by kernel_rfl) (by kernel_rfl) (fun _ _ _ h => h) (Or.inl ⟨by rfl, ?_⟩) (by assumption) ?_
  case refine_2 => (intro w hSw; (try dsimp only at hSw); go_simp; (try with_reducible rfl))
  (try simp only [Act.put, List.getElem_toArray, List.getElem_cons_succ, List.getElem_cons_zero, List.setIfInBounds_toArray, List.set_cons_zero, List.set_cons_succ])
  refine wpAnyH_ready (rs := [19]) (by kernel_rfl) (by simp) ?_
  refine AllReadyH.cons rfl (fun K hK => ?_) AllReadyH.nil
  go_simp
  refine (hM _).mono ?_
  rintro e y7 ⟨rfl, hb7⟩
  have C7 := on C6 hb7
  have HK7 : Hid (y7.cell? ⟨w.heap.size, 0, none⟩ = some (.int .i64 a1) ∧ y7.cell? ⟨w.heap.size, 1, none⟩ = some (.int .i64 a2) ∧ y7.cell? ⟨w.heap.size + 1, 0, none⟩ = some (.int .i64 b1) ∧ y7.cell? ⟨w.heap.size + 1, 1, none⟩ = some (.int .i64 b2) ∧ y7.cell? ⟨w.heap.size + 1 + 1, 0, none⟩ = some (.int .i64 p1) ∧ y7.cell? ⟨w.heap.size + 1 + 1, 1, none⟩ = some (.int .i64 p2) ∧ y7.cell? ⟨w.heap.size + 1 + 1, 2, none⟩ = some (.int .i64 q1) ∧ y7.cell? ⟨w.heap.size + 1 + 1, 3, none⟩ = some (.int .i64 q2) ∧ y7.cell? ⟨w.heap.size + 1 + 1, 4, none⟩ = some (.slice x n c) ∧ y7.cell? ⟨w1.heap.size, 0, none⟩ = some (.int .i64 N1) ∧ y7.cell? ⟨w1.heap.size, 1, none⟩ = some (.int .i64 N2) ∧ y7.cell? ⟨w2.heap.size, 0, none⟩ = some (.int .i64 N1) ∧ y7.cell? ⟨w2.heap.size, 1, none⟩ = some (.int .i64 N2)) := ⟨keep hb7 HK6.out.1, keep hb7 HK6.out.2.1, keep hb7 HK6.out.2.2.1, keep hb7 HK6.out.2.2.2.1, keep hb7 HK6.out.2.2.2.2.1, keep hb7 HK6.out.2.2.2.2.2.1, keep hb7 HK6.out.2.2.2.2.2.2.1, keep hb7 HK6.out.2.2.2.2.2.2.2.1, keep hb7 HK6.out.2.2.2.2.2.2.2.2.1, keep hb7 HK6.out.2.2.2.2.2.2.2.2.2.1, keep hb7 HK6.out.2.2.2.2.2.2.2.2.2.2.1, keep hb7 HK6.out.2.2.2.2.2.2.2.2.2.2.2.1, keep hb7 HK6.out.2.2.2.2.2.2.2.2.2.2.2.2⟩
  clear hb7
  refine hK.out _ _ HK7.out (fun hHeld => ?_)
  clear hK K
  refine wpAnyH_ready (rs := [21]) (by kernel_rfl) (by simp) ?_
  refine AllReadyH.cons rfl (fun K hK => ?_) AllReadyH.nil
  go_simp
  refine (hQ _).mono ?_
  rintro e y8 ⟨rfl, hb8⟩
  have C8 := on C7 hb8
  have HK8 : Hid (y8.cell? ⟨w.heap.size, 0, none⟩ = some (.int .i64 a1) ∧ y8.cell? ⟨w.heap.size, 1, none⟩ = some (.int .i64 a2) ∧ y8.cell? ⟨w.heap.size + 1, 0, none⟩ = some (.int .i64 b1) ∧ y8.cell? ⟨w.heap.size + 1, 1, none⟩ = some (.int .i64 b2) ∧ y8.cell? ⟨w.heap.size + 1 + 1, 0, none⟩ = some (.int .i64 p1) ∧ y8.cell? ⟨w.heap.size + 1 + 1, 1, none⟩ = some (.int .i64 p2) ∧ y8.cell? ⟨w.heap.size + 1 + 1, 2, none⟩ = some (.int .i64 q1) ∧ y8.cell? ⟨w.heap.size + 1 + 1, 3, none⟩ = some (.int .i64 q2) ∧ y8.cell? ⟨w.heap.size + 1 + 1, 4, none⟩ = some (.slice x n c) ∧ y8.cell? ⟨w1.heap.size, 0, none⟩ = some (.int .i64 N1) ∧ y8.cell? ⟨w1.heap.size, 1, none⟩ = some (.int .i64 N2) ∧ y8.cell? ⟨w2.heap.size, 0, none⟩ = some (.int .i64 N1) ∧ y8.cell? ⟨w2.heap.size, 1, none⟩ = some (.int .i64 N2)) := ⟨keep hb8 HK7.out.1, keep hb8 HK7.out.2.1, keep hb8 HK7.out.2.2.1, keep hb8 HK7.out.2.2.2.1, keep hb8 HK7.out.2.2.2.2.1, keep hb8 HK7.out.2.2.2.2.2.1, keep hb8 HK7.out.2.2.2.2.2.2.1, keep hb8 HK7.out.2.2.2.2.2.2.2.1, keep hb8 HK7.out.2.2.2.2.2.2.2.2.1, keep hb8 HK7.out.2.2.2.2.2.2.2.2.2.1, keep hb8 HK7.out.2.2.2.2.2.2.2.2.2.2.1, keep hb8 HK7.out.2.2.2.2.2.2.2.2.2.2.2.1, keep hb8 HK7.out.2.2.2.2.2.2.2.2.2.2.2.2⟩
  clear hb8
  refine hK.out _ _ HK8.out (fun hHeld => ?_)
  clear hK K
  refine wpAnyH_take (i := 22) (v := ?_) rfl (by kernel_rfl) (by kernel_rfl) (by kernel_rfl) (fun _ _ _ h => h) (Or.inl ⟨by rfl, ?_⟩) (by assumption) ?_
  case refine_2 => (intro w hSw; (try dsimp only at hSw); go_simp; (try with_reducible rfl))
  (try simp only [Act.put, List.getElem_toArray, List.getElem_cons_succ, List.getElem_cons_zero, List.setIfInBounds_toArray, List.set_cons_zero, List.set_cons_succ])
  refine wpAnyH_take (i := 23) (v := ?_) rfl (by kernel_rfl) (by kernel_rfl) (by kernel_rfl) (fun _ _ _ h => h) (Or.inl ⟨by rfl, ?_⟩) (by assumption) ?_
  case refine_2 => (intro w hSw; (try dsimp only at hSw); go_simp; (try with_reducible rfl))
  (try simp only [Act.put, List.getElem_toArray, List.getElem_cons_succ, List.getElem_cons_zero, List.setIfInBounds_toArray, List.set_cons_zero, List.set_cons_succ])
  refine wpAnyH_take (i := 24) (v := ?_) rfl (by kernel_rfl) (by kernel_rfl) (by kernel_rfl) (fun _ _ _ h => h) (Or.inl ⟨by rfl, ?_⟩) (by assumption) ?_
  case refine_2 => (intro w hSw; (try dsimp only at hSw); go_simp; (try with_reducible rfl))
  (try simp only [Act.put, List.getElem_toArray, List.getElem_cons_succ, List.getElem_cons_zero, List.setIfInBounds_toArray, List.set_cons_zero, List.set_cons_succ])
  refine wpAnyH_ready (rs := [25]) (by kernel_rfl) (by simp) ?_
  refine AllReadyH.cons rfl (fun K hK => ?_) AllReadyH.nil
  go_simp
  refine (hW _).mono ?_
  rintro e y9 ⟨rfl, hb9⟩
  have C9 := on C8 hb9
  have HK9 : Hid (y9.cell? ⟨w.heap.size, 0, none⟩ = some (.int .i64 a1) ∧ y9.cell? ⟨w.heap.size, 1, none⟩ = some (.int .i64 a2) ∧ y9.cell? ⟨w.heap.size + 1, 0, none⟩ = some (.int .i64 b1) ∧ y9.cell? ⟨w.heap.size + 1, 1, none⟩ = some (.int .i64 b2) ∧ y9.cell? ⟨w.heap.size + 1 + 1, 0, none⟩ = some (.int .i64 p1) ∧ y9.cell? ⟨w.heap.size + 1 + 1, 1, none⟩ = some (.int .i64 p2) ∧ y9.cell? ⟨w.heap.size + 1 + 1, 2, none⟩ = some (.int .i64 q1) ∧ y9.cell? ⟨w.heap.size + 1 + 1, 3, none⟩ = some (.int .i64 q2) ∧ y9.cell? ⟨w.heap.size + 1 + 1, 4, none⟩ = some (.slice x n c) ∧ y9.cell? ⟨w1.heap.size, 0, none⟩ = some (.int .i64 N1) ∧ y9.cell? ⟨w1.heap.size, 1, none⟩ = some (.int .i64 N2) ∧ y9.cell? ⟨w2.heap.size, 0, none⟩ = some (.int .i64 N1) ∧ y9.cell? ⟨w2.heap.size, 1, none⟩ = some (.int .i64 N2)) := ⟨keep hb9 HK8.out.1, keep hb9 HK8.out.2.1, keep hb9 HK8.out.2.2.1, keep hb9 HK8.out.2.2.2.1, keep hb9 HK8.out.2.2.2.2.1, keep hb9 HK8.out.2.2.2.2.2.1, keep hb9 HK8.out.2.2.2.2.2.2.1, keep hb9 HK8.out.2.2.2.2.2.2.2.1, keep hb9 HK8.out.2.2.2.2.2.2.2.2.1, keep hb9 HK8.out.2.2.2.2.2.2.2.2.2.1, keep hb9 HK8.out.2.2.2.2.2.2.2.2.2.2.1, keep hb9 HK8.out.2.2.2.2.2.2.2.2.2.2.2.1, keep hb9 HK8.out.2.2.2.2.2.2.2.2.2.2.2.2⟩
  clear hb9
  refine hK.out _ _ HK9.out (fun hHeld => ?_)
  clear hK K
  refine wpAnyH_take (i := 26) (v := ?_) rfl (by kernel_rfl) (by kernel_rfl) (by kernel_rfl) (fun _ _ _ h => h) (Or.inl ⟨by rfl, ?_⟩) (by assumption) ?_
  case refine_2 => (intro w hSw; (try dsimp only at hSw); go_simp; (try with_reducible rfl))
  (try simp only [Act.put, List.getElem_toArray, List.getElem_cons_succ, List.getElem_cons_zero, List.setIfInBounds_toArray, List.set_cons_zero, List.set_cons_succ])
  refine wpAnyH_take (i := 27) (v := ?_) rfl (by kernel_rfl) (by kernel_rfl) (by kernel_rfl) (fun _ _ _ h => h) (Or.inl ⟨by rfl, ?_⟩) (by assumption) ?_
  case refine_2 => (intro w hSw; (try dsimp only at hSw); go_simp; (try with_reducible rfl))
  (try simp only [Act.put, List.getElem_toArray, List.getElem_cons_succ, List.getElem_cons_zero, List.setIfInBounds_toArray, List.set_cons_zero, List.set_cons_succ])
  refine wpAnyH_done (by kernel_rfl) ?_ _
  go_wp2_with fail
  go_ret
  exact ⟨by simp, C9⟩

set_option maxHeartbeats 4000000 in
set_option maxRecDepth 100000 in
theorem orders_ne_f (a1 a2 b1 b2 N1 N2 p1 p2 q1 q2 : Int) (x : Option Addr) (n c : Nat) (t mt : Bool) (w : World) (hne : ¬ (a1 = b1 ∧ a2 = b2))
    (hN : ∀ W, Calls Try.prog 6 #[.agg #[.int .i64 a1, .int .i64 a2], .int .i64 b2] W fun e w' => e = .returned (.tuple #[.agg #[.int .i64 N1, .int .i64 N2], .bool false]) ∧ Below W.heap.size W w')
    (hR : ∀ W, Calls Try.prog 7 #[.agg #[.int .i64 a1, .int .i64 a2], .int .i64 b2] W fun e w' => e = .returned (.tuple #[.agg #[.int .i64 N1, .int .i64 N2], .bool false]) ∧ Below W.heap.size W w')
    (hM : ∀ W, Calls Try.prog 10 #[.agg #[.int .i64 p1, .int .i64 p2, .int .i64 q1, .int .i64 q2, .slice x n c]] W fun e w' => e = .returned (.bool mt) ∧ Below W.heap.size W w')
    (hQ : ∀ W, Calls Try.prog 11 #[.agg #[.int .i64 p1, .int .i64 p2, .int .i64 q1, .int .i64 q2, .slice x n c]] W fun e w' => e = .returned (.bool mt) ∧ Below W.heap.size W w') :
    Calls Try.prog 3 #[.agg #[.int .i64 a1, .int .i64 a2], .agg #[.int .i64 b1, .int .i64 b2], .agg #[.int .i64 p1, .int .i64 p2, .int .i64 q1, .int .i64 q2, .slice x n c]] w fun e w' => e = .returned (.bool true) ∧ Below w.heap.size w w' := by
  have hL := fun W => less_any (a1, a2) (b1, b2) W
  have hL' := fun W => rless_any (a1, a2) (b1, b2) W
  have hI := fun W => less_any (a1, a2) (a1, a2) W
  rw [ltb_irr] at hI
  have hG := fun W => less_any (b1, b2) (a1, a2) W
  have hW := fun W => awake_any W
  have hE := fun W => eq_bt N1 N2 N1 N2 W
  simp only [decide_true, Bool.and_self] at hE
  have hD := fun W => neq_bt a1 a2 b1 b2 W
  have hd2 : (decide (a1 = b1) && decide (a2 = b2)) = false := by
    cases h : (decide (a1 = b1) && decide (a2 = b2)) with
    | false => rfl
    | true => simp at h; exact absurd h hne
  rw [hd2] at hD
  simp only [Bool.not_false] at hD
  have hT : (ltb (a1, a2) (b1, b2) == ltb (b1, b2) (a1, a2)) = false := ltb_tri (fun e => hne (by simpa using e))
  clear hd2 hne
  generalize ltb (b1, b2) (a1, a2) = t2 at *
  generalize ltb (a1, a2) (b1, b2) = t1 at *
  dsimp only [bt] at *
  have b0 : ∀ x y z, Below w.heap.size w (((w.alloc x).alloc y).alloc z) := fun x y z => on (on (al _ _) (al _ _)) (al _ _)
  go_enter Try.func3, Try.ntmps3
  go_wp2_with (first
    | (
       go_at_call 6; refine (hN _).mono ?_; rintro e w1 ⟨rfl, hb1⟩; clear hN
       have k0 := keep hb1 (b := w.heap.size) (o := 0) (x := .int .i64 a1) (by first | assumption | go_simp)
       have k1 := keep hb1 (b := w.heap.size) (o := 1) (x := .int .i64 a2) (by first | assumption | go_simp)
       have j0 := keep hb1 (b := w.heap.size + 1) (o := 0) (x := .int .i64 b1) (by first | assumption | go_simp)
       have j1 := keep hb1 (b := w.heap.size + 1) (o := 1) (x := .int .i64 b2) (by first | assumption | go_simp)
       have z0 := keep hb1 (b := w.heap.size + 1 + 1) (o := 0) (x := .int .i64 p1) (by first | assumption | go_simp)
       have z1 := keep hb1 (b := w.heap.size + 1 + 1) (o := 1) (x := .int .i64 p2) (by first | assumption | go_simp)
       have z2 := keep hb1 (b := w.heap.size + 1 + 1) (o := 2) (x := .int .i64 q1) (by first | assumption | go_simp)
       have z3 := keep hb1 (b := w.heap.size + 1 + 1) (o := 3) (x := .int .i64 q2) (by first | assumption | go_simp)
       have z4 := keep hb1 (b := w.heap.size + 1 + 1) (o := 4) (x := .slice x n c) (by first | assumption | go_simp)
       have l0 : w.heap.size < w1.heap.size := cell_lt' k0
       have l1 : w.heap.size + 1 < w1.heap.size := cell_lt' j0
       have l2 : w.heap.size + 1 + 1 < w1.heap.size := cell_lt' z0
       have B1 := on (b0 _ _ _) hb1; clear hb1)
    | (
       go_at_call 7; refine (hR _).mono ?_; rintro e w2 ⟨rfl, hb2⟩; clear hR
       have k0 := keep hb2 (b := w.heap.size) (o := 0) (x := .int .i64 a1) (by first | assumption | go_simp)
       have k1 := keep hb2 (b := w.heap.size) (o := 1) (x := .int .i64 a2) (by first | assumption | go_simp)
       have j0 := keep hb2 (b := w.heap.size + 1) (o := 0) (x := .int .i64 b1) (by first | assumption | go_simp)
       have j1 := keep hb2 (b := w.heap.size + 1) (o := 1) (x := .int .i64 b2) (by first | assumption | go_simp)
       have z0 := keep hb2 (b := w.heap.size + 1 + 1) (o := 0) (x := .int .i64 p1) (by first | assumption | go_simp)
       have z1 := keep hb2 (b := w.heap.size + 1 + 1) (o := 1) (x := .int .i64 p2) (by first | assumption | go_simp)
       have z2 := keep hb2 (b := w.heap.size + 1 + 1) (o := 2) (x := .int .i64 q1) (by first | assumption | go_simp)
       have z3 := keep hb2 (b := w.heap.size + 1 + 1) (o := 3) (x := .int .i64 q2) (by first | assumption | go_simp)
       have z4 := keep hb2 (b := w.heap.size + 1 + 1) (o := 4) (x := .slice x n c) (by first | assumption | go_simp)
       have u0 := keep hb2 (b := w1.heap.size) (o := 0) (x := .int .i64 N1) (by first | assumption | go_simp)
       have u1 := keep hb2 (b := w1.heap.size) (o := 1) (x := .int .i64 N2) (by first | assumption | go_simp)
       have l3 : w.heap.size < w2.heap.size := cell_lt' k0
       have l4 : w.heap.size + 1 < w2.heap.size := cell_lt' j0
       have l5 : w.heap.size + 1 + 1 < w2.heap.size := cell_lt' z0
       have l6 : w1.heap.size < w2.heap.size := cell_lt' u0
       have B2 := on (on B1 (al _ _)) hb2; clear hb2 B1))
  have bD : Below (w2.alloc (.cells #[.int .i64 N1, .int .i64 N2] 23)).heap.size (w2.alloc (.cells #[.int .i64 N1, .int .i64 N2] 23)) (w2.alloc (.cells #[.int .i64 N1, .int .i64 N2] 23)).drew := (Below.refl _ _).drew
  have k0 := keep bD (b := w.heap.size) (o := 0) (x := .int .i64 a1) (by first | assumption | go_simp)
  have k1 := keep bD (b := w.heap.size) (o := 1) (x := .int .i64 a2) (by first | assumption | go_simp)
  have j0 := keep bD (b := w.heap.size + 1) (o := 0) (x := .int .i64 b1) (by first | assumption | go_simp)
  have j1 := keep bD (b := w.heap.size + 1) (o := 1) (x := .int .i64 b2) (by first | assumption | go_simp)
  have z0 := keep bD (b := w.heap.size + 1 + 1) (o := 0) (x := .int .i64 p1) (by first | assumption | go_simp)
  have z1 := keep bD (b := w.heap.size + 1 + 1) (o := 1) (x := .int .i64 p2) (by first | assumption | go_simp)
  have z2 := keep bD (b := w.heap.size + 1 + 1) (o := 2) (x := .int .i64 q1) (by first | assumption | go_simp)
  have z3 := keep bD (b := w.heap.size + 1 + 1) (o := 3) (x := .int .i64 q2) (by first | assumption | go_simp)
  have z4 := keep bD (b := w.heap.size + 1 + 1) (o := 4) (x := .slice x n c) (by first | assumption | go_simp)
  have u0 := keep bD (b := w1.heap.size) (o := 0) (x := .int .i64 N1) (by first | assumption | go_simp)
  have u1 := keep bD (b := w1.heap.size) (o := 1) (x := .int .i64 N2) (by first | assumption | go_simp)
  have v0 := keep bD (b := w2.heap.size) (o := 0) (x := .int .i64 N1) (by first | assumption | go_simp)
  have v1 := keep bD (b := w2.heap.size) (o := 1) (x := .int .i64 N2) (by first | assumption | go_simp)
  have B3 := on (on B2 (al _ _)) bD
  have HK : Hid ((w2.alloc (.cells #[.int .i64 N1, .int .i64 N2] 23)).drew.cell? ⟨w.heap.size, 0, none⟩ = some (.int .i64 a1) ∧ (w2.alloc (.cells #[.int .i64 N1, .int .i64 N2] 23)).drew.cell? ⟨w.heap.size, 1, none⟩ = some (.int .i64 a2) ∧ (w2.alloc (.cells #[.int .i64 N1, .int .i64 N2] 23)).drew.cell? ⟨w.heap.size + 1, 0, none⟩ = some (.int .i64 b1) ∧ (w2.alloc (.cells #[.int .i64 N1, .int .i64 N2] 23)).drew.cell? ⟨w.heap.size + 1, 1, none⟩ = some (.int .i64 b2) ∧ (w2.alloc (.cells #[.int .i64 N1, .int .i64 N2] 23)).drew.cell? ⟨w.heap.size + 1 + 1, 0, none⟩ = some (.int .i64 p1) ∧ (w2.alloc (.cells #[.int .i64 N1, .int .i64 N2] 23)).drew.cell? ⟨w.heap.size + 1 + 1, 1, none⟩ = some (.int .i64 p2) ∧ (w2.alloc (.cells #[.int .i64 N1, .int .i64 N2] 23)).drew.cell? ⟨w.heap.size + 1 + 1, 2, none⟩ = some (.int .i64 q1) ∧ (w2.alloc (.cells #[.int .i64 N1, .int .i64 N2] 23)).drew.cell? ⟨w.heap.size + 1 + 1, 3, none⟩ = some (.int .i64 q2) ∧ (w2.alloc (.cells #[.int .i64 N1, .int .i64 N2] 23)).drew.cell? ⟨w.heap.size + 1 + 1, 4, none⟩ = some (.slice x n c) ∧ (w2.alloc (.cells #[.int .i64 N1, .int .i64 N2] 23)).drew.cell? ⟨w1.heap.size, 0, none⟩ = some (.int .i64 N1) ∧ (w2.alloc (.cells #[.int .i64 N1, .int .i64 N2] 23)).drew.cell? ⟨w1.heap.size, 1, none⟩ = some (.int .i64 N2) ∧ (w2.alloc (.cells #[.int .i64 N1, .int .i64 N2] 23)).drew.cell? ⟨w2.heap.size, 0, none⟩ = some (.int .i64 N1) ∧ (w2.alloc (.cells #[.int .i64 N1, .int .i64 N2] 23)).drew.cell? ⟨w2.heap.size, 1, none⟩ = some (.int .i64 N2)) := ⟨k0, k1, j0, j1, z0, z1, z2, z3, z4, u0, u1, v0, v1⟩
  clear bD B2 k0 k1 j0 j1 z0 z1 z2 z3 z4 u0 u1 v0 v1 l0 l1 l2 l3 l4 l5
  refine wp_region_held_drew (S := fun v => v.cell? ⟨w.heap.size, 0, none⟩ = some (.int .i64 a1) ∧ v.cell? ⟨w.heap.size, 1, none⟩ = some (.int .i64 a2) ∧ v.cell? ⟨w.heap.size + 1, 0, none⟩ = some (.int .i64 b1) ∧ v.cell? ⟨w.heap.size + 1, 1, none⟩ = some (.int .i64 b2)) (by kernel_rfl) ⟨HK.out.1, HK.out.2.1, HK.out.2.2.1, HK.out.2.2.2.1⟩ (fun hHeld => ?_)
  generalize (w2.alloc (.cells #[.int .i64 N1, .int .i64 N2] 23)).drew = wD at *
  refine wpAnyH_take (i := 0) (v := ?_) rfl (by kernel_rfl) (by kernel_rfl) (by kernel_rfl) (fun _ _ _ h => h) (Or.inl ⟨by rfl, ?_⟩) (by assumption) ?_
  case refine_2 => (intro w hSw; (try dsimp only at hSw); go_simp; (try with_reducible rfl))
  (try simp only [Act.put, List.getElem_toArray, List.getElem_cons_succ, List.getElem_cons_zero, List.setIfInBounds_toArray, List.set_cons_zero, List.set_cons_succ])
  refine wpAnyH_take (i := 1) (v := ?_) rfl (by kernel_rfl) (by kernel_rfl) (by kernel_rfl) (fun _ _ _ h => h) (Or.inl ⟨by rfl, ?_⟩) (by assumption) ?_
  case refine_2 => (intro w hSw; (try dsimp only at hSw); go_simp; (try with_reducible rfl))
  (try simp only [Act.put, List.getElem_toArray, List.getElem_cons_succ, List.getElem_cons_zero, List.setIfInBounds_toArray, List.set_cons_zero, List.set_cons_succ])
  refine wpAnyH_take (i := 3) (v := ?_) rfl (by kernel_rfl) (by kernel_rfl) (by kernel_rfl) (fun _ _ _ h => h) (Or.inl ⟨by rfl, ?_⟩) (by assumption) ?_
  case refine_2 => (intro w hSw; (try dsimp only at hSw); go_simp; (try with_reducible rfl))
  (try simp only [Act.put, List.getElem_toArray, List.getElem_cons_succ, List.getElem_cons_zero, List.setIfInBounds_toArray, List.set_cons_zero, List.set_cons_succ])
  refine wpAnyH_take (i := 4) (v := ?_) rfl (by kernel_rfl) (by kernel_rfl) (by kernel_rfl) (fun _ _ _ h => h) (Or.inl ⟨by rfl, ?_⟩) (by assumption) ?_
  case refine_2 => (intro w hSw; (try dsimp only at hSw); go_simp; (try with_reducible rfl))
  (try simp only [Act.put, List.getElem_toArray, List.getElem_cons_succ, List.getElem_cons_zero, List.setIfInBounds_toArray, List.set_cons_zero, List.set_cons_succ])
  refine wpAnyH_ready (rs := [2]) (by kernel_rfl) (by simp) ?_
  refine AllReadyH.cons rfl (fun K hK => ?_) AllReadyH.nil
  go_simp
  refine (hL _).mono ?_
  rintro e y1 ⟨rfl, hb1⟩
  have C1 := on B3 hb1
  have HK1 : Hid (y1.cell? ⟨w.heap.size, 0, none⟩ = some (.int .i64 a1) ∧ y1.cell? ⟨w.heap.size, 1, none⟩ = some (.int .i64 a2) ∧ y1.cell? ⟨w.heap.size + 1, 0, none⟩ = some (.int .i64 b1) ∧ y1.cell? ⟨w.heap.size + 1, 1, none⟩ = some (.int .i64 b2) ∧ y1.cell? ⟨w.heap.size + 1 + 1, 0, none⟩ = some (.int .i64 p1) ∧ y1.cell? ⟨w.heap.size + 1 + 1, 1, none⟩ = some (.int .i64 p2) ∧ y1.cell? ⟨w.heap.size + 1 + 1, 2, none⟩ = some (.int .i64 q1) ∧ y1.cell? ⟨w.heap.size + 1 + 1, 3, none⟩ = some (.int .i64 q2) ∧ y1.cell? ⟨w.heap.size + 1 + 1, 4, none⟩ = some (.slice x n c) ∧ y1.cell? ⟨w1.heap.size, 0, none⟩ = some (.int .i64 N1) ∧ y1.cell? ⟨w1.heap.size, 1, none⟩ = some (.int .i64 N2) ∧ y1.cell? ⟨w2.heap.size, 0, none⟩ = some (.int .i64 N1) ∧ y1.cell? ⟨w2.heap.size, 1, none⟩ = some (.int .i64 N2)) := ⟨keep hb1 HK.out.1, keep hb1 HK.out.2.1, keep hb1 HK.out.2.2.1, keep hb1 HK.out.2.2.2.1, keep hb1 HK.out.2.2.2.2.1, keep hb1 HK.out.2.2.2.2.2.1, keep hb1 HK.out.2.2.2.2.2.2.1, keep hb1 HK.out.2.2.2.2.2.2.2.1, keep hb1 HK.out.2.2.2.2.2.2.2.2.1, keep hb1 HK.out.2.2.2.2.2.2.2.2.2.1, keep hb1 HK.out.2.2.2.2.2.2.2.2.2.2.1, keep hb1 HK.out.2.2.2.2.2.2.2.2.2.2.2.1, keep hb1 HK.out.2.2.2.2.2.2.2.2.2.2.2.2⟩
  clear hb1
  refine hK.out _ _ ⟨HK1.out.1, HK1.out.2.1, HK1.out.2.2.1, HK1.out.2.2.2.1⟩ (fun hHeld => ?_)
  clear hK K
  refine wpAnyH_ready (rs := [5]) (by kernel_rfl) (by simp) ?_
  refine AllReadyH.cons rfl (fun K hK => ?_) AllReadyH.nil
  go_simp
  refine (hL' _).mono ?_
  rintro e y2 ⟨rfl, hb2⟩
  have C2 := on C1 hb2
  have HK2 : Hid (y2.cell? ⟨w.heap.size, 0, none⟩ = some (.int .i64 a1) ∧ y2.cell? ⟨w.heap.size, 1, none⟩ = some (.int .i64 a2) ∧ y2.cell? ⟨w.heap.size + 1, 0, none⟩ = some (.int .i64 b1) ∧ y2.cell? ⟨w.heap.size + 1, 1, none⟩ = some (.int .i64 b2) ∧ y2.cell? ⟨w.heap.size + 1 + 1, 0, none⟩ = some (.int .i64 p1) ∧ y2.cell? ⟨w.heap.size + 1 + 1, 1, none⟩ = some (.int .i64 p2) ∧ y2.cell? ⟨w.heap.size + 1 + 1, 2, none⟩ = some (.int .i64 q1) ∧ y2.cell? ⟨w.heap.size + 1 + 1, 3, none⟩ = some (.int .i64 q2) ∧ y2.cell? ⟨w.heap.size + 1 + 1, 4, none⟩ = some (.slice x n c) ∧ y2.cell? ⟨w1.heap.size, 0, none⟩ = some (.int .i64 N1) ∧ y2.cell? ⟨w1.heap.size, 1, none⟩ = some (.int .i64 N2) ∧ y2.cell? ⟨w2.heap.size, 0, none⟩ = some (.int .i64 N1) ∧ y2.cell? ⟨w2.heap.size, 1, none⟩ = some (.int .i64 N2)) := ⟨keep hb2 HK1.out.1, keep hb2 HK1.out.2.1, keep hb2 HK1.out.2.2.1, keep hb2 HK1.out.2.2.2.1, keep hb2 HK1.out.2.2.2.2.1, keep hb2 HK1.out.2.2.2.2.2.1, keep hb2 HK1.out.2.2.2.2.2.2.1, keep hb2 HK1.out.2.2.2.2.2.2.2.1, keep hb2 HK1.out.2.2.2.2.2.2.2.2.1, keep hb2 HK1.out.2.2.2.2.2.2.2.2.2.1, keep hb2 HK1.out.2.2.2.2.2.2.2.2.2.2.1, keep hb2 HK1.out.2.2.2.2.2.2.2.2.2.2.2.1, keep hb2 HK1.out.2.2.2.2.2.2.2.2.2.2.2.2⟩
  clear hb2
  refine hK.out _ _ ⟨HK2.out.1, HK2.out.2.1, HK2.out.2.2.1, HK2.out.2.2.2.1⟩ (fun hHeld => ?_)
  clear hK K
  refine wpAnyH_take (i := 6) (v := ?_) rfl (by kernel_rfl) (by kernel_rfl) (by kernel_rfl) (fun _ _ _ h => h) (Or.inl ⟨by rfl, ?_⟩) (by assumption) ?_
  case refine_2 => (intro w hSw; (try dsimp only at hSw); go_simp; (try with_reducible rfl))
  (try simp only [Act.put, List.getElem_toArray, List.getElem_cons_succ, List.getElem_cons_zero, List.setIfInBounds_toArray, List.set_cons_zero, List.set_cons_succ])
  refine wpAnyH_take (i := 7) (v := ?_) rfl (by kernel_rfl) (by kernel_rfl) (by kernel_rfl) (fun _ _ _ h => h) (Or.inl ⟨by rfl, ?_⟩) (by assumption) ?_
  case refine_2 => (intro w hSw; (try dsimp only at hSw); go_simp; (try with_reducible rfl))
  (try simp only [Act.put, List.getElem_toArray, List.getElem_cons_succ, List.getElem_cons_zero, List.setIfInBounds_toArray, List.set_cons_zero, List.set_cons_succ])
  refine wpAnyH_take (i := 8) (v := ?_) rfl (by kernel_rfl) (by kernel_rfl) (by kernel_rfl) (fun _ _ _ h => h) (Or.inl ⟨by rfl, ?_⟩) (by assumption) ?_
  case refine_2 => (intro w hSw; (try dsimp only at hSw); go_simp; (try with_reducible rfl))
  (try simp only [Act.put, List.getElem_toArray, List.getElem_cons_succ, List.getElem_cons_zero, List.setIfInBounds_toArray, List.set_cons_zero, List.set_cons_succ])
  refine wpAnyH_take (i := 9) (v := ?_) rfl (by kernel_rfl) (by kernel_rfl) (by kernel_rfl) (fun _ _ _ h => h) (Or.inl ⟨by rfl, ?_⟩) (by assumption) ?_
  case refine_2 => (intro w hSw; (try dsimp only at hSw); go_simp; (try with_reducible rfl))
  (try simp only [Act.put, List.getElem_toArray, List.getElem_cons_succ, List.getElem_cons_zero, List.setIfInBounds_toArray, List.set_cons_zero, List.set_cons_succ])
  refine wpAnyH_ready (rs := [10]) (by kernel_rfl) (by simp) ?_
  refine AllReadyH.cons rfl (fun K hK => ?_) AllReadyH.nil
  go_simp
  refine (hI _).mono ?_
  rintro e y3 ⟨rfl, hb3⟩
  have C3 := on C2 hb3
  have HK3 : Hid (y3.cell? ⟨w.heap.size, 0, none⟩ = some (.int .i64 a1) ∧ y3.cell? ⟨w.heap.size, 1, none⟩ = some (.int .i64 a2) ∧ y3.cell? ⟨w.heap.size + 1, 0, none⟩ = some (.int .i64 b1) ∧ y3.cell? ⟨w.heap.size + 1, 1, none⟩ = some (.int .i64 b2) ∧ y3.cell? ⟨w.heap.size + 1 + 1, 0, none⟩ = some (.int .i64 p1) ∧ y3.cell? ⟨w.heap.size + 1 + 1, 1, none⟩ = some (.int .i64 p2) ∧ y3.cell? ⟨w.heap.size + 1 + 1, 2, none⟩ = some (.int .i64 q1) ∧ y3.cell? ⟨w.heap.size + 1 + 1, 3, none⟩ = some (.int .i64 q2) ∧ y3.cell? ⟨w.heap.size + 1 + 1, 4, none⟩ = some (.slice x n c) ∧ y3.cell? ⟨w1.heap.size, 0, none⟩ = some (.int .i64 N1) ∧ y3.cell? ⟨w1.heap.size, 1, none⟩ = some (.int .i64 N2) ∧ y3.cell? ⟨w2.heap.size, 0, none⟩ = some (.int .i64 N1) ∧ y3.cell? ⟨w2.heap.size, 1, none⟩ = some (.int .i64 N2)) := ⟨keep hb3 HK2.out.1, keep hb3 HK2.out.2.1, keep hb3 HK2.out.2.2.1, keep hb3 HK2.out.2.2.2.1, keep hb3 HK2.out.2.2.2.2.1, keep hb3 HK2.out.2.2.2.2.2.1, keep hb3 HK2.out.2.2.2.2.2.2.1, keep hb3 HK2.out.2.2.2.2.2.2.2.1, keep hb3 HK2.out.2.2.2.2.2.2.2.2.1, keep hb3 HK2.out.2.2.2.2.2.2.2.2.2.1, keep hb3 HK2.out.2.2.2.2.2.2.2.2.2.2.1, keep hb3 HK2.out.2.2.2.2.2.2.2.2.2.2.2.1, keep hb3 HK2.out.2.2.2.2.2.2.2.2.2.2.2.2⟩
  clear hb3
  refine hK.out _ _ ⟨HK3.out.1, HK3.out.2.1, HK3.out.2.2.1, HK3.out.2.2.2.1⟩ (fun hHeld => ?_)
  clear hK K
  refine wpAnyH_take (i := 11) (v := ?_) rfl (by kernel_rfl) (by kernel_rfl) (by kernel_rfl) (fun _ _ _ h => h) (Or.inl ⟨by rfl, ?_⟩) (by assumption) ?_
  case refine_2 => (intro w hSw; (try dsimp only at hSw); go_simp; (try with_reducible rfl))
  (try simp only [Act.put, List.getElem_toArray, List.getElem_cons_succ, List.getElem_cons_zero, List.setIfInBounds_toArray, List.set_cons_zero, List.set_cons_succ])
  refine wpAnyH_take (i := 12) (v := ?_) rfl (by kernel_rfl) (by kernel_rfl) (by kernel_rfl) (fun _ _ _ h => h) (Or.inl ⟨by rfl, ?_⟩) (by assumption) ?_
  case refine_2 => (intro w hSw; (try dsimp only at hSw); go_simp; (try with_reducible rfl))
  (try simp only [Act.put, List.getElem_toArray, List.getElem_cons_succ, List.getElem_cons_zero, List.setIfInBounds_toArray, List.set_cons_zero, List.set_cons_succ])
  refine wpAnyH_take (i := 13) (v := ?_) rfl (by kernel_rfl) (by kernel_rfl) (by kernel_rfl) (fun _ _ _ h => h) (Or.inl ⟨by rfl, ?_⟩) (by assumption) ?_
  case refine_2 => (intro w hSw; (try dsimp only at hSw); go_simp; (try with_reducible rfl))
  (try simp only [Act.put, List.getElem_toArray, List.getElem_cons_succ, List.getElem_cons_zero, List.setIfInBounds_toArray, List.set_cons_zero, List.set_cons_succ])
  refine wpAnyH_take (i := 14) (v := ?_) rfl (by kernel_rfl) (by kernel_rfl) (by kernel_rfl) (fun _ _ _ h => h) (Or.inl ⟨by rfl, ?_⟩) (by assumption) ?_
  case refine_2 => (intro w hSw; (try dsimp only at hSw); go_simp; (try with_reducible rfl))
  (try simp only [Act.put, List.getElem_toArray, List.getElem_cons_succ, List.getElem_cons_zero, List.setIfInBounds_toArray, List.set_cons_zero, List.set_cons_succ])
  refine wpAnyH_take (i := 15) (v := ?_) rfl (by kernel_rfl) (by kernel_rfl) (by kernel_rfl) (fun _ _ _ h => h) (Or.inl ⟨by rfl, ?_⟩) (by assumption) ?_
  case refine_2 => (intro w hSw; (try dsimp only at hSw); go_simp; (try with_reducible rfl))
  (try simp only [Act.put, List.getElem_toArray, List.getElem_cons_succ, List.getElem_cons_zero, List.setIfInBounds_toArray, List.set_cons_zero, List.set_cons_succ])
  refine wpAnyH_take (i := 16) (v := ?_) rfl (by kernel_rfl) (by kernel_rfl) (by kernel_rfl) (fun _ _ _ h => h) (Or.inl ⟨by rfl, ?_⟩) (by assumption) ?_
  case refine_2 => (intro w hSw; (try dsimp only at hSw); go_simp; (try with_reducible rfl))
  (try simp only [Act.put, List.getElem_toArray, List.getElem_cons_succ, List.getElem_cons_zero, List.setIfInBounds_toArray, List.set_cons_zero, List.set_cons_succ])
  refine wpAnyH_take (i := 17) (v := ?_) rfl (by kernel_rfl) (by kernel_rfl) (by kernel_rfl) (fun _ _ _ h => h) (Or.inl ⟨by rfl, ?_⟩) (by assumption) ?_
  case refine_2 => (intro w hSw; (try dsimp only at hSw); go_simp; (try with_reducible rfl))
  (try simp only [Act.put, List.getElem_toArray, List.getElem_cons_succ, List.getElem_cons_zero, List.setIfInBounds_toArray, List.set_cons_zero, List.set_cons_succ])
  refine wpAnyH_take (i := 18) (v := ?_) rfl (by kernel_rfl) (by kernel_rfl) (by kernel_rfl) (fun _ _ _ h => h) (Or.inl ⟨by rfl, ?_⟩) (by assumption) ?_
  case refine_2 => (intro w hSw; (try dsimp only at hSw); go_simp; (try with_reducible rfl))
  (try simp only [Act.put, List.getElem_toArray, List.getElem_cons_succ, List.getElem_cons_zero, List.setIfInBounds_toArray, List.set_cons_zero, List.set_cons_succ])
  refine wpAnyH_take (i := 20) (v := ?_) rfl (by kernel_rfl) (by kernel_rfl) (by kernel_rfl) (fun _ _ _ h => h) (Or.inl ⟨by rfl, ?_⟩) (by assumption) ?_
  case refine_2 => (intro w hSw; (try dsimp only at hSw); go_simp; (try with_reducible rfl))
  (try simp only [Act.put, List.getElem_toArray, List.getElem_cons_succ, List.getElem_cons_zero, List.setIfInBounds_toArray, List.set_cons_zero, List.set_cons_succ])
  refine wpAnyH_take (i := 21) (v := ?_) rfl (by kernel_rfl) (by kernel_rfl) (by kernel_rfl) (fun _ _ _ h => h) (Or.inl ⟨by rfl, ?_⟩) (by assumption) ?_
  case refine_2 => (intro w hSw; (try dsimp only at hSw); go_simp; (try with_reducible rfl))
  (try simp only [Act.put, List.getElem_toArray, List.getElem_cons_succ, List.getElem_cons_zero, List.setIfInBounds_toArray, List.set_cons_zero, List.set_cons_succ])
  refine wpAnyH_ready (rs := [19]) (by kernel_rfl) (by simp) ?_
  refine AllReadyH.cons rfl (fun K hK => ?_) AllReadyH.nil
  go_simp
  refine (hL _).mono ?_
  rintro e y4 ⟨rfl, hb4⟩
  have C4 := on C3 hb4
  have HK4 : Hid (y4.cell? ⟨w.heap.size, 0, none⟩ = some (.int .i64 a1) ∧ y4.cell? ⟨w.heap.size, 1, none⟩ = some (.int .i64 a2) ∧ y4.cell? ⟨w.heap.size + 1, 0, none⟩ = some (.int .i64 b1) ∧ y4.cell? ⟨w.heap.size + 1, 1, none⟩ = some (.int .i64 b2) ∧ y4.cell? ⟨w.heap.size + 1 + 1, 0, none⟩ = some (.int .i64 p1) ∧ y4.cell? ⟨w.heap.size + 1 + 1, 1, none⟩ = some (.int .i64 p2) ∧ y4.cell? ⟨w.heap.size + 1 + 1, 2, none⟩ = some (.int .i64 q1) ∧ y4.cell? ⟨w.heap.size + 1 + 1, 3, none⟩ = some (.int .i64 q2) ∧ y4.cell? ⟨w.heap.size + 1 + 1, 4, none⟩ = some (.slice x n c) ∧ y4.cell? ⟨w1.heap.size, 0, none⟩ = some (.int .i64 N1) ∧ y4.cell? ⟨w1.heap.size, 1, none⟩ = some (.int .i64 N2) ∧ y4.cell? ⟨w2.heap.size, 0, none⟩ = some (.int .i64 N1) ∧ y4.cell? ⟨w2.heap.size, 1, none⟩ = some (.int .i64 N2)) := ⟨keep hb4 HK3.out.1, keep hb4 HK3.out.2.1, keep hb4 HK3.out.2.2.1, keep hb4 HK3.out.2.2.2.1, keep hb4 HK3.out.2.2.2.2.1, keep hb4 HK3.out.2.2.2.2.2.1, keep hb4 HK3.out.2.2.2.2.2.2.1, keep hb4 HK3.out.2.2.2.2.2.2.2.1, keep hb4 HK3.out.2.2.2.2.2.2.2.2.1, keep hb4 HK3.out.2.2.2.2.2.2.2.2.2.1, keep hb4 HK3.out.2.2.2.2.2.2.2.2.2.2.1, keep hb4 HK3.out.2.2.2.2.2.2.2.2.2.2.2.1, keep hb4 HK3.out.2.2.2.2.2.2.2.2.2.2.2.2⟩
  clear hb4
  refine hK.out _ _ ⟨HK4.out.1, HK4.out.2.1, HK4.out.2.2.1, HK4.out.2.2.2.1⟩ (fun hHeld => ?_)
  clear hK K
  refine wpAnyH_ready (rs := [22]) (by kernel_rfl) (by simp) ?_
  refine AllReadyH.cons rfl (fun K hK => ?_) AllReadyH.nil
  go_simp
  refine (hG _).mono ?_
  rintro e y5 ⟨rfl, hb5⟩
  have C5 := on C4 hb5
  have HK5 : Hid (y5.cell? ⟨w.heap.size, 0, none⟩ = some (.int .i64 a1) ∧ y5.cell? ⟨w.heap.size, 1, none⟩ = some (.int .i64 a2) ∧ y5.cell? ⟨w.heap.size + 1, 0, none⟩ = some (.int .i64 b1) ∧ y5.cell? ⟨w.heap.size + 1, 1, none⟩ = some (.int .i64 b2) ∧ y5.cell? ⟨w.heap.size + 1 + 1, 0, none⟩ = some (.int .i64 p1) ∧ y5.cell? ⟨w.heap.size + 1 + 1, 1, none⟩ = some (.int .i64 p2) ∧ y5.cell? ⟨w.heap.size + 1 + 1, 2, none⟩ = some (.int .i64 q1) ∧ y5.cell? ⟨w.heap.size + 1 + 1, 3, none⟩ = some (.int .i64 q2) ∧ y5.cell? ⟨w.heap.size + 1 + 1, 4, none⟩ = some (.slice x n c) ∧ y5.cell? ⟨w1.heap.size, 0, none⟩ = some (.int .i64 N1) ∧ y5.cell? ⟨w1.heap.size, 1, none⟩ = some (.int .i64 N2) ∧ y5.cell? ⟨w2.heap.size, 0, none⟩ = some (.int .i64 N1) ∧ y5.cell? ⟨w2.heap.size, 1, none⟩ = some (.int .i64 N2)) := ⟨keep hb5 HK4.out.1, keep hb5 HK4.out.2.1, keep hb5 HK4.out.2.2.1, keep hb5 HK4.out.2.2.2.1, keep hb5 HK4.out.2.2.2.2.1, keep hb5 HK4.out.2.2.2.2.2.1, keep hb5 HK4.out.2.2.2.2.2.2.1, keep hb5 HK4.out.2.2.2.2.2.2.2.1, keep hb5 HK4.out.2.2.2.2.2.2.2.2.1, keep hb5 HK4.out.2.2.2.2.2.2.2.2.2.1, keep hb5 HK4.out.2.2.2.2.2.2.2.2.2.2.1, keep hb5 HK4.out.2.2.2.2.2.2.2.2.2.2.2.1, keep hb5 HK4.out.2.2.2.2.2.2.2.2.2.2.2.2⟩
  clear hb5
  refine hK.out _ _ ⟨HK5.out.1, HK5.out.2.1, HK5.out.2.2.1, HK5.out.2.2.2.1⟩ (fun hHeld => ?_)
  clear hK K
  refine wpAnyH_take (i := 23) (v := ?_) rfl (by kernel_rfl) (by kernel_rfl) (by kernel_rfl) (fun _ _ _ h => h) (Or.inl ⟨by rfl, ?_⟩) (by assumption) ?_
  case refine_2 => (intro w hSw; (try dsimp only at hSw); go_simp; (try with_reducible rfl))
  (try simp only [Act.put, List.getElem_toArray, List.getElem_cons_succ, List.getElem_cons_zero, List.setIfInBounds_toArray, List.set_cons_zero, List.set_cons_succ])
  refine wpAnyH_take (i := 24) (v := ?_) rfl (by kernel_rfl) (by kernel_rfl) (by kernel_rfl) (fun _ _ _ h => h) (Or.inl ⟨by rfl, ?_⟩) (by assumption) ?_
  case refine_2 => (intro w hSw; (try dsimp only at hSw); go_simp; (try with_reducible rfl))
  (try simp only [Act.put, List.getElem_toArray, List.getElem_cons_succ, List.getElem_cons_zero, List.setIfInBounds_toArray, List.set_cons_zero, List.set_cons_succ])
  refine wpAnyH_take (i := 25) (v := ?_) rfl (by kernel_rfl) (by kernel_rfl) (by kernel_rfl) (fun _ _ _ h => h) (Or.inl ⟨by rfl, ?_⟩) (by assumption) ?_
  case refine_2 => (intro w hSw; (try dsimp only at hSw); go_simp; (try with_reducible rfl))
  (try simp only [Act.put, List.getElem_toArray, List.getElem_cons_succ, List.getElem_cons_zero, List.setIfInBounds_toArray, List.set_cons_zero, List.set_cons_succ])
  refine wpAnyH_done (by kernel_rfl) ?_ _
  go_wp2_with fail
  have bE : Below y5.heap.size y5 y5.drew := (Below.refl _ _).drew
  have C0 := on C5 bE
  have HK0 : Hid (y5.drew.cell? ⟨w.heap.size, 0, none⟩ = some (.int .i64 a1) ∧ y5.drew.cell? ⟨w.heap.size, 1, none⟩ = some (.int .i64 a2) ∧ y5.drew.cell? ⟨w.heap.size + 1, 0, none⟩ = some (.int .i64 b1) ∧ y5.drew.cell? ⟨w.heap.size + 1, 1, none⟩ = some (.int .i64 b2) ∧ y5.drew.cell? ⟨w.heap.size + 1 + 1, 0, none⟩ = some (.int .i64 p1) ∧ y5.drew.cell? ⟨w.heap.size + 1 + 1, 1, none⟩ = some (.int .i64 p2) ∧ y5.drew.cell? ⟨w.heap.size + 1 + 1, 2, none⟩ = some (.int .i64 q1) ∧ y5.drew.cell? ⟨w.heap.size + 1 + 1, 3, none⟩ = some (.int .i64 q2) ∧ y5.drew.cell? ⟨w.heap.size + 1 + 1, 4, none⟩ = some (.slice x n c) ∧ y5.drew.cell? ⟨w1.heap.size, 0, none⟩ = some (.int .i64 N1) ∧ y5.drew.cell? ⟨w1.heap.size, 1, none⟩ = some (.int .i64 N2) ∧ y5.drew.cell? ⟨w2.heap.size, 0, none⟩ = some (.int .i64 N1) ∧ y5.drew.cell? ⟨w2.heap.size, 1, none⟩ = some (.int .i64 N2)) := ⟨keep bE HK5.out.1, keep bE HK5.out.2.1, keep bE HK5.out.2.2.1, keep bE HK5.out.2.2.2.1, keep bE HK5.out.2.2.2.2.1, keep bE HK5.out.2.2.2.2.2.1, keep bE HK5.out.2.2.2.2.2.2.1, keep bE HK5.out.2.2.2.2.2.2.2.1, keep bE HK5.out.2.2.2.2.2.2.2.2.1, keep bE HK5.out.2.2.2.2.2.2.2.2.2.1, keep bE HK5.out.2.2.2.2.2.2.2.2.2.2.1, keep bE HK5.out.2.2.2.2.2.2.2.2.2.2.2.1, keep bE HK5.out.2.2.2.2.2.2.2.2.2.2.2.2⟩
  clear bE
  refine wp_region_held_drew (S := fun v => v.cell? ⟨w.heap.size, 0, none⟩ = some (.int .i64 a1) ∧ v.cell? ⟨w.heap.size, 1, none⟩ = some (.int .i64 a2) ∧ v.cell? ⟨w.heap.size + 1, 0, none⟩ = some (.int .i64 b1) ∧ v.cell? ⟨w.heap.size + 1, 1, none⟩ = some (.int .i64 b2) ∧ v.cell? ⟨w.heap.size + 1 + 1, 0, none⟩ = some (.int .i64 p1) ∧ v.cell? ⟨w.heap.size + 1 + 1, 1, none⟩ = some (.int .i64 p2) ∧ v.cell? ⟨w.heap.size + 1 + 1, 2, none⟩ = some (.int .i64 q1) ∧ v.cell? ⟨w.heap.size + 1 + 1, 3, none⟩ = some (.int .i64 q2) ∧ v.cell? ⟨w.heap.size + 1 + 1, 4, none⟩ = some (.slice x n c) ∧ v.cell? ⟨w1.heap.size, 0, none⟩ = some (.int .i64 N1) ∧ v.cell? ⟨w1.heap.size, 1, none⟩ = some (.int .i64 N2) ∧ v.cell? ⟨w2.heap.size, 0, none⟩ = some (.int .i64 N1) ∧ v.cell? ⟨w2.heap.size, 1, none⟩ = some (.int .i64 N2)) (by kernel_rfl) HK0.out (fun hHeld => ?_)
  generalize y5.drew = wE at *
  refine wpAnyH_take (i := 0) (v := ?_) rfl (by kernel_rfl) (by kernel_rfl) (by kernel_rfl) (fun _ _ _ h => h) (Or.inl ⟨by rfl, ?_⟩) (by assumption) ?_
  case refine_2 => (intro w hSw; (try dsimp only at hSw); go_simp; (try with_reducible rfl))
  (try simp only [Act.put, List.getElem_toArray, List.getElem_cons_succ, List.getElem_cons_zero, List.setIfInBounds_toArray, List.set_cons_zero, List.set_cons_succ])
  refine wpAnyH_take (i := 1) (v := ?_) rfl (by kernel_rfl) (by kernel_rfl) (by kernel_rfl) (fun _ _ _ h => h) (Or.inl ⟨by rfl, ?_⟩) (by assumption) ?_
  case refine_2 => (intro w hSw; (try dsimp only at hSw); go_simp; (try with_reducible rfl))
  (try simp only [Act.put, List.getElem_toArray, List.getElem_cons_succ, List.getElem_cons_zero, List.setIfInBounds_toArray, List.set_cons_zero, List.set_cons_succ])
  refine wpAnyH_take (i := 2) (v := ?_) rfl (by kernel_rfl) (by kernel_rfl) (by kernel_rfl) (fun _ _ _ h => h) (Or.inl ⟨by rfl, ?_⟩) (by assumption) ?_
  case refine_2 => (intro w hSw; (try dsimp only at hSw); go_simp; (try with_reducible rfl))
  (try simp only [Act.put, List.getElem_toArray, List.getElem_cons_succ, List.getElem_cons_zero, List.setIfInBounds_toArray, List.set_cons_zero, List.set_cons_succ])
  refine wpAnyH_take (i := 3) (v := ?_) rfl (by kernel_rfl) (by kernel_rfl) (by kernel_rfl) (fun _ _ _ h => h) (Or.inl ⟨by rfl, ?_⟩) (by assumption) ?_
  case refine_2 => (intro w hSw; (try dsimp only at hSw); go_simp; (try with_reducible rfl))
  (try simp only [Act.put, List.getElem_toArray, List.getElem_cons_succ, List.getElem_cons_zero, List.setIfInBounds_toArray, List.set_cons_zero, List.set_cons_succ])
  refine wpAnyH_take (i := 4) (v := ?_) rfl (by kernel_rfl) (by kernel_rfl) (by kernel_rfl) (fun _ _ _ h => h) (Or.inl ⟨by rfl, ?_⟩) (by assumption) ?_
  case refine_2 => (intro w hSw; (try dsimp only at hSw); go_simp; (try with_reducible rfl))
  (try simp only [Act.put, List.getElem_toArray, List.getElem_cons_succ, List.getElem_cons_zero, List.setIfInBounds_toArray, List.set_cons_zero, List.set_cons_succ])
  refine wpAnyH_take (i := 5) (v := ?_) rfl (by kernel_rfl) (by kernel_rfl) (by kernel_rfl) (fun _ _ _ h => h) (Or.inl ⟨by rfl, ?_⟩) (by assumption) ?_
  case refine_2 => (intro w hSw; (try dsimp only at hSw); go_simp; (try with_reducible rfl))
  (try simp only [Act.put, List.getElem_toArray, List.getElem_cons_succ, List.getElem_cons_zero, List.setIfInBounds_toArray, List.set_cons_zero, List.set_cons_succ])
  refine wpAnyH_take (i := 6) (v := ?_) rfl (by kernel_rfl) (by kernel_rfl) (by kernel_rfl) (fun _ _ _ h => h) (Or.inl ⟨by rfl, ?_⟩) (by assumption) ?_
  case refine_2 => (intro w hSw; (try dsimp only at hSw); go_simp; (try with_reducible rfl))
  (try simp only [Act.put, List.getElem_toArray, List.getElem_cons_succ, List.getElem_cons_zero, List.setIfInBounds_toArray, List.set_cons_zero, List.set_cons_succ])
  refine wpAnyH_take (i := 7) (v := ?_) rfl (by kernel_rfl) (by kernel_rfl) (by kernel_rfl) (fun _ _ _ h => h) (Or.inl ⟨by rfl, ?_⟩) (by assumption) ?_
  case refine_2 => (intro w hSw; (try dsimp only at hSw); go_simp; (try with_reducible rfl))
  (try simp only [Act.put, List.getElem_toArray, List.getElem_cons_succ, List.getElem_cons_zero, List.setIfInBounds_toArray, List.set_cons_zero, List.set_cons_succ])
  refine wpAnyH_take (i := 8) (v := ?_) rfl (by kernel_rfl) (by kernel_rfl) (by kernel_rfl) (fun _ _ _ h => h) (Or.inl ⟨by rfl, ?_⟩) (by assumption) ?_
  case refine_2 => (intro w hSw; (try dsimp only at hSw); go_simp; (try with_reducible rfl))
  (try simp only [Act.put, List.getElem_toArray, List.getElem_cons_succ, List.getElem_cons_zero, List.setIfInBounds_toArray, List.set_cons_zero, List.set_cons_succ])
  refine wpAnyH_take (i := 9) (v := ?_) rfl (by kernel_rfl) (by kernel_rfl) (by kernel_rfl) (fun _ _ _ h => h) (Or.inl ⟨by rfl, ?_⟩) (by assumption) ?_
  case refine_2 => (intro w hSw; (try dsimp only at hSw); go_simp; (try with_reducible rfl))
  (try simp only [Act.put, List.getElem_toArray, List.getElem_cons_succ, List.getElem_cons_zero, List.setIfInBounds_toArray, List.set_cons_zero, List.set_cons_succ])
  refine wpAnyH_take (i := 10) (v := ?_) rfl (by kernel_rfl) (by kernel_rfl) (by kernel_rfl) (fun _ _ _ h => h) (Or.inl ⟨by rfl, ?_⟩) (by assumption) ?_
  case refine_2 => (intro w hSw; (try dsimp only at hSw); go_simp; (try with_reducible rfl))
  (try simp only [Act.put, List.getElem_toArray, List.getElem_cons_succ, List.getElem_cons_zero, List.setIfInBounds_toArray, List.set_cons_zero, List.set_cons_succ])
  refine wpAnyH_take (i := 11) (v := ?_) rfl (by kernel_rfl) (by kernel_rfl) (by kernel_rfl) (fun _ _ _ h => h) (Or.inl ⟨by rfl, ?_⟩) (by assumption) ?_
  case refine_2 => (intro w hSw; (try dsimp only at hSw); go_simp; (try with_reducible rfl))
  (try simp only [Act.put, List.getElem_toArray, List.getElem_cons_succ, List.getElem_cons_zero, List.setIfInBounds_toArray, List.set_cons_zero, List.set_cons_succ])
  refine wpAnyH_take (i := 12) (v := undef) rfl (by kernel_rfl) (by kernel_rfl) (by kernel_rfl) (fun _ _ _ h => h) (Or.inr ⟨by rfl, rfl⟩) (by assumption) ?_
  (try simp only [Act.put, List.getElem_toArray, List.getElem_cons_succ, List.getElem_cons_zero, List.setIfInBounds_toArray, List.set_cons_zero, List.set_cons_succ])
  refine wpAnyH_take (i := 13) (v := undef) rfl (by kernel_rfl) (by kernel_rfl) (by kernel_rfl) (fun _ _ _ h => h) (Or.inr ⟨by rfl, rfl⟩) (by assumption) ?_
  (try simp only [Act.put, List.getElem_toArray, List.getElem_cons_succ, List.getElem_cons_zero, List.setIfInBounds_toArray, List.set_cons_zero, List.set_cons_succ])
  refine wpAnyH_take (i := 14) (v := undef) rfl (by kernel_rfl) (by kernel_rfl) (by kernel_rfl) (fun _ _ _ h => h) (Or.inr ⟨by rfl, rfl⟩) (by assumption) ?_
  (try simp only [Act.put, List.getElem_toArray, List.getElem_cons_succ, List.getElem_cons_zero, List.setIfInBounds_toArray, List.set_cons_zero, List.set_cons_succ])
  refine wpAnyH_take (i := 15) (v := ?_) rfl (by kernel_rfl) (by kernel_rfl) (by kernel_rfl) (fun _ _ _ h => h) (Or.inl ⟨by rfl, ?_⟩) (by assumption) ?_
  case refine_2 => (intro w hSw; (try dsimp only at hSw); go_simp; (try with_reducible rfl))
  (try simp only [Act.put, List.getElem_toArray, List.getElem_cons_succ, List.getElem_cons_zero, List.setIfInBounds_toArray, List.set_cons_zero, List.set_cons_succ])
  refine wpAnyH_take (i := 16) (v := ?_) rfl (by kernel_rfl) (by kernel_rfl) (by kernel_rfl) (fun _ _ _ h => h) (Or.inl ⟨by rfl, ?_⟩) (by assumption) ?_
  case refine_2 => (intro w hSw; (try dsimp only at hSw); go_simp; (try with_reducible rfl))
  (try simp only [Act.put, List.getElem_toArray, List.getElem_cons_succ, List.getElem_cons_zero, List.setIfInBounds_toArray, List.set_cons_zero, List.set_cons_succ])
  refine wpAnyH_take (i := 17) (v := ?_) rfl (by kernel_rfl) (by kernel_rfl) (by kernel_rfl) (fun _ _ _ h => h) (Or.inl ⟨by rfl, ?_⟩) (by assumption) ?_
  case refine_2 => (intro w hSw; (try dsimp only at hSw); go_simp; (try with_reducible rfl))
  (try simp only [Act.put, List.getElem_toArray, List.getElem_cons_succ, List.getElem_cons_zero, List.setIfInBounds_toArray, List.set_cons_zero, List.set_cons_succ])
  refine wpAnyH_take (i := 18) (v := ?_) rfl (by kernel_rfl) (by kernel_rfl) (by kernel_rfl) (fun _ _ _ h => h) (Or.inl ⟨by rfl, ?_⟩) (by assumption) ?_
  case refine_2 => (intro w hSw; (try dsimp only at hSw); go_simp; (try with_reducible rfl))
  (try simp only [Act.put, List.getElem_toArray, List.getElem_cons_succ, List.getElem_cons_zero, List.setIfInBounds_toArray, List.set_cons_zero, List.set_cons_succ])
  refine wpAnyH_take (i := 20) (v := ?_) rfl (by kernel_rfl) (by kernel_rfl) (by kernel_rfl) (fun _ _ _ h => h) (Or.inl ⟨by rfl, ?_⟩) (by assumption) ?_
  case refine_2 => (intro w hSw; (try dsimp only at hSw); go_simp; (try with_reducible rfl))
  (try simp only [Act.put, List.getElem_toArray, List.getElem_cons_succ, List.getElem_cons_zero, List.setIfInBounds_toArray, List.set_cons_zero, List.set_cons_succ])
  refine wpAnyH_ready (rs := [19]) (by kernel_rfl) (by simp) ?_
  refine AllReadyH.cons rfl (fun K hK => ?_) AllReadyH.nil
  go_simp
  refine (hM _).mono ?_
  rintro e y6 ⟨rfl, hb6⟩
  have C6 := on C0 hb6
  have HK6 : Hid (y6.cell? ⟨w.heap.size, 0, none⟩ = some (.int .i64 a1) ∧ y6.cell? ⟨w.heap.size, 1, none⟩ = some (.int .i64 a2) ∧ y6.cell? ⟨w.heap.size + 1, 0, none⟩ = some (.int .i64 b1) ∧ y6.cell? ⟨w.heap.size + 1, 1, none⟩ = some (.int .i64 b2) ∧ y6.cell? ⟨w.heap.size + 1 + 1, 0, none⟩ = some (.int .i64 p1) ∧ y6.cell? ⟨w.heap.size + 1 + 1, 1, none⟩ = some (.int .i64 p2) ∧ y6.cell? ⟨w.heap.size + 1 + 1, 2, none⟩ = some (.int .i64 q1) ∧ y6.cell? ⟨w.heap.size + 1 + 1, 3, none⟩ = some (.int .i64 q2) ∧ y6.cell? ⟨w.heap.size + 1 + 1, 4, none⟩ = some (.slice x n c) ∧ y6.cell? ⟨w1.heap.size, 0, none⟩ = some (.int .i64 N1) ∧ y6.cell? ⟨w1.heap.size, 1, none⟩ = some (.int .i64 N2) ∧ y6.cell? ⟨w2.heap.size, 0, none⟩ = some (.int .i64 N1) ∧ y6.cell? ⟨w2.heap.size, 1, none⟩ = some (.int .i64 N2)) := ⟨keep hb6 HK0.out.1, keep hb6 HK0.out.2.1, keep hb6 HK0.out.2.2.1, keep hb6 HK0.out.2.2.2.1, keep hb6 HK0.out.2.2.2.2.1, keep hb6 HK0.out.2.2.2.2.2.1, keep hb6 HK0.out.2.2.2.2.2.2.1, keep hb6 HK0.out.2.2.2.2.2.2.2.1, keep hb6 HK0.out.2.2.2.2.2.2.2.2.1, keep hb6 HK0.out.2.2.2.2.2.2.2.2.2.1, keep hb6 HK0.out.2.2.2.2.2.2.2.2.2.2.1, keep hb6 HK0.out.2.2.2.2.2.2.2.2.2.2.2.1, keep hb6 HK0.out.2.2.2.2.2.2.2.2.2.2.2.2⟩
  clear hb6
  refine hK.out _ _ HK6.out (fun hHeld => ?_)
  clear hK K
  refine wpAnyH_ready (rs := [21]) (by kernel_rfl) (by simp) ?_
  refine AllReadyH.cons rfl (fun K hK => ?_) AllReadyH.nil
  go_simp
  refine (hQ _).mono ?_
  rintro e y7 ⟨rfl, hb7⟩
  have C7 := on C6 hb7
  have HK7 : Hid (y7.cell? ⟨w.heap.size, 0, none⟩ = some (.int .i64 a1) ∧ y7.cell? ⟨w.heap.size, 1, none⟩ = some (.int .i64 a2) ∧ y7.cell? ⟨w.heap.size + 1, 0, none⟩ = some (.int .i64 b1) ∧ y7.cell? ⟨w.heap.size + 1, 1, none⟩ = some (.int .i64 b2) ∧ y7.cell? ⟨w.heap.size + 1 + 1, 0, none⟩ = some (.int .i64 p1) ∧ y7.cell? ⟨w.heap.size + 1 + 1, 1, none⟩ = some (.int .i64 p2) ∧ y7.cell? ⟨w.heap.size + 1 + 1, 2, none⟩ = some (.int .i64 q1) ∧ y7.cell? ⟨w.heap.size + 1 + 1, 3, none⟩ = some (.int .i64 q2) ∧ y7.cell? ⟨w.heap.size + 1 + 1, 4, none⟩ = some (.slice x n c) ∧ y7.cell? ⟨w1.heap.size, 0, none⟩ = some (.int .i64 N1) ∧ y7.cell? ⟨w1.heap.size, 1, none⟩ = some (.int .i64 N2) ∧ y7.cell? ⟨w2.heap.size, 0, none⟩ = some (.int .i64 N1) ∧ y7.cell? ⟨w2.heap.size, 1, none⟩ = some (.int .i64 N2)) := ⟨keep hb7 HK6.out.1, keep hb7 HK6.out.2.1, keep hb7 HK6.out.2.2.1, keep hb7 HK6.out.2.2.2.1, keep hb7 HK6.out.2.2.2.2.1, keep hb7 HK6.out.2.2.2.2.2.1, keep hb7 HK6.out.2.2.2.2.2.2.1, keep hb7 HK6.out.2.2.2.2.2.2.2.1, keep hb7 HK6.out.2.2.2.2.2.2.2.2.1, keep hb7 HK6.out.2.2.2.2.2.2.2.2.2.1, keep hb7 HK6.out.2.2.2.2.2.2.2.2.2.2.1, keep hb7 HK6.out.2.2.2.2.2.2.2.2.2.2.2.1, keep hb7 HK6.out.2.2.2.2.2.2.2.2.2.2.2.2⟩
  clear hb7
  refine hK.out _ _ HK7.out (fun hHeld => ?_)
  clear hK K
  refine wpAnyH_take (i := 22) (v := ?_) rfl (by kernel_rfl) (by kernel_rfl) (by kernel_rfl) (fun _ _ _ h => h) (Or.inl ⟨by rfl, ?_⟩) (by assumption) ?_
  case refine_2 => (intro w hSw; (try dsimp only at hSw); go_simp; (try with_reducible rfl))
  (try simp only [Act.put, List.getElem_toArray, List.getElem_cons_succ, List.getElem_cons_zero, List.setIfInBounds_toArray, List.set_cons_zero, List.set_cons_succ])
  refine wpAnyH_take (i := 23) (v := ?_) rfl (by kernel_rfl) (by kernel_rfl) (by kernel_rfl) (fun _ _ _ h => h) (Or.inl ⟨by rfl, ?_⟩) (by assumption) ?_
  case refine_2 => (intro w hSw; (try dsimp only at hSw); go_simp; (try with_reducible rfl))
  (try simp only [Act.put, List.getElem_toArray, List.getElem_cons_succ, List.getElem_cons_zero, List.setIfInBounds_toArray, List.set_cons_zero, List.set_cons_succ])
  refine wpAnyH_take (i := 24) (v := ?_) rfl (by kernel_rfl) (by kernel_rfl) (by kernel_rfl) (fun _ _ _ h => h) (Or.inl ⟨by rfl, ?_⟩) (by assumption) ?_
  case refine_2 => (intro w hSw; (try dsimp only at hSw); go_simp; (try with_reducible rfl))
  (try simp only [Act.put, List.getElem_toArray, List.getElem_cons_succ, List.getElem_cons_zero, List.setIfInBounds_toArray, List.set_cons_zero, List.set_cons_succ])
  refine wpAnyH_ready (rs := [25]) (by kernel_rfl) (by simp) ?_
  refine AllReadyH.cons rfl (fun K hK => ?_) AllReadyH.nil
  go_simp
  refine (hW _).mono ?_
  rintro e y8 ⟨rfl, hb8⟩
  have C8 := on C7 hb8
  have HK8 : Hid (y8.cell? ⟨w.heap.size, 0, none⟩ = some (.int .i64 a1) ∧ y8.cell? ⟨w.heap.size, 1, none⟩ = some (.int .i64 a2) ∧ y8.cell? ⟨w.heap.size + 1, 0, none⟩ = some (.int .i64 b1) ∧ y8.cell? ⟨w.heap.size + 1, 1, none⟩ = some (.int .i64 b2) ∧ y8.cell? ⟨w.heap.size + 1 + 1, 0, none⟩ = some (.int .i64 p1) ∧ y8.cell? ⟨w.heap.size + 1 + 1, 1, none⟩ = some (.int .i64 p2) ∧ y8.cell? ⟨w.heap.size + 1 + 1, 2, none⟩ = some (.int .i64 q1) ∧ y8.cell? ⟨w.heap.size + 1 + 1, 3, none⟩ = some (.int .i64 q2) ∧ y8.cell? ⟨w.heap.size + 1 + 1, 4, none⟩ = some (.slice x n c) ∧ y8.cell? ⟨w1.heap.size, 0, none⟩ = some (.int .i64 N1) ∧ y8.cell? ⟨w1.heap.size, 1, none⟩ = some (.int .i64 N2) ∧ y8.cell? ⟨w2.heap.size, 0, none⟩ = some (.int .i64 N1) ∧ y8.cell? ⟨w2.heap.size, 1, none⟩ = some (.int .i64 N2)) := ⟨keep hb8 HK7.out.1, keep hb8 HK7.out.2.1, keep hb8 HK7.out.2.2.1, keep hb8 HK7.out.2.2.2.1, keep hb8 HK7.out.2.2.2.2.1, keep hb8 HK7.out.2.2.2.2.2.1, keep hb8 HK7.out.2.2.2.2.2.2.1, keep hb8 HK7.out.2.2.2.2.2.2.2.1, keep hb8 HK7.out.2.2.2.2.2.2.2.2.1, keep hb8 HK7.out.2.2.2.2.2.2.2.2.2.1, keep hb8 HK7.out.2.2.2.2.2.2.2.2.2.2.1, keep hb8 HK7.out.2.2.2.2.2.2.2.2.2.2.2.1, keep hb8 HK7.out.2.2.2.2.2.2.2.2.2.2.2.2⟩
  clear hb8
  refine hK.out _ _ HK8.out (fun hHeld => ?_)
  clear hK K
  refine wpAnyH_take (i := 26) (v := ?_) rfl (by kernel_rfl) (by kernel_rfl) (by kernel_rfl) (fun _ _ _ h => h) (Or.inl ⟨by rfl, ?_⟩) (by assumption) ?_
  case refine_2 => (intro w hSw; (try dsimp only at hSw); go_simp; (try with_reducible rfl))
  (try simp only [Act.put, List.getElem_toArray, List.getElem_cons_succ, List.getElem_cons_zero, List.setIfInBounds_toArray, List.set_cons_zero, List.set_cons_succ])
  refine wpAnyH_take (i := 27) (v := ?_) rfl (by kernel_rfl) (by kernel_rfl) (by kernel_rfl) (fun _ _ _ h => h) (Or.inl ⟨by rfl, ?_⟩) (by assumption) ?_
  case refine_2 => (intro w hSw; (try dsimp only at hSw); go_simp; (try with_reducible rfl))
  (try simp only [Act.put, List.getElem_toArray, List.getElem_cons_succ, List.getElem_cons_zero, List.setIfInBounds_toArray, List.set_cons_zero, List.set_cons_succ])
  refine wpAnyH_done (by kernel_rfl) ?_ _
  go_wp2_with fail
  go_ret
  exact ⟨by simp, C8⟩

set_option maxHeartbeats 4000000 in
set_option maxRecDepth 100000 in
theorem orders_eq_t (a1 a2 N1 N2 p1 p2 q1 q2 : Int) (x : Option Addr) (n c : Nat) (t mt : Bool) (w : World)  (hlt : ltb (a1, a2) (N1, N2) = true)
    (hN : ∀ W, Calls Try.prog 6 #[.agg #[.int .i64 a1, .int .i64 a2], .int .i64 a2] W fun e w' => e = .returned (.tuple #[.agg #[.int .i64 N1, .int .i64 N2], .bool true]) ∧ Below W.heap.size W w')
    (hR : ∀ W, Calls Try.prog 7 #[.agg #[.int .i64 a1, .int .i64 a2], .int .i64 a2] W fun e w' => e = .returned (.tuple #[.agg #[.int .i64 N1, .int .i64 N2], .bool true]) ∧ Below W.heap.size W w')
    (hM : ∀ W, Calls Try.prog 10 #[.agg #[.int .i64 p1, .int .i64 p2, .int .i64 q1, .int .i64 q2, .slice x n c]] W fun e w' => e = .returned (.bool mt) ∧ Below W.heap.size W w')
    (hQ : ∀ W, Calls Try.prog 11 #[.agg #[.int .i64 p1, .int .i64 p2, .int .i64 q1, .int .i64 q2, .slice x n c]] W fun e w' => e = .returned (.bool mt) ∧ Below W.heap.size W w') :
    Calls Try.prog 3 #[.agg #[.int .i64 a1, .int .i64 a2], .agg #[.int .i64 a1, .int .i64 a2], .agg #[.int .i64 p1, .int .i64 p2, .int .i64 q1, .int .i64 q2, .slice x n c]] w fun e w' => e = .returned (.bool true) ∧ Below w.heap.size w w' := by
  have hL := fun W => less_any (a1, a2) (a1, a2) W
  have hL' := fun W => rless_any (a1, a2) (a1, a2) W
  have hI := fun W => less_any (a1, a2) (a1, a2) W
  rw [ltb_irr] at hI
  have hG := fun W => less_any (a1, a2) (a1, a2) W
  have hW := fun W => awake_any W
  have hE := fun W => eq_bt N1 N2 N1 N2 W
  simp only [decide_true, Bool.and_self] at hE
  have hD := fun W => neq_bt a1 a2 a1 a2 W
  simp only [decide_true, Bool.and_self, Bool.not_true] at hD
  generalize ltb (a1, a2) (a1, a2) = t1 at *
  have hA := fun W => less_any (a1, a2) (N1, N2) W
  rw [hlt] at hA
  clear hlt
  dsimp only [bt] at *
  have b0 : ∀ x y z, Below w.heap.size w (((w.alloc x).alloc y).alloc z) := fun x y z => on (on (al _ _) (al _ _)) (al _ _)
  go_enter Try.func3, Try.ntmps3
  go_wp2_with (first
    | (
       go_at_call 6; refine (hN _).mono ?_; rintro e w1 ⟨rfl, ha1⟩; clear hN
       have k0 := keep ha1 (b := w.heap.size) (o := 0) (x := .int .i64 a1) (by first | assumption | go_simp)
       have k1 := keep ha1 (b := w.heap.size) (o := 1) (x := .int .i64 a2) (by first | assumption | go_simp)
       have j0 := keep ha1 (b := w.heap.size + 1) (o := 0) (x := .int .i64 a1) (by first | assumption | go_simp)
       have j1 := keep ha1 (b := w.heap.size + 1) (o := 1) (x := .int .i64 a2) (by first | assumption | go_simp)
       have z0 := keep ha1 (b := w.heap.size + 1 + 1) (o := 0) (x := .int .i64 p1) (by first | assumption | go_simp)
       have z1 := keep ha1 (b := w.heap.size + 1 + 1) (o := 1) (x := .int .i64 p2) (by first | assumption | go_simp)
       have z2 := keep ha1 (b := w.heap.size + 1 + 1) (o := 2) (x := .int .i64 q1) (by first | assumption | go_simp)
       have z3 := keep ha1 (b := w.heap.size + 1 + 1) (o := 3) (x := .int .i64 q2) (by first | assumption | go_simp)
       have z4 := keep ha1 (b := w.heap.size + 1 + 1) (o := 4) (x := .slice x n c) (by first | assumption | go_simp)
       have l0 : w.heap.size < w1.heap.size := cell_lt' k0
       have l1 : w.heap.size + 1 < w1.heap.size := cell_lt' j0
       have l2 : w.heap.size + 1 + 1 < w1.heap.size := cell_lt' z0
       have B1 := on (b0 _ _ _) ha1; clear ha1)
    | (
       go_at_call 7; refine (hR _).mono ?_; rintro e w2 ⟨rfl, hb2⟩; clear hR
       have k0 := keep hb2 (b := w.heap.size) (o := 0) (x := .int .i64 a1) (by first | assumption | go_simp)
       have k1 := keep hb2 (b := w.heap.size) (o := 1) (x := .int .i64 a2) (by first | assumption | go_simp)
       have j0 := keep hb2 (b := w.heap.size + 1) (o := 0) (x := .int .i64 a1) (by first | assumption | go_simp)
       have j1 := keep hb2 (b := w.heap.size + 1) (o := 1) (x := .int .i64 a2) (by first | assumption | go_simp)
       have z0 := keep hb2 (b := w.heap.size + 1 + 1) (o := 0) (x := .int .i64 p1) (by first | assumption | go_simp)
       have z1 := keep hb2 (b := w.heap.size + 1 + 1) (o := 1) (x := .int .i64 p2) (by first | assumption | go_simp)
       have z2 := keep hb2 (b := w.heap.size + 1 + 1) (o := 2) (x := .int .i64 q1) (by first | assumption | go_simp)
       have z3 := keep hb2 (b := w.heap.size + 1 + 1) (o := 3) (x := .int .i64 q2) (by first | assumption | go_simp)
       have z4 := keep hb2 (b := w.heap.size + 1 + 1) (o := 4) (x := .slice x n c) (by first | assumption | go_simp)
       have u0 := keep hb2 (b := w1.heap.size) (o := 0) (x := .int .i64 N1) (by first | assumption | go_simp)
       have u1 := keep hb2 (b := w1.heap.size) (o := 1) (x := .int .i64 N2) (by first | assumption | go_simp)
       have l3 : w.heap.size < w2.heap.size := cell_lt' k0
       have l4 : w.heap.size + 1 < w2.heap.size := cell_lt' j0
       have l5 : w.heap.size + 1 + 1 < w2.heap.size := cell_lt' z0
       have l6 : w1.heap.size < w2.heap.size := cell_lt' u0
       have B2 := on (on B1 (al _ _)) hb2; clear hb2 B1))
  have bD : Below (w2.alloc (.cells #[.int .i64 N1, .int .i64 N2] 23)).heap.size (w2.alloc (.cells #[.int .i64 N1, .int .i64 N2] 23)) (w2.alloc (.cells #[.int .i64 N1, .int .i64 N2] 23)).drew := (Below.refl _ _).drew
  have k0 := keep bD (b := w.heap.size) (o := 0) (x := .int .i64 a1) (by first | assumption | go_simp)
  have k1 := keep bD (b := w.heap.size) (o := 1) (x := .int .i64 a2) (by first | assumption | go_simp)
  have j0 := keep bD (b := w.heap.size + 1) (o := 0) (x := .int .i64 a1) (by first | assumption | go_simp)
  have j1 := keep bD (b := w.heap.size + 1) (o := 1) (x := .int .i64 a2) (by first | assumption | go_simp)
  have z0 := keep bD (b := w.heap.size + 1 + 1) (o := 0) (x := .int .i64 p1) (by first | assumption | go_simp)
  have z1 := keep bD (b := w.heap.size + 1 + 1) (o := 1) (x := .int .i64 p2) (by first | assumption | go_simp)
  have z2 := keep bD (b := w.heap.size + 1 + 1) (o := 2) (x := .int .i64 q1) (by first | assumption | go_simp)
  have z3 := keep bD (b := w.heap.size + 1 + 1) (o := 3) (x := .int .i64 q2) (by first | assumption | go_simp)
  have z4 := keep bD (b := w.heap.size + 1 + 1) (o := 4) (x := .slice x n c) (by first | assumption | go_simp)
  have u0 := keep bD (b := w1.heap.size) (o := 0) (x := .int .i64 N1) (by first | assumption | go_simp)
  have u1 := keep bD (b := w1.heap.size) (o := 1) (x := .int .i64 N2) (by first | assumption | go_simp)
  have v0 := keep bD (b := w2.heap.size) (o := 0) (x := .int .i64 N1) (by first | assumption | go_simp)
  have v1 := keep bD (b := w2.heap.size) (o := 1) (x := .int .i64 N2) (by first | assumption | go_simp)
  have B3 := on (on B2 (al _ _)) bD
  have HK : Hid ((w2.alloc (.cells #[.int .i64 N1, .int .i64 N2] 23)).drew.cell? ⟨w.heap.size, 0, none⟩ = some (.int .i64 a1) ∧ (w2.alloc (.cells #[.int .i64 N1, .int .i64 N2] 23)).drew.cell? ⟨w.heap.size, 1, none⟩ = some (.int .i64 a2) ∧ (w2.alloc (.cells #[.int .i64 N1, .int .i64 N2] 23)).drew.cell? ⟨w.heap.size + 1, 0, none⟩ = some (.int .i64 a1) ∧ (w2.alloc (.cells #[.int .i64 N1, .int .i64 N2] 23)).drew.cell? ⟨w.heap.size + 1, 1, none⟩ = some (.int .i64 a2) ∧ (w2.alloc (.cells #[.int .i64 N1, .int .i64 N2] 23)).drew.cell? ⟨w.heap.size + 1 + 1, 0, none⟩ = some (.int .i64 p1) ∧ (w2.alloc (.cells #[.int .i64 N1, .int .i64 N2] 23)).drew.cell? ⟨w.heap.size + 1 + 1, 1, none⟩ = some (.int .i64 p2) ∧ (w2.alloc (.cells #[.int .i64 N1, .int .i64 N2] 23)).drew.cell? ⟨w.heap.size + 1 + 1, 2, none⟩ = some (.int .i64 q1) ∧ (w2.alloc (.cells #[.int .i64 N1, .int .i64 N2] 23)).drew.cell? ⟨w.heap.size + 1 + 1, 3, none⟩ = some (.int .i64 q2) ∧ (w2.alloc (.cells #[.int .i64 N1, .int .i64 N2] 23)).drew.cell? ⟨w.heap.size + 1 + 1, 4, none⟩ = some (.slice x n c) ∧ (w2.alloc (.cells #[.int .i64 N1, .int .i64 N2] 23)).drew.cell? ⟨w1.heap.size, 0, none⟩ = some (.int .i64 N1) ∧ (w2.alloc (.cells #[.int .i64 N1, .int .i64 N2] 23)).drew.cell? ⟨w1.heap.size, 1, none⟩ = some (.int .i64 N2) ∧ (w2.alloc (.cells #[.int .i64 N1, .int .i64 N2] 23)).drew.cell? ⟨w2.heap.size, 0, none⟩ = some (.int .i64 N1) ∧ (w2.alloc (.cells #[.int .i64 N1, .int .i64 N2] 23)).drew.cell? ⟨w2.heap.size, 1, none⟩ = some (.int .i64 N2)) := ⟨k0, k1, j0, j1, z0, z1, z2, z3, z4, u0, u1, v0, v1⟩
  clear bD B2 k0 k1 j0 j1 z0 z1 z2 z3 z4 u0 u1 v0 v1 l0 l1 l2 l3 l4 l5
  refine wp_region_held_drew (S := fun v => v.cell? ⟨w.heap.size, 0, none⟩ = some (.int .i64 a1) ∧ v.cell? ⟨w.heap.size, 1, none⟩ = some (.int .i64 a2) ∧ v.cell? ⟨w.heap.size + 1, 0, none⟩ = some (.int .i64 a1) ∧ v.cell? ⟨w.heap.size + 1, 1, none⟩ = some (.int .i64 a2)) (by kernel_rfl) ⟨HK.out.1, HK.out.2.1, HK.out.2.2.1, HK.out.2.2.2.1⟩ (fun hHeld => ?_)
  generalize (w2.alloc (.cells #[.int .i64 N1, .int .i64 N2] 23)).drew = wD at *
  refine wpAnyH_take (i := 0) (v := ?_) rfl (by kernel_rfl) (by kernel_rfl) (by kernel_rfl) (fun _ _ _ h => h) (Or.inl ⟨by rfl, ?_⟩) (by assumption) ?_
  case refine_2 => (intro w hSw; (try dsimp only at hSw); go_simp; (try with_reducible rfl))
  (try simp only [Act.put, List.getElem_toArray, List.getElem_cons_succ, List.getElem_cons_zero, List.setIfInBounds_toArray, List.set_cons_zero, List.set_cons_succ])
  refine wpAnyH_take (i := 1) (v := ?_) rfl (by kernel_rfl) (by kernel_rfl) (by kernel_rfl) (fun _ _ _ h => h) (Or.inl ⟨by rfl, ?_⟩) (by assumption) ?_
  case refine_2 => (intro w hSw; (try dsimp only at hSw); go_simp; (try with_reducible rfl))
  (try simp only [Act.put, List.getElem_toArray, List.getElem_cons_succ, List.getElem_cons_zero, List.setIfInBounds_toArray, List.set_cons_zero, List.set_cons_succ])
  refine wpAnyH_take (i := 3) (v := ?_) rfl (by kernel_rfl) (by kernel_rfl) (by kernel_rfl) (fun _ _ _ h => h) (Or.inl ⟨by rfl, ?_⟩) (by assumption) ?_
  case refine_2 => (intro w hSw; (try dsimp only at hSw); go_simp; (try with_reducible rfl))
  (try simp only [Act.put, List.getElem_toArray, List.getElem_cons_succ, List.getElem_cons_zero, List.setIfInBounds_toArray, List.set_cons_zero, List.set_cons_succ])
  refine wpAnyH_take (i := 4) (v := ?_) rfl (by kernel_rfl) (by kernel_rfl) (by kernel_rfl) (fun _ _ _ h => h) (Or.inl ⟨by rfl, ?_⟩) (by assumption) ?_
  case refine_2 => (intro w hSw; (try dsimp only at hSw); go_simp; (try with_reducible rfl))
  (try simp only [Act.put, List.getElem_toArray, List.getElem_cons_succ, List.getElem_cons_zero, List.setIfInBounds_toArray, List.set_cons_zero, List.set_cons_succ])
  refine wpAnyH_ready (rs := [2]) (by kernel_rfl) (by simp) ?_
  refine AllReadyH.cons rfl (fun K hK => ?_) AllReadyH.nil
  go_simp
  refine (hL _).mono ?_
  rintro e y1 ⟨rfl, ha1⟩
  have C1 := on B3 ha1
  have HK1 : Hid (y1.cell? ⟨w.heap.size, 0, none⟩ = some (.int .i64 a1) ∧ y1.cell? ⟨w.heap.size, 1, none⟩ = some (.int .i64 a2) ∧ y1.cell? ⟨w.heap.size + 1, 0, none⟩ = some (.int .i64 a1) ∧ y1.cell? ⟨w.heap.size + 1, 1, none⟩ = some (.int .i64 a2) ∧ y1.cell? ⟨w.heap.size + 1 + 1, 0, none⟩ = some (.int .i64 p1) ∧ y1.cell? ⟨w.heap.size + 1 + 1, 1, none⟩ = some (.int .i64 p2) ∧ y1.cell? ⟨w.heap.size + 1 + 1, 2, none⟩ = some (.int .i64 q1) ∧ y1.cell? ⟨w.heap.size + 1 + 1, 3, none⟩ = some (.int .i64 q2) ∧ y1.cell? ⟨w.heap.size + 1 + 1, 4, none⟩ = some (.slice x n c) ∧ y1.cell? ⟨w1.heap.size, 0, none⟩ = some (.int .i64 N1) ∧ y1.cell? ⟨w1.heap.size, 1, none⟩ = some (.int .i64 N2) ∧ y1.cell? ⟨w2.heap.size, 0, none⟩ = some (.int .i64 N1) ∧ y1.cell? ⟨w2.heap.size, 1, none⟩ = some (.int .i64 N2)) := ⟨keep ha1 HK.out.1, keep ha1 HK.out.2.1, keep ha1 HK.out.2.2.1, keep ha1 HK.out.2.2.2.1, keep ha1 HK.out.2.2.2.2.1, keep ha1 HK.out.2.2.2.2.2.1, keep ha1 HK.out.2.2.2.2.2.2.1, keep ha1 HK.out.2.2.2.2.2.2.2.1, keep ha1 HK.out.2.2.2.2.2.2.2.2.1, keep ha1 HK.out.2.2.2.2.2.2.2.2.2.1, keep ha1 HK.out.2.2.2.2.2.2.2.2.2.2.1, keep ha1 HK.out.2.2.2.2.2.2.2.2.2.2.2.1, keep ha1 HK.out.2.2.2.2.2.2.2.2.2.2.2.2⟩
  clear ha1
  refine hK.out _ _ ⟨HK1.out.1, HK1.out.2.1, HK1.out.2.2.1, HK1.out.2.2.2.1⟩ (fun hHeld => ?_)
  clear hK K
  refine wpAnyH_ready (rs := [5]) (by kernel_rfl) (by simp) ?_
  refine AllReadyH.cons rfl (fun K hK => ?_) AllReadyH.nil
  go_simp
  refine (hL' _).mono ?_
  rintro e y2 ⟨rfl, hb2⟩
  have C2 := on C1 hb2
  have HK2 : Hid (y2.cell? ⟨w.heap.size, 0, none⟩ = some (.int .i64 a1) ∧ y2.cell? ⟨w.heap.size, 1, none⟩ = some (.int .i64 a2) ∧ y2.cell? ⟨w.heap.size + 1, 0, none⟩ = some (.int .i64 a1) ∧ y2.cell? ⟨w.heap.size + 1, 1, none⟩ = some (.int .i64 a2) ∧ y2.cell? ⟨w.heap.size + 1 + 1, 0, none⟩ = some (.int .i64 p1) ∧ y2.cell? ⟨w.heap.size + 1 + 1, 1, none⟩ = some (.int .i64 p2) ∧ y2.cell? ⟨w.heap.size + 1 + 1, 2, none⟩ = some (.int .i64 q1) ∧ y2.cell? ⟨w.heap.size + 1 + 1, 3, none⟩ = some (.int .i64 q2) ∧ y2.cell? ⟨w.heap.size + 1 + 1, 4, none⟩ = some (.slice x n c) ∧ y2.cell? ⟨w1.heap.size, 0, none⟩ = some (.int .i64 N1) ∧ y2.cell? ⟨w1.heap.size, 1, none⟩ = some (.int .i64 N2) ∧ y2.cell? ⟨w2.heap.size, 0, none⟩ = some (.int .i64 N1) ∧ y2.cell? ⟨w2.heap.size, 1, none⟩ = some (.int .i64 N2)) := ⟨keep hb2 HK1.out.1, keep hb2 HK1.out.2.1, keep hb2 HK1.out.2.2.1, keep hb2 HK1.out.2.2.2.1, keep hb2 HK1.out.2.2.2.2.1, keep hb2 HK1.out.2.2.2.2.2.1, keep hb2 HK1.out.2.2.2.2.2.2.1, keep hb2 HK1.out.2.2.2.2.2.2.2.1, keep hb2 HK1.out.2.2.2.2.2.2.2.2.1, keep hb2 HK1.out.2.2.2.2.2.2.2.2.2.1, keep hb2 HK1.out.2.2.2.2.2.2.2.2.2.2.1, keep hb2 HK1.out.2.2.2.2.2.2.2.2.2.2.2.1, keep hb2 HK1.out.2.2.2.2.2.2.2.2.2.2.2.2⟩
  clear hb2
  refine hK.out _ _ ⟨HK2.out.1, HK2.out.2.1, HK2.out.2.2.1, HK2.out.2.2.2.1⟩ (fun hHeld => ?_)
  clear hK K
  refine wpAnyH_take (i := 6) (v := ?_) rfl (by kernel_rfl) (by kernel_rfl) (by kernel_rfl) (fun _ _ _ h => h) (Or.inl ⟨by rfl, ?_⟩) (by assumption) ?_
  case refine_2 => (intro w hSw; (try dsimp only at hSw); go_simp; (try with_reducible rfl))
  (try simp only [Act.put, List.getElem_toArray, List.getElem_cons_succ, List.getElem_cons_zero, List.setIfInBounds_toArray, List.set_cons_zero, List.set_cons_succ])
  refine wpAnyH_take (i := 7) (v := ?_) rfl (by kernel_rfl) (by kernel_rfl) (by kernel_rfl) (fun _ _ _ h => h) (Or.inl ⟨by rfl, ?_⟩) (by assumption) ?_
  case refine_2 => (intro w hSw; (try dsimp only at hSw); go_simp; (try with_reducible rfl))
  (try simp only [Act.put, List.getElem_toArray, List.getElem_cons_succ, List.getElem_cons_zero, List.setIfInBounds_toArray, List.set_cons_zero, List.set_cons_succ])
  refine wpAnyH_take (i := 8) (v := ?_) rfl (by kernel_rfl) (by kernel_rfl) (by kernel_rfl) (fun _ _ _ h => h) (Or.inl ⟨by rfl, ?_⟩) (by assumption) ?_
  case refine_2 => (intro w hSw; (try dsimp only at hSw); go_simp; (try with_reducible rfl))
  (try simp only [Act.put, List.getElem_toArray, List.getElem_cons_succ, List.getElem_cons_zero, List.setIfInBounds_toArray, List.set_cons_zero, List.set_cons_succ])
  refine wpAnyH_take (i := 9) (v := ?_) rfl (by kernel_rfl) (by kernel_rfl) (by kernel_rfl) (fun _ _ _ h => h) (Or.inl ⟨by rfl, ?_⟩) (by assumption) ?_
  case refine_2 => (intro w hSw; (try dsimp only at hSw); go_simp; (try with_reducible rfl))
  (try simp only [Act.put, List.getElem_toArray, List.getElem_cons_succ, List.getElem_cons_zero, List.setIfInBounds_toArray, List.set_cons_zero, List.set_cons_succ])
  refine wpAnyH_ready (rs := [10]) (by kernel_rfl) (by simp) ?_
  refine AllReadyH.cons rfl (fun K hK => ?_) AllReadyH.nil
  go_simp
  refine (hI _).mono ?_
  rintro e y3 ⟨rfl, hb3⟩
  have C3 := on C2 hb3
  have HK3 : Hid (y3.cell? ⟨w.heap.size, 0, none⟩ = some (.int .i64 a1) ∧ y3.cell? ⟨w.heap.size, 1, none⟩ = some (.int .i64 a2) ∧ y3.cell? ⟨w.heap.size + 1, 0, none⟩ = some (.int .i64 a1) ∧ y3.cell? ⟨w.heap.size + 1, 1, none⟩ = some (.int .i64 a2) ∧ y3.cell? ⟨w.heap.size + 1 + 1, 0, none⟩ = some (.int .i64 p1) ∧ y3.cell? ⟨w.heap.size + 1 + 1, 1, none⟩ = some (.int .i64 p2) ∧ y3.cell? ⟨w.heap.size + 1 + 1, 2, none⟩ = some (.int .i64 q1) ∧ y3.cell? ⟨w.heap.size + 1 + 1, 3, none⟩ = some (.int .i64 q2) ∧ y3.cell? ⟨w.heap.size + 1 + 1, 4, none⟩ = some (.slice x n c) ∧ y3.cell? ⟨w1.heap.size, 0, none⟩ = some (.int .i64 N1) ∧ y3.cell? ⟨w1.heap.size, 1, none⟩ = some (.int .i64 N2) ∧ y3.cell? ⟨w2.heap.size, 0, none⟩ = some (.int .i64 N1) ∧ y3.cell? ⟨w2.heap.size, 1, none⟩ = some (.int .i64 N2)) := ⟨keep hb3 HK2.out.1, keep hb3 HK2.out.2.1, keep hb3 HK2.out.2.2.1, keep hb3 HK2.out.2.2.2.1, keep hb3 HK2.out.2.2.2.2.1, keep hb3 HK2.out.2.2.2.2.2.1, keep hb3 HK2.out.2.2.2.2.2.2.1, keep hb3 HK2.out.2.2.2.2.2.2.2.1, keep hb3 HK2.out.2.2.2.2.2.2.2.2.1, keep hb3 HK2.out.2.2.2.2.2.2.2.2.2.1, keep hb3 HK2.out.2.2.2.2.2.2.2.2.2.2.1, keep hb3 HK2.out.2.2.2.2.2.2.2.2.2.2.2.1, keep hb3 HK2.out.2.2.2.2.2.2.2.2.2.2.2.2⟩
  clear hb3
  refine hK.out _ _ ⟨HK3.out.1, HK3.out.2.1, HK3.out.2.2.1, HK3.out.2.2.2.1⟩ (fun hHeld => ?_)
  clear hK K
  refine wpAnyH_take (i := 11) (v := ?_) rfl (by kernel_rfl) (by kernel_rfl) (by kernel_rfl) (fun _ _ _ h => h) (Or.inl ⟨by rfl, ?_⟩) (by assumption) ?_
  case refine_2 => (intro w hSw; (try dsimp only at hSw); go_simp; (try with_reducible rfl))
  (try simp only [Act.put, List.getElem_toArray, List.getElem_cons_succ, List.getElem_cons_zero, List.setIfInBounds_toArray, List.set_cons_zero, List.set_cons_succ])
  refine wpAnyH_take (i := 12) (v := ?_) rfl (by kernel_rfl) (by kernel_rfl) (by kernel_rfl) (fun _ _ _ h => h) (Or.inl ⟨by rfl, ?_⟩) (by assumption) ?_
  case refine_2 => (intro w hSw; (try dsimp only at hSw); go_simp; (try with_reducible rfl))
  (try simp only [Act.put, List.getElem_toArray, List.getElem_cons_succ, List.getElem_cons_zero, List.setIfInBounds_toArray, List.set_cons_zero, List.set_cons_succ])
  refine wpAnyH_take (i := 13) (v := ?_) rfl (by kernel_rfl) (by kernel_rfl) (by kernel_rfl) (fun _ _ _ h => h) (Or.inl ⟨by rfl, ?_⟩) (by assumption) ?_
  case refine_2 => (intro w hSw; (try dsimp only at hSw); go_simp; (try with_reducible rfl))
  (try simp only [Act.put, List.getElem_toArray, List.getElem_cons_succ, List.getElem_cons_zero, List.setIfInBounds_toArray, List.set_cons_zero, List.set_cons_succ])
  refine wpAnyH_take (i := 14) (v := ?_) rfl (by kernel_rfl) (by kernel_rfl) (by kernel_rfl) (fun _ _ _ h => h) (Or.inl ⟨by rfl, ?_⟩) (by assumption) ?_
  case refine_2 => (intro w hSw; (try dsimp only at hSw); go_simp; (try with_reducible rfl))
  (try simp only [Act.put, List.getElem_toArray, List.getElem_cons_succ, List.getElem_cons_zero, List.setIfInBounds_toArray, List.set_cons_zero, List.set_cons_succ])
  refine wpAnyH_take (i := 15) (v := ?_) rfl (by kernel_rfl) (by kernel_rfl) (by kernel_rfl) (fun _ _ _ h => h) (Or.inl ⟨by rfl, ?_⟩) (by assumption) ?_
  case refine_2 => (intro w hSw; (try dsimp only at hSw); go_simp; (try with_reducible rfl))
  (try simp only [Act.put, List.getElem_toArray, List.getElem_cons_succ, List.getElem_cons_zero, List.setIfInBounds_toArray, List.set_cons_zero, List.set_cons_succ])
  refine wpAnyH_take (i := 16) (v := ?_) rfl (by kernel_rfl) (by kernel_rfl) (by kernel_rfl) (fun _ _ _ h => h) (Or.inl ⟨by rfl, ?_⟩) (by assumption) ?_
  case refine_2 => (intro w hSw; (try dsimp only at hSw); go_simp; (try with_reducible rfl))
  (try simp only [Act.put, List.getElem_toArray, List.getElem_cons_succ, List.getElem_cons_zero, List.setIfInBounds_toArray, List.set_cons_zero, List.set_cons_succ])
  refine wpAnyH_take (i := 17) (v := undef) rfl (by kernel_rfl) (by kernel_rfl) (by kernel_rfl) (fun _ _ _ h => h) (Or.inr ⟨by rfl, rfl⟩) (by assumption) ?_
  (try simp only [Act.put, List.getElem_toArray, List.getElem_cons_succ, List.getElem_cons_zero, List.setIfInBounds_toArray, List.set_cons_zero, List.set_cons_succ])
  refine wpAnyH_take (i := 18) (v := undef) rfl (by kernel_rfl) (by kernel_rfl) (by kernel_rfl) (fun _ _ _ h => h) (Or.inr ⟨by rfl, rfl⟩) (by assumption) ?_
  (try simp only [Act.put, List.getElem_toArray, List.getElem_cons_succ, List.getElem_cons_zero, List.setIfInBounds_toArray, List.set_cons_zero, List.set_cons_succ])
  refine wpAnyH_take (i := 19) (v := undef) rfl (by kernel_rfl) (by kernel_rfl) (by kernel_rfl) (fun _ _ _ h => h) (Or.inr ⟨by rfl, rfl⟩) (by assumption) ?_
  (try simp only [Act.put, List.getElem_toArray, List.getElem_cons_succ, List.getElem_cons_zero, List.setIfInBounds_toArray, List.set_cons_zero, List.set_cons_succ])
  refine wpAnyH_take (i := 20) (v := undef) rfl (by kernel_rfl) (by kernel_rfl) (by kernel_rfl) (fun _ _ _ h => h) (Or.inr ⟨by rfl, rfl⟩) (by assumption) ?_
  (try simp only [Act.put, List.getElem_toArray, List.getElem_cons_succ, List.getElem_cons_zero, List.setIfInBounds_toArray, List.set_cons_zero, List.set_cons_succ])
  refine wpAnyH_take (i := 21) (v := undef) rfl (by kernel_rfl) (by kernel_rfl) (by kernel_rfl) (fun _ _ _ h => h) (Or.inr ⟨by rfl, rfl⟩) (by assumption) ?_
  (try simp only [Act.put, List.getElem_toArray, List.getElem_cons_succ, List.getElem_cons_zero, List.setIfInBounds_toArray, List.set_cons_zero, List.set_cons_succ])
  refine wpAnyH_take (i := 22) (v := undef) rfl (by kernel_rfl) (by kernel_rfl) (by kernel_rfl) (fun _ _ _ h => h) (Or.inr ⟨by rfl, rfl⟩) (by assumption) ?_
  (try simp only [Act.put, List.getElem_toArray, List.getElem_cons_succ, List.getElem_cons_zero, List.setIfInBounds_toArray, List.set_cons_zero, List.set_cons_succ])
  refine wpAnyH_take (i := 23) (v := undef) rfl (by kernel_rfl) (by kernel_rfl) (by kernel_rfl) (fun _ _ _ h => h) (Or.inr ⟨by rfl, rfl⟩) (by assumption) ?_
  (try simp only [Act.put, List.getElem_toArray, List.getElem_cons_succ, List.getElem_cons_zero, List.setIfInBounds_toArray, List.set_cons_zero, List.set_cons_succ])
  refine wpAnyH_take (i := 24) (v := ?_) rfl (by kernel_rfl) (by kernel_rfl) (by kernel_rfl) (fun _ _ _ h => h) (Or.inl ⟨by rfl, ?_⟩) (by assumption) ?_
  case refine_2 => (intro w hSw; (try dsimp only at hSw); go_simp; (try with_reducible rfl))
  (try simp only [Act.put, List.getElem_toArray, List.getElem_cons_succ, List.getElem_cons_zero, List.setIfInBounds_toArray, List.set_cons_zero, List.set_cons_succ])
  refine wpAnyH_take (i := 25) (v := ?_) rfl (by kernel_rfl) (by kernel_rfl) (by kernel_rfl) (fun _ _ _ h => h) (Or.inl ⟨by rfl, ?_⟩) (by assumption) ?_
  case refine_2 => (intro w hSw; (try dsimp only at hSw); go_simp; (try with_reducible rfl))
  (try simp only [Act.put, List.getElem_toArray, List.getElem_cons_succ, List.getElem_cons_zero, List.setIfInBounds_toArray, List.set_cons_zero, List.set_cons_succ])
  refine wpAnyH_done (by kernel_rfl) ?_ _
  go_wp2_with fail
  have bE : Below y3.heap.size y3 y3.drew := (Below.refl _ _).drew
  have C0 := on C3 bE
  have HK0 : Hid (y3.drew.cell? ⟨w.heap.size, 0, none⟩ = some (.int .i64 a1) ∧ y3.drew.cell? ⟨w.heap.size, 1, none⟩ = some (.int .i64 a2) ∧ y3.drew.cell? ⟨w.heap.size + 1, 0, none⟩ = some (.int .i64 a1) ∧ y3.drew.cell? ⟨w.heap.size + 1, 1, none⟩ = some (.int .i64 a2) ∧ y3.drew.cell? ⟨w.heap.size + 1 + 1, 0, none⟩ = some (.int .i64 p1) ∧ y3.drew.cell? ⟨w.heap.size + 1 + 1, 1, none⟩ = some (.int .i64 p2) ∧ y3.drew.cell? ⟨w.heap.size + 1 + 1, 2, none⟩ = some (.int .i64 q1) ∧ y3.drew.cell? ⟨w.heap.size + 1 + 1, 3, none⟩ = some (.int .i64 q2) ∧ y3.drew.cell? ⟨w.heap.size + 1 + 1, 4, none⟩ = some (.slice x n c) ∧ y3.drew.cell? ⟨w1.heap.size, 0, none⟩ = some (.int .i64 N1) ∧ y3.drew.cell? ⟨w1.heap.size, 1, none⟩ = some (.int .i64 N2) ∧ y3.drew.cell? ⟨w2.heap.size, 0, none⟩ = some (.int .i64 N1) ∧ y3.drew.cell? ⟨w2.heap.size, 1, none⟩ = some (.int .i64 N2)) := ⟨keep bE HK3.out.1, keep bE HK3.out.2.1, keep bE HK3.out.2.2.1, keep bE HK3.out.2.2.2.1, keep bE HK3.out.2.2.2.2.1, keep bE HK3.out.2.2.2.2.2.1, keep bE HK3.out.2.2.2.2.2.2.1, keep bE HK3.out.2.2.2.2.2.2.2.1, keep bE HK3.out.2.2.2.2.2.2.2.2.1, keep bE HK3.out.2.2.2.2.2.2.2.2.2.1, keep bE HK3.out.2.2.2.2.2.2.2.2.2.2.1, keep bE HK3.out.2.2.2.2.2.2.2.2.2.2.2.1, keep bE HK3.out.2.2.2.2.2.2.2.2.2.2.2.2⟩
  clear bE
  refine wp_region_held_drew (S := fun v => v.cell? ⟨w.heap.size, 0, none⟩ = some (.int .i64 a1) ∧ v.cell? ⟨w.heap.size, 1, none⟩ = some (.int .i64 a2) ∧ v.cell? ⟨w.heap.size + 1, 0, none⟩ = some (.int .i64 a1) ∧ v.cell? ⟨w.heap.size + 1, 1, none⟩ = some (.int .i64 a2) ∧ v.cell? ⟨w.heap.size + 1 + 1, 0, none⟩ = some (.int .i64 p1) ∧ v.cell? ⟨w.heap.size + 1 + 1, 1, none⟩ = some (.int .i64 p2) ∧ v.cell? ⟨w.heap.size + 1 + 1, 2, none⟩ = some (.int .i64 q1) ∧ v.cell? ⟨w.heap.size + 1 + 1, 3, none⟩ = some (.int .i64 q2) ∧ v.cell? ⟨w.heap.size + 1 + 1, 4, none⟩ = some (.slice x n c) ∧ v.cell? ⟨w1.heap.size, 0, none⟩ = some (.int .i64 N1) ∧ v.cell? ⟨w1.heap.size, 1, none⟩ = some (.int .i64 N2) ∧ v.cell? ⟨w2.heap.size, 0, none⟩ = some (.int .i64 N1) ∧ v.cell? ⟨w2.heap.size, 1, none⟩ = some (.int .i64 N2)) (by kernel_rfl) HK0.out (fun hHeld => ?_)
  generalize y3.drew = wE at *
  refine wpAnyH_take (i := 0) (v := ?_) rfl (by kernel_rfl) (by kernel_rfl) (by kernel_rfl) (fun _ _ _ h => h) (Or.inl ⟨by rfl, ?_⟩) (by assumption) ?_
  case refine_2 => (intro w hSw; (try dsimp only at hSw); go_simp; (try with_reducible rfl))
  (try simp only [Act.put, List.getElem_toArray, List.getElem_cons_succ, List.getElem_cons_zero, List.setIfInBounds_toArray, List.set_cons_zero, List.set_cons_succ])
  refine wpAnyH_take (i := 1) (v := ?_) rfl (by kernel_rfl) (by kernel_rfl) (by kernel_rfl) (fun _ _ _ h => h) (Or.inl ⟨by rfl, ?_⟩) (by assumption) ?_
  case refine_2 => (intro w hSw; (try dsimp only at hSw); go_simp; (try with_reducible rfl))
  (try simp only [Act.put, List.getElem_toArray, List.getElem_cons_succ, List.getElem_cons_zero, List.setIfInBounds_toArray, List.set_cons_zero, List.set_cons_succ])
  refine wpAnyH_take (i := 2) (v := ?_) rfl (by kernel_rfl) (by kernel_rfl) (by kernel_rfl) (fun _ _ _ h => h) (Or.inl ⟨by rfl, ?_⟩) (by assumption) ?_
  case refine_2 => (intro w hSw; (try dsimp only at hSw); go_simp; (try with_reducible rfl))
  (try simp only [Act.put, List.getElem_toArray, List.getElem_cons_succ, List.getElem_cons_zero, List.setIfInBounds_toArray, List.set_cons_zero, List.set_cons_succ])
  refine wpAnyH_take (i := 3) (v := ?_) rfl (by kernel_rfl) (by kernel_rfl) (by kernel_rfl) (fun _ _ _ h => h) (Or.inl ⟨by rfl, ?_⟩) (by assumption) ?_
  case refine_2 => (intro w hSw; (try dsimp only at hSw); go_simp; (try with_reducible rfl))
  (try simp only [Act.put, List.getElem_toArray, List.getElem_cons_succ, List.getElem_cons_zero, List.setIfInBounds_toArray, List.set_cons_zero, List.set_cons_succ])
  refine wpAnyH_take (i := 4) (v := ?_) rfl (by kernel_rfl) (by kernel_rfl) (by kernel_rfl) (fun _ _ _ h => h) (Or.inl ⟨by rfl, ?_⟩) (by assumption) ?_
  case refine_2 => (intro w hSw; (try dsimp only at hSw); go_simp; (try with_reducible rfl))
  (try simp only [Act.put, List.getElem_toArray, List.getElem_cons_succ, List.getElem_cons_zero, List.setIfInBounds_toArray, List.set_cons_zero, List.set_cons_succ])
  refine wpAnyH_take (i := 5) (v := ?_) rfl (by kernel_rfl) (by kernel_rfl) (by kernel_rfl) (fun _ _ _ h => h) (Or.inl ⟨by rfl, ?_⟩) (by assumption) ?_
  case refine_2 => (intro w hSw; (try dsimp only at hSw); go_simp; (try with_reducible rfl))
  (try simp only [Act.put, List.getElem_toArray, List.getElem_cons_succ, List.getElem_cons_zero, List.setIfInBounds_toArray, List.set_cons_zero, List.set_cons_succ])
  refine wpAnyH_take (i := 6) (v := ?_) rfl (by kernel_rfl) (by kernel_rfl) (by kernel_rfl) (fun _ _ _ h => h) (Or.inl ⟨by rfl, ?_⟩) (by assumption) ?_
  case refine_2 => (intro w hSw; (try dsimp only at hSw); go_simp; (try with_reducible rfl))
  (try simp only [Act.put, List.getElem_toArray, List.getElem_cons_succ, List.getElem_cons_zero, List.setIfInBounds_toArray, List.set_cons_zero, List.set_cons_succ])
  refine wpAnyH_take (i := 7) (v := ?_) rfl (by kernel_rfl) (by kernel_rfl) (by kernel_rfl) (fun _ _ _ h => h) (Or.inl ⟨by rfl, ?_⟩) (by assumption) ?_
  case refine_2 => (intro w hSw; (try dsimp only at hSw); go_simp; (try with_reducible rfl))
  (try simp only [Act.put, List.getElem_toArray, List.getElem_cons_succ, List.getElem_cons_zero, List.setIfInBounds_toArray, List.set_cons_zero, List.set_cons_succ])
  refine wpAnyH_take (i := 8) (v := ?_) rfl (by kernel_rfl) (by kernel_rfl) (by kernel_rfl) (fun _ _ _ h => h) (Or.inl ⟨by rfl, ?_⟩) (by assumption) ?_
  case refine_2 => (intro w hSw; (try dsimp only at hSw); go_simp; (try with_reducible rfl))
  (try simp only [Act.put, List.getElem_toArray, List.getElem_cons_succ, List.getElem_cons_zero, List.setIfInBounds_toArray, List.set_cons_zero, List.set_cons_succ])
  refine wpAnyH_take (i := 9) (v := ?_) rfl (by kernel_rfl) (by kernel_rfl) (by kernel_rfl) (fun _ _ _ h => h) (Or.inl ⟨by rfl, ?_⟩) (by assumption) ?_
  case refine_2 => (intro w hSw; (try dsimp only at hSw); go_simp; (try with_reducible rfl))
  (try simp only [Act.put, List.getElem_toArray, List.getElem_cons_succ, List.getElem_cons_zero, List.setIfInBounds_toArray, List.set_cons_zero, List.set_cons_succ])
  refine wpAnyH_take (i := 10) (v := ?_) rfl (by kernel_rfl) (by kernel_rfl) (by kernel_rfl) (fun _ _ _ h => h) (Or.inl ⟨by rfl, ?_⟩) (by assumption) ?_
  case refine_2 => (intro w hSw; (try dsimp only at hSw); go_simp; (try with_reducible rfl))
  (try simp only [Act.put, List.getElem_toArray, List.getElem_cons_succ, List.getElem_cons_zero, List.setIfInBounds_toArray, List.set_cons_zero, List.set_cons_succ])
  refine wpAnyH_take (i := 11) (v := ?_) rfl (by kernel_rfl) (by kernel_rfl) (by kernel_rfl) (fun _ _ _ h => h) (Or.inl ⟨by rfl, ?_⟩) (by assumption) ?_
  case refine_2 => (intro w hSw; (try dsimp only at hSw); go_simp; (try with_reducible rfl))
  (try simp only [Act.put, List.getElem_toArray, List.getElem_cons_succ, List.getElem_cons_zero, List.setIfInBounds_toArray, List.set_cons_zero, List.set_cons_succ])
  refine wpAnyH_take (i := 12) (v := ?_) rfl (by kernel_rfl) (by kernel_rfl) (by kernel_rfl) (fun _ _ _ h => h) (Or.inl ⟨by rfl, ?_⟩) (by assumption) ?_
  case refine_2 => (intro w hSw; (try dsimp only at hSw); go_simp; (try with_reducible rfl))
  (try simp only [Act.put, List.getElem_toArray, List.getElem_cons_succ, List.getElem_cons_zero, List.setIfInBounds_toArray, List.set_cons_zero, List.set_cons_succ])
  refine wpAnyH_take (i := 13) (v := ?_) rfl (by kernel_rfl) (by kernel_rfl) (by kernel_rfl) (fun _ _ _ h => h) (Or.inl ⟨by rfl, ?_⟩) (by assumption) ?_
  case refine_2 => (intro w hSw; (try dsimp only at hSw); go_simp; (try with_reducible rfl))
  (try simp only [Act.put, List.getElem_toArray, List.getElem_cons_succ, List.getElem_cons_zero, List.setIfInBounds_toArray, List.set_cons_zero, List.set_cons_succ])
  refine wpAnyH_ready (rs := [14]) (by kernel_rfl) (by simp) ?_
  refine AllReadyH.cons rfl (fun K hK => ?_) AllReadyH.nil
  go_simp
  refine (hA _).mono ?_
  rintro e y4 ⟨rfl, hb4⟩
  have C4 := on C0 hb4
  have HK4 : Hid (y4.cell? ⟨w.heap.size, 0, none⟩ = some (.int .i64 a1) ∧ y4.cell? ⟨w.heap.size, 1, none⟩ = some (.int .i64 a2) ∧ y4.cell? ⟨w.heap.size + 1, 0, none⟩ = some (.int .i64 a1) ∧ y4.cell? ⟨w.heap.size + 1, 1, none⟩ = some (.int .i64 a2) ∧ y4.cell? ⟨w.heap.size + 1 + 1, 0, none⟩ = some (.int .i64 p1) ∧ y4.cell? ⟨w.heap.size + 1 + 1, 1, none⟩ = some (.int .i64 p2) ∧ y4.cell? ⟨w.heap.size + 1 + 1, 2, none⟩ = some (.int .i64 q1) ∧ y4.cell? ⟨w.heap.size + 1 + 1, 3, none⟩ = some (.int .i64 q2) ∧ y4.cell? ⟨w.heap.size + 1 + 1, 4, none⟩ = some (.slice x n c) ∧ y4.cell? ⟨w1.heap.size, 0, none⟩ = some (.int .i64 N1) ∧ y4.cell? ⟨w1.heap.size, 1, none⟩ = some (.int .i64 N2) ∧ y4.cell? ⟨w2.heap.size, 0, none⟩ = some (.int .i64 N1) ∧ y4.cell? ⟨w2.heap.size, 1, none⟩ = some (.int .i64 N2)) := ⟨keep hb4 HK0.out.1, keep hb4 HK0.out.2.1, keep hb4 HK0.out.2.2.1, keep hb4 HK0.out.2.2.2.1, keep hb4 HK0.out.2.2.2.2.1, keep hb4 HK0.out.2.2.2.2.2.1, keep hb4 HK0.out.2.2.2.2.2.2.1, keep hb4 HK0.out.2.2.2.2.2.2.2.1, keep hb4 HK0.out.2.2.2.2.2.2.2.2.1, keep hb4 HK0.out.2.2.2.2.2.2.2.2.2.1, keep hb4 HK0.out.2.2.2.2.2.2.2.2.2.2.1, keep hb4 HK0.out.2.2.2.2.2.2.2.2.2.2.2.1, keep hb4 HK0.out.2.2.2.2.2.2.2.2.2.2.2.2⟩
  clear hb4
  refine hK.out _ _ HK4.out (fun hHeld => ?_)
  clear hK K
  refine wpAnyH_take (i := 15) (v := ?_) rfl (by kernel_rfl) (by kernel_rfl) (by kernel_rfl) (fun _ _ _ h => h) (Or.inl ⟨by rfl, ?_⟩) (by assumption) ?_
  case refine_2 => (intro w hSw; (try dsimp only at hSw); go_simp; (try with_reducible rfl))
  (try simp only [Act.put, List.getElem_toArray, List.getElem_cons_succ, List.getElem_cons_zero, List.setIfInBounds_toArray, List.set_cons_zero, List.set_cons_succ])
  refine wpAnyH_take (i := 16) (v := ?_) rfl (by kernel_rfl) (by kernel_rfl) (by kernel_rfl) (fun _ _ _ h => h) (Or.inl ⟨by rfl, ?_⟩) (by assumption) ?_
  case refine_2 => (intro w hSw; (try dsimp only at hSw); go_simp; (try with_reducible rfl))
  (try simp only [Act.put, List.getElem_toArray, List.getElem_cons_succ, List.getElem_cons_zero, List.setIfInBounds_toArray, List.set_cons_zero, List.set_cons_succ])
  refine wpAnyH_take (i := 17) (v := ?_) rfl (by kernel_rfl) (by kernel_rfl) (by kernel_rfl) (fun _ _ _ h => h) (Or.inl ⟨by rfl, ?_⟩) (by assumption) ?_
  case refine_2 => (intro w hSw; (try dsimp only at hSw); go_simp; (try with_reducible rfl))
  (try simp only [Act.put, List.getElem_toArray, List.getElem_cons_succ, List.getElem_cons_zero, List.setIfInBounds_toArray, List.set_cons_zero, List.set_cons_succ])
  refine wpAnyH_take (i := 18) (v := ?_) rfl (by kernel_rfl) (by kernel_rfl) (by kernel_rfl) (fun _ _ _ h => h) (Or.inl ⟨by rfl, ?_⟩) (by assumption) ?_
  case refine_2 => (intro w hSw; (try dsimp only at hSw); go_simp; (try with_reducible rfl))
  (try simp only [Act.put, List.getElem_toArray, List.getElem_cons_succ, List.getElem_cons_zero, List.setIfInBounds_toArray, List.set_cons_zero, List.set_cons_succ])
  refine wpAnyH_take (i := 20) (v := ?_) rfl (by kernel_rfl) (by kernel_rfl) (by kernel_rfl) (fun _ _ _ h => h) (Or.inl ⟨by rfl, ?_⟩) (by assumption) ?_
  case refine_2 => (intro w hSw; (try dsimp only at hSw); go_simp; (try with_reducible rfl))
  (try simp only [Act.put, List.getElem_toArray, List.getElem_cons_succ, List.getElem_cons_zero, List.setIfInBounds_toArray, List.set_cons_zero, List.set_cons_succ])
  refine wpAnyH_ready (rs := [19]) (by kernel_rfl) (by simp) ?_
  refine AllReadyH.cons rfl (fun K hK => ?_) AllReadyH.nil
  go_simp
  refine (hM _).mono ?_
  rintro e y5 ⟨rfl, hb5⟩
  have C5 := on C4 hb5
  have HK5 : Hid (y5.cell? ⟨w.heap.size, 0, none⟩ = some (.int .i64 a1) ∧ y5.cell? ⟨w.heap.size, 1, none⟩ = some (.int .i64 a2) ∧ y5.cell? ⟨w.heap.size + 1, 0, none⟩ = some (.int .i64 a1) ∧ y5.cell? ⟨w.heap.size + 1, 1, none⟩ = some (.int .i64 a2) ∧ y5.cell? ⟨w.heap.size + 1 + 1, 0, none⟩ = some (.int .i64 p1) ∧ y5.cell? ⟨w.heap.size + 1 + 1, 1, none⟩ = some (.int .i64 p2) ∧ y5.cell? ⟨w.heap.size + 1 + 1, 2, none⟩ = some (.int .i64 q1) ∧ y5.cell? ⟨w.heap.size + 1 + 1, 3, none⟩ = some (.int .i64 q2) ∧ y5.cell? ⟨w.heap.size + 1 + 1, 4, none⟩ = some (.slice x n c) ∧ y5.cell? ⟨w1.heap.size, 0, none⟩ = some (.int .i64 N1) ∧ y5.cell? ⟨w1.heap.size, 1, none⟩ = some (.int .i64 N2) ∧ y5.cell? ⟨w2.heap.size, 0, none⟩ = some (.int .i64 N1) ∧ y5.cell? ⟨w2.heap.size, 1, none⟩ = some (.int .i64 N2)) := ⟨keep hb5 HK4.out.1, keep hb5 HK4.out.2.1, keep hb5 HK4.out.2.2.1, keep hb5 HK4.out.2.2.2.1, keep hb5 HK4.out.2.2.2.2.1, keep hb5 HK4.out.2.2.2.2.2.1, keep hb5 HK4.out.2.2.2.2.2.2.1, keep hb5 HK4.out.2.2.2.2.2.2.2.1, keep hb5 HK4.out.2.2.2.2.2.2.2.2.1, keep hb5 HK4.out.2.2.2.2.2.2.2.2.2.1, keep hb5 HK4.out.2.2.2.2.2.2.2.2.2.2.1, keep hb5 HK4.out.2.2.2.2.2.2.2.2.2.2.2.1, keep hb5 HK4.out.2.2.2.2.2.2.2.2.2.2.2.2⟩
  clear hb5
  refine hK.out _ _ HK5.out (fun hHeld => ?_)
  clear hK K
  refine wpAnyH_ready (rs := [21]) (by kernel_rfl) (by simp) ?_
  refine AllReadyH.cons rfl (fun K hK => ?_) AllReadyH.nil
  go_simp
  refine (hQ _).mono ?_
  rintro e y6 ⟨rfl, hb6⟩
  have C6 := on C5 hb6
  have HK6 : Hid (y6.cell? ⟨w.heap.size, 0, none⟩ = some (.int .i64 a1) ∧ y6.cell? ⟨w.heap.size, 1, none⟩ = some (.int .i64 a2) ∧ y6.cell? ⟨w.heap.size + 1, 0, none⟩ = some (.int .i64 a1) ∧ y6.cell? ⟨w.heap.size + 1, 1, none⟩ = some (.int .i64 a2) ∧ y6.cell? ⟨w.heap.size + 1 + 1, 0, none⟩ = some (.int .i64 p1) ∧ y6.cell? ⟨w.heap.size + 1 + 1, 1, none⟩ = some (.int .i64 p2) ∧ y6.cell? ⟨w.heap.size + 1 + 1, 2, none⟩ = some (.int .i64 q1) ∧ y6.cell? ⟨w.heap.size + 1 + 1, 3, none⟩ = some (.int .i64 q2) ∧ y6.cell? ⟨w.heap.size + 1 + 1, 4, none⟩ = some (.slice x n c) ∧ y6.cell? ⟨w1.heap.size, 0, none⟩ = some (.int .i64 N1) ∧ y6.cell? ⟨w1.heap.size, 1, none⟩ = some (.int .i64 N2) ∧ y6.cell? ⟨w2.heap.size, 0, none⟩ = some (.int .i64 N1) ∧ y6.cell? ⟨w2.heap.size, 1, none⟩ = some (.int .i64 N2)) := ⟨keep hb6 HK5.out.1, keep hb6 HK5.out.2.1, keep hb6 HK5.out.2.2.1, keep hb6 HK5.out.2.2.2.1, keep hb6 HK5.out.2.2.2.2.1, keep hb6 HK5.out.2.2.2.2.2.1, keep hb6 HK5.out.2.2.2.2.2.2.1, keep hb6 HK5.out.2.2.2.2.2.2.2.1, keep hb6 HK5.out.2.2.2.2.2.2.2.2.1, keep hb6 HK5.out.2.2.2.2.2.2.2.2.2.1, keep hb6 HK5.out.2.2.2.2.2.2.2.2.2.2.1, keep hb6 HK5.out.2.2.2.2.2.2.2.2.2.2.2.1, keep hb6 HK5.out.2.2.2.2.2.2.2.2.2.2.2.2⟩
  clear hb6
  refine hK.out _ _ HK6.out (fun hHeld => ?_)
  clear hK K
  refine wpAnyH_take (i := 22) (v := ?_) rfl (by kernel_rfl) (by kernel_rfl) (by kernel_rfl) (fun _ _ _ h => h) (Or.inl ⟨by rfl, ?_⟩) (by assumption) ?_
  case refine_2 => (intro w hSw; (try dsimp only at hSw); go_simp; (try with_reducible rfl))
  (try simp only [Act.put, List.getElem_toArray, List.getElem_cons_succ, List.getElem_cons_zero, List.setIfInBounds_toArray, List.set_cons_zero, List.set_cons_succ])
  refine wpAnyH_take (i := 23) (v := ?_) rfl (by kernel_rfl) (by kernel_rfl) (by kernel_rfl) (fun _ _ _ h => h) (Or.inl ⟨by rfl, ?_⟩) (by assumption) ?_
  case refine_2 => (intro w hSw; (try dsimp only at hSw); go_simp; (try with_reducible rfl))
  (try simp only [Act.put, List.getElem_toArray, List.getElem_cons_succ, List.getElem_cons_zero, List.setIfInBounds_toArray, List.set_cons_zero, List.set_cons_succ])
  refine wpAnyH_take (i := 24) (v := ?_) rfl (by kernel_rfl) (by kernel_rfl) (by kernel_rfl) (fun _ _ _ h => h) (Or.inl ⟨by rfl, ?_⟩) (by assumption) ?_
  case refine_2 => (intro w hSw; (try dsimp only at hSw); go_simp; (try with_reducible rfl))
  (try simp only [Act.put, List.getElem_toArray, List.getElem_cons_succ, List.getElem_cons_zero, List.setIfInBounds_toArray, List.set_cons_zero, List.set_cons_succ])
  refine wpAnyH_ready (rs := [25]) (by kernel_rfl) (by simp) ?_
  refine AllReadyH.cons rfl (fun K hK => ?_) AllReadyH.nil
  go_simp
  refine (hW _).mono ?_
  rintro e y7 ⟨rfl, hb7⟩
  have C7 := on C6 hb7
  have HK7 : Hid (y7.cell? ⟨w.heap.size, 0, none⟩ = some (.int .i64 a1) ∧ y7.cell? ⟨w.heap.size, 1, none⟩ = some (.int .i64 a2) ∧ y7.cell? ⟨w.heap.size + 1, 0, none⟩ = some (.int .i64 a1) ∧ y7.cell? ⟨w.heap.size + 1, 1, none⟩ = some (.int .i64 a2) ∧ y7.cell? ⟨w.heap.size + 1 + 1, 0, none⟩ = some (.int .i64 p1) ∧ y7.cell? ⟨w.heap.size + 1 + 1, 1, none⟩ = some (.int .i64 p2) ∧ y7.cell? ⟨w.heap.size + 1 + 1, 2, none⟩ = some (.int .i64 q1) ∧ y7.cell? ⟨w.heap.size + 1 + 1, 3, none⟩ = some (.int .i64 q2) ∧ y7.cell? ⟨w.heap.size + 1 + 1, 4, none⟩ = some (.slice x n c) ∧ y7.cell? ⟨w1.heap.size, 0, none⟩ = some (.int .i64 N1) ∧ y7.cell? ⟨w1.heap.size, 1, none⟩ = some (.int .i64 N2) ∧ y7.cell? ⟨w2.heap.size, 0, none⟩ = some (.int .i64 N1) ∧ y7.cell? ⟨w2.heap.size, 1, none⟩ = some (.int .i64 N2)) := ⟨keep hb7 HK6.out.1, keep hb7 HK6.out.2.1, keep hb7 HK6.out.2.2.1, keep hb7 HK6.out.2.2.2.1, keep hb7 HK6.out.2.2.2.2.1, keep hb7 HK6.out.2.2.2.2.2.1, keep hb7 HK6.out.2.2.2.2.2.2.1, keep hb7 HK6.out.2.2.2.2.2.2.2.1, keep hb7 HK6.out.2.2.2.2.2.2.2.2.1, keep hb7 HK6.out.2.2.2.2.2.2.2.2.2.1, keep hb7 HK6.out.2.2.2.2.2.2.2.2.2.2.1, keep hb7 HK6.out.2.2.2.2.2.2.2.2.2.2.2.1, keep hb7 HK6.out.2.2.2.2.2.2.2.2.2.2.2.2⟩
  clear hb7
  refine hK.out _ _ HK7.out (fun hHeld => ?_)
  clear hK K
  refine wpAnyH_take (i := 26) (v := ?_) rfl (by kernel_rfl) (by kernel_rfl) (by kernel_rfl) (fun _ _ _ h => h) (Or.inl ⟨by rfl, ?_⟩) (by assumption) ?_
  case refine_2 => (intro w hSw; (try dsimp only at hSw); go_simp; (try with_reducible rfl))
  (try simp only [Act.put, List.getElem_toArray, List.getElem_cons_succ, List.getElem_cons_zero, List.setIfInBounds_toArray, List.set_cons_zero, List.set_cons_succ])
  refine wpAnyH_take (i := 27) (v := ?_) rfl (by kernel_rfl) (by kernel_rfl) (by kernel_rfl) (fun _ _ _ h => h) (Or.inl ⟨by rfl, ?_⟩) (by assumption) ?_
  case refine_2 => (intro w hSw; (try dsimp only at hSw); go_simp; (try with_reducible rfl))
  (try simp only [Act.put, List.getElem_toArray, List.getElem_cons_succ, List.getElem_cons_zero, List.setIfInBounds_toArray, List.set_cons_zero, List.set_cons_succ])
  refine wpAnyH_done (by kernel_rfl) ?_ _
  go_wp2_with fail
  go_ret
  exact ⟨by simp, C7⟩

set_option maxHeartbeats 4000000 in
set_option maxRecDepth 100000 in
theorem orders_eq_f (a1 a2 N1 N2 p1 p2 q1 q2 : Int) (x : Option Addr) (n c : Nat) (t mt : Bool) (w : World) 
    (hN : ∀ W, Calls Try.prog 6 #[.agg #[.int .i64 a1, .int .i64 a2], .int .i64 a2] W fun e w' => e = .returned (.tuple #[.agg #[.int .i64 N1, .int .i64 N2], .bool false]) ∧ Below W.heap.size W w')
    (hR : ∀ W, Calls Try.prog 7 #[.agg #[.int .i64 a1, .int .i64 a2], .int .i64 a2] W fun e w' => e = .returned (.tuple #[.agg #[.int .i64 N1, .int .i64 N2], .bool false]) ∧ Below W.heap.size W w')
    (hM : ∀ W, Calls Try.prog 10 #[.agg #[.int .i64 p1, .int .i64 p2, .int .i64 q1, .int .i64 q2, .slice x n c]] W fun e w' => e = .returned (.bool mt) ∧ Below W.heap.size W w')
    (hQ : ∀ W, Calls Try.prog 11 #[.agg #[.int .i64 p1, .int .i64 p2, .int .i64 q1, .int .i64 q2, .slice x n c]] W fun e w' => e = .returned (.bool mt) ∧ Below W.heap.size W w') :
    Calls Try.prog 3 #[.agg #[.int .i64 a1, .int .i64 a2], .agg #[.int .i64 a1, .int .i64 a2], .agg #[.int .i64 p1, .int .i64 p2, .int .i64 q1, .int .i64 q2, .slice x n c]] w fun e w' => e = .returned (.bool true) ∧ Below w.heap.size w w' := by
  have hL := fun W => less_any (a1, a2) (a1, a2) W
  have hL' := fun W => rless_any (a1, a2) (a1, a2) W
  have hI := fun W => less_any (a1, a2) (a1, a2) W
  rw [ltb_irr] at hI
  have hG := fun W => less_any (a1, a2) (a1, a2) W
  have hW := fun W => awake_any W
  have hE := fun W => eq_bt N1 N2 N1 N2 W
  simp only [decide_true, Bool.and_self] at hE
  have hD := fun W => neq_bt a1 a2 a1 a2 W
  simp only [decide_true, Bool.and_self, Bool.not_true] at hD
  generalize ltb (a1, a2) (a1, a2) = t1 at *
  dsimp only [bt] at *
  have b0 : ∀ x y z, Below w.heap.size w (((w.alloc x).alloc y).alloc z) := fun x y z => on (on (al _ _) (al _ _)) (al _ _)
  go_enter Try.func3, Try.ntmps3
  go_wp2_with (first
    | (
       go_at_call 6; refine (hN _).mono ?_; rintro e w1 ⟨rfl, ha1⟩; clear hN
       have k0 := keep ha1 (b := w.heap.size) (o := 0) (x := .int .i64 a1) (by first | assumption | go_simp)
       have k1 := keep ha1 (b := w.heap.size) (o := 1) (x := .int .i64 a2) (by first | assumption | go_simp)
       have j0 := keep ha1 (b := w.heap.size + 1) (o := 0) (x := .int .i64 a1) (by first | assumption | go_simp)
       have j1 := keep ha1 (b := w.heap.size + 1) (o := 1) (x := .int .i64 a2) (by first | assumption | go_simp)
       have z0 := keep ha1 (b := w.heap.size + 1 + 1) (o := 0) (x := .int .i64 p1) (by first | assumption | go_simp)
       have z1 := keep ha1 (b := w.heap.size + 1 + 1) (o := 1) (x := .int .i64 p2) (by first | assumption | go_simp)
       have z2 := keep ha1 (b := w.heap.size + 1 + 1) (o := 2) (x := .int .i64 q1) (by first | assumption | go_simp)
       have z3 := keep ha1 (b := w.heap.size + 1 + 1) (o := 3) (x := .int .i64 q2) (by first | assumption | go_simp)
       have z4 := keep ha1 (b := w.heap.size + 1 + 1) (o := 4) (x := .slice x n c) (by first | assumption | go_simp)
       have l0 : w.heap.size < w1.heap.size := cell_lt' k0
       have l1 : w.heap.size + 1 < w1.heap.size := cell_lt' j0
       have l2 : w.heap.size + 1 + 1 < w1.heap.size := cell_lt' z0
       have B1 := on (b0 _ _ _) ha1; clear ha1)
    | (
       go_at_call 7; refine (hR _).mono ?_; rintro e w2 ⟨rfl, hb2⟩; clear hR
       have k0 := keep hb2 (b := w.heap.size) (o := 0) (x := .int .i64 a1) (by first | assumption | go_simp)
       have k1 := keep hb2 (b := w.heap.size) (o := 1) (x := .int .i64 a2) (by first | assumption | go_simp)
       have j0 := keep hb2 (b := w.heap.size + 1) (o := 0) (x := .int .i64 a1) (by first | assumption | go_simp)
       have j1 := keep hb2 (b := w.heap.size + 1) (o := 1) (x := .int .i64 a2) (by first | assumption | go_simp)
       have z0 := keep hb2 (b := w.heap.size + 1 + 1) (o := 0) (x := .int .i64 p1) (by first | assumption | go_simp)
       have z1 := keep hb2 (b := w.heap.size + 1 + 1) (o := 1) (x := .int .i64 p2) (by first | assumption | go_simp)
       have z2 := keep hb2 (b := w.heap.size + 1 + 1) (o := 2) (x := .int .i64 q1) (by first | assumption | go_simp)
       have z3 := keep hb2 (b := w.heap.size + 1 + 1) (o := 3) (x := .int .i64 q2) (by first | assumption | go_simp)
       have z4 := keep hb2 (b := w.heap.size + 1 + 1) (o := 4) (x := .slice x n c) (by first | assumption | go_simp)
       have u0 := keep hb2 (b := w1.heap.size) (o := 0) (x := .int .i64 N1) (by first | assumption | go_simp)
       have u1 := keep hb2 (b := w1.heap.size) (o := 1) (x := .int .i64 N2) (by first | assumption | go_simp)
       have l3 : w.heap.size < w2.heap.size := cell_lt' k0
       have l4 : w.heap.size + 1 < w2.heap.size := cell_lt' j0
       have l5 : w.heap.size + 1 + 1 < w2.heap.size := cell_lt' z0
       have l6 : w1.heap.size < w2.heap.size := cell_lt' u0
       have B2 := on (on B1 (al _ _)) hb2; clear hb2 B1))
  have bD : Below (w2.alloc (.cells #[.int .i64 N1, .int .i64 N2] 23)).heap.size (w2.alloc (.cells #[.int .i64 N1, .int .i64 N2] 23)) (w2.alloc (.cells #[.int .i64 N1, .int .i64 N2] 23)).drew := (Below.refl _ _).drew
  have k0 := keep bD (b := w.heap.size) (o := 0) (x := .int .i64 a1) (by first | assumption | go_simp)
  have k1 := keep bD (b := w.heap.size) (o := 1) (x := .int .i64 a2) (by first | assumption | go_simp)
  have j0 := keep bD (b := w.heap.size + 1) (o := 0) (x := .int .i64 a1) (by first | assumption | go_simp)
  have j1 := keep bD (b := w.heap.size + 1) (o := 1) (x := .int .i64 a2) (by first | assumption | go_simp)
  have z0 := keep bD (b := w.heap.size + 1 + 1) (o := 0) (x := .int .i64 p1) (by first | assumption | go_simp)
  have z1 := keep bD (b := w.heap.size + 1 + 1) (o := 1) (x := .int .i64 p2) (by first | assumption | go_simp)
  have z2 := keep bD (b := w.heap.size + 1 + 1) (o := 2) (x := .int .i64 q1) (by first | assumption | go_simp)
  have z3 := keep bD (b := w.heap.size + 1 + 1) (o := 3) (x := .int .i64 q2) (by first | assumption | go_simp)
  have z4 := keep bD (b := w.heap.size + 1 + 1) (o := 4) (x := .slice x n c) (by first | assumption | go_simp)
  have u0 := keep bD (b := w1.heap.size) (o := 0) (x := .int .i64 N1) (by first | assumption | go_simp)
  have u1 := keep bD (b := w1.heap.size) (o := 1) (x := .int .i64 N2) (by first | assumption | go_simp)
  have v0 := keep bD (b := w2.heap.size) (o := 0) (x := .int .i64 N1) (by first | assumption | go_simp)
  have v1 := keep bD (b := w2.heap.size) (o := 1) (x := .int .i64 N2) (by first | assumption | go_simp)
  have B3 := on (on B2 (al _ _)) bD
  have HK : Hid ((w2.alloc (.cells #[.int .i64 N1, .int .i64 N2] 23)).drew.cell? ⟨w.heap.size, 0, none⟩ = some (.int .i64 a1) ∧ (w2.alloc (.cells #[.int .i64 N1, .int .i64 N2] 23)).drew.cell? ⟨w.heap.size, 1, none⟩ = some (.int .i64 a2) ∧ (w2.alloc (.cells #[.int .i64 N1, .int .i64 N2] 23)).drew.cell? ⟨w.heap.size + 1, 0, none⟩ = some (.int .i64 a1) ∧ (w2.alloc (.cells #[.int .i64 N1, .int .i64 N2] 23)).drew.cell? ⟨w.heap.size + 1, 1, none⟩ = some (.int .i64 a2) ∧ (w2.alloc (.cells #[.int .i64 N1, .int .i64 N2] 23)).drew.cell? ⟨w.heap.size + 1 + 1, 0, none⟩ = some (.int .i64 p1) ∧ (w2.alloc (.cells #[.int .i64 N1, .int .i64 N2] 23)).drew.cell? ⟨w.heap.size + 1 + 1, 1, none⟩ = some (.int .i64 p2) ∧ (w2.alloc (.cells #[.int .i64 N1, .int .i64 N2] 23)).drew.cell? ⟨w.heap.size + 1 + 1, 2, none⟩ = some (.int .i64 q1) ∧ (w2.alloc (.cells #[.int .i64 N1, .int .i64 N2] 23)).drew.cell? ⟨w.heap.size + 1 + 1, 3, none⟩ = some (.int .i64 q2) ∧ (w2.alloc (.cells #[.int .i64 N1, .int .i64 N2] 23)).drew.cell? ⟨w.heap.size + 1 + 1, 4, none⟩ = some (.slice x n c) ∧ (w2.alloc (.cells #[.int .i64 N1, .int .i64 N2] 23)).drew.cell? ⟨w1.heap.size, 0, none⟩ = some (.int .i64 N1) ∧ (w2.alloc (.cells #[.int .i64 N1, .int .i64 N2] 23)).drew.cell? ⟨w1.heap.size, 1, none⟩ = some (.int .i64 N2) ∧ (w2.alloc (.cells #[.int .i64 N1, .int .i64 N2] 23)).drew.cell? ⟨w2.heap.size, 0, none⟩ = some (.int .i64 N1) ∧ (w2.alloc (.cells #[.int .i64 N1, .int .i64 N2] 23)).drew.cell? ⟨w2.heap.size, 1, none⟩ = some (.int .i64 N2)) := ⟨k0, k1, j0, j1, z0, z1, z2, z3, z4, u0, u1, v0, v1⟩
  clear bD B2 k0 k1 j0 j1 z0 z1 z2 z3 z4 u0 u1 v0 v1 l0 l1 l2 l3 l4 l5
  refine wp_region_held_drew (S := fun v => v.cell? ⟨w.heap.size, 0, none⟩ = some (.int .i64 a1) ∧ v.cell? ⟨w.heap.size, 1, none⟩ = some (.int .i64 a2) ∧ v.cell? ⟨w.heap.size + 1, 0, none⟩ = some (.int .i64 a1) ∧ v.cell? ⟨w.heap.size + 1, 1, none⟩ = some (.int .i64 a2)) (by kernel_rfl) ⟨HK.out.1, HK.out.2.1, HK.out.2.2.1, HK.out.2.2.2.1⟩ (fun hHeld => ?_)
  generalize (w2.alloc (.cells #[.int .i64 N1, .int .i64 N2] 23)).drew = wD at *
  refine wpAnyH_take (i := 0) (v := ?_) rfl (by kernel_rfl) (by kernel_rfl) (by kernel_rfl) (fun _ _ _ h => h) (Or.inl ⟨by rfl, ?_⟩) (by assumption) ?_
  case refine_2 => (intro w hSw; (try dsimp only at hSw); go_simp; (try with_reducible rfl))
  (try simp only [Act.put, List.getElem_toArray, List.getElem_cons_succ, List.getElem_cons_zero, List.setIfInBounds_toArray, List.set_cons_zero, List.set_cons_succ])
  refine wpAnyH_take (i := 1) (v := ?_) rfl (by kernel_rfl) (by kernel_rfl) (by kernel_rfl) (fun _ _ _ h => h) (Or.inl ⟨by rfl, ?_⟩) (by assumption) ?_
  case refine_2 => (intro w hSw; (try dsimp only at hSw); go_simp; (try with_reducible rfl))
  (try simp only [Act.put, List.getElem_toArray, List.getElem_cons_succ, List.getElem_cons_zero, List.setIfInBounds_toArray, List.set_cons_zero, List.set_cons_succ])
  refine wpAnyH_take (i := 3) (v := ?_) rfl (by kernel_rfl) (by kernel_rfl) (by kernel_rfl) (fun _ _ _ h => h) (Or.inl ⟨by rfl, ?_⟩) (by assumption) ?_
  case refine_2 => (intro w hSw; (try dsimp only at hSw); go_simp; (try with_reducible rfl))
  (try simp only [Act.put, List.getElem_toArray, List.getElem_cons_succ, List.getElem_cons_zero, List.setIfInBounds_toArray, List.set_cons_zero, List.set_cons_succ])
  refine wpAnyH_take (i := 4) (v := ?_) rfl (by kernel_rfl) (by kernel_rfl) (by kernel_rfl) (fun _ _ _ h => h) (Or.inl ⟨by rfl, ?_⟩) (by assumption) ?_
  case refine_2 => (intro w hSw; (try dsimp only at hSw); go_simp; (try with_reducible rfl))
  (try simp only [Act.put, List.getElem_toArray, List.getElem_cons_succ, List.getElem_cons_zero, List.setIfInBounds_toArray, List.set_cons_zero, List.set_cons_succ])
  refine wpAnyH_ready (rs := [2]) (by kernel_rfl) (by simp) ?_
  refine AllReadyH.cons rfl (fun K hK => ?_) AllReadyH.nil
  go_simp
  refine (hL _).mono ?_
  rintro e y1 ⟨rfl, ha1⟩
  have C1 := on B3 ha1
  have HK1 : Hid (y1.cell? ⟨w.heap.size, 0, none⟩ = some (.int .i64 a1) ∧ y1.cell? ⟨w.heap.size, 1, none⟩ = some (.int .i64 a2) ∧ y1.cell? ⟨w.heap.size + 1, 0, none⟩ = some (.int .i64 a1) ∧ y1.cell? ⟨w.heap.size + 1, 1, none⟩ = some (.int .i64 a2) ∧ y1.cell? ⟨w.heap.size + 1 + 1, 0, none⟩ = some (.int .i64 p1) ∧ y1.cell? ⟨w.heap.size + 1 + 1, 1, none⟩ = some (.int .i64 p2) ∧ y1.cell? ⟨w.heap.size + 1 + 1, 2, none⟩ = some (.int .i64 q1) ∧ y1.cell? ⟨w.heap.size + 1 + 1, 3, none⟩ = some (.int .i64 q2) ∧ y1.cell? ⟨w.heap.size + 1 + 1, 4, none⟩ = some (.slice x n c) ∧ y1.cell? ⟨w1.heap.size, 0, none⟩ = some (.int .i64 N1) ∧ y1.cell? ⟨w1.heap.size, 1, none⟩ = some (.int .i64 N2) ∧ y1.cell? ⟨w2.heap.size, 0, none⟩ = some (.int .i64 N1) ∧ y1.cell? ⟨w2.heap.size, 1, none⟩ = some (.int .i64 N2)) := ⟨keep ha1 HK.out.1, keep ha1 HK.out.2.1, keep ha1 HK.out.2.2.1, keep ha1 HK.out.2.2.2.1, keep ha1 HK.out.2.2.2.2.1, keep ha1 HK.out.2.2.2.2.2.1, keep ha1 HK.out.2.2.2.2.2.2.1, keep ha1 HK.out.2.2.2.2.2.2.2.1, keep ha1 HK.out.2.2.2.2.2.2.2.2.1, keep ha1 HK.out.2.2.2.2.2.2.2.2.2.1, keep ha1 HK.out.2.2.2.2.2.2.2.2.2.2.1, keep ha1 HK.out.2.2.2.2.2.2.2.2.2.2.2.1, keep ha1 HK.out.2.2.2.2.2.2.2.2.2.2.2.2⟩
  clear ha1
  refine hK.out _ _ ⟨HK1.out.1, HK1.out.2.1, HK1.out.2.2.1, HK1.out.2.2.2.1⟩ (fun hHeld => ?_)
  clear hK K
  refine wpAnyH_ready (rs := [5]) (by kernel_rfl) (by simp) ?_
  refine AllReadyH.cons rfl (fun K hK => ?_) AllReadyH.nil
  go_simp
  refine (hL' _).mono ?_
  rintro e y2 ⟨rfl, hb2⟩
  have C2 := on C1 hb2
  have HK2 : Hid (y2.cell? ⟨w.heap.size, 0, none⟩ = some (.int .i64 a1) ∧ y2.cell? ⟨w.heap.size, 1, none⟩ = some (.int .i64 a2) ∧ y2.cell? ⟨w.heap.size + 1, 0, none⟩ = some (.int .i64 a1) ∧ y2.cell? ⟨w.heap.size + 1, 1, none⟩ = some (.int .i64 a2) ∧ y2.cell? ⟨w.heap.size + 1 + 1, 0, none⟩ = some (.int .i64 p1) ∧ y2.cell? ⟨w.heap.size + 1 + 1, 1, none⟩ = some (.int .i64 p2) ∧ y2.cell? ⟨w.heap.size + 1 + 1, 2, none⟩ = some (.int .i64 q1) ∧ y2.cell? ⟨w.heap.size + 1 + 1, 3, none⟩ = some (.int .i64 q2) ∧ y2.cell? ⟨w.heap.size + 1 + 1, 4, none⟩ = some (.slice x n c) ∧ y2.cell? ⟨w1.heap.size, 0, none⟩ = some (.int .i64 N1) ∧ y2.cell? ⟨w1.heap.size, 1, none⟩ = some (.int .i64 N2) ∧ y2.cell? ⟨w2.heap.size, 0, none⟩ = some (.int .i64 N1) ∧ y2.cell? ⟨w2.heap.size, 1, none⟩ = some (.int .i64 N2)) := ⟨keep hb2 HK1.out.1, keep hb2 HK1.out.2.1, keep hb2 HK1.out.2.2.1, keep hb2 HK1.out.2.2.2.1, keep hb2 HK1.out.2.2.2.2.1, keep hb2 HK1.out.2.2.2.2.2.1, keep hb2 HK1.out.2.2.2.2.2.2.1, keep hb2 HK1.out.2.2.2.2.2.2.2.1, keep hb2 HK1.out.2.2.2.2.2.2.2.2.1, keep hb2 HK1.out.2.2.2.2.2.2.2.2.2.1, keep hb2 HK1.out.2.2.2.2.2.2.2.2.2.2.1, keep hb2 HK1.out.2.2.2.2.2.2.2.2.2.2.2.1, keep hb2 HK1.out.2.2.2.2.2.2.2.2.2.2.2.2⟩
  clear hb2
  refine hK.out _ _ ⟨HK2.out.1, HK2.out.2.1, HK2.out.2.2.1, HK2.out.2.2.2.1⟩ (fun hHeld => ?_)
  clear hK K
  refine wpAnyH_take (i := 6) (v := ?_) rfl (by kernel_rfl) (by kernel_rfl) (by kernel_rfl) (fun _ _ _ h => h) (Or.inl ⟨by rfl, ?_⟩) (by assumption) ?_
  case refine_2 => (intro w hSw; (try dsimp only at hSw); go_simp; (try with_reducible rfl))
  (try simp only [Act.put, List.getElem_toArray, List.getElem_cons_succ, List.getElem_cons_zero, List.setIfInBounds_toArray, List.set_cons_zero, List.set_cons_succ])
  refine wpAnyH_take (i := 7) (v := ?_) rfl (by kernel_rfl) (by kernel_rfl) (by kernel_rfl) (fun _ _ _ h => h) (Or.inl ⟨by rfl, ?_⟩) (by assumption) ?_
  case refine_2 => (intro w hSw; (try dsimp only at hSw); go_simp; (try with_reducible rfl))
  (try simp only [Act.put, List.getElem_toArray, List.getElem_cons_succ, List.getElem_cons_zero, List.setIfInBounds_toArray, List.set_cons_zero, List.set_cons_succ])
  refine wpAnyH_take (i := 8) (v := ?_) rfl (by kernel_rfl) (by kernel_rfl) (by kernel_rfl) (fun _ _ _ h => h) (Or.inl ⟨by rfl, ?_⟩) (by assumption) ?_
  case refine_2 => (intro w hSw; (try dsimp only at hSw); go_simp; (try with_reducible rfl))
  (try simp only [Act.put, List.getElem_toArray, List.getElem_cons_succ, List.getElem_cons_zero, List.setIfInBounds_toArray, List.set_cons_zero, List.set_cons_succ])
  refine wpAnyH_take (i := 9) (v := ?_) rfl (by kernel_rfl) (by kernel_rfl) (by kernel_rfl) (fun _ _ _ h => h) (Or.inl ⟨by rfl, ?_⟩) (by assumption) ?_
  case refine_2 => (intro w hSw; (try dsimp only at hSw); go_simp; (try with_reducible rfl))
  (try simp only [Act.put, List.getElem_toArray, List.getElem_cons_succ, List.getElem_cons_zero, List.setIfInBounds_toArray, List.set_cons_zero, List.set_cons_succ])
  refine wpAnyH_ready (rs := [10]) (by kernel_rfl) (by simp) ?_
  refine AllReadyH.cons rfl (fun K hK => ?_) AllReadyH.nil
  go_simp
  refine (hI _).mono ?_
  rintro e y3 ⟨rfl, hb3⟩
  have C3 := on C2 hb3
  have HK3 : Hid (y3.cell? ⟨w.heap.size, 0, none⟩ = some (.int .i64 a1) ∧ y3.cell? ⟨w.heap.size, 1, none⟩ = some (.int .i64 a2) ∧ y3.cell? ⟨w.heap.size + 1, 0, none⟩ = some (.int .i64 a1) ∧ y3.cell? ⟨w.heap.size + 1, 1, none⟩ = some (.int .i64 a2) ∧ y3.cell? ⟨w.heap.size + 1 + 1, 0, none⟩ = some (.int .i64 p1) ∧ y3.cell? ⟨w.heap.size + 1 + 1, 1, none⟩ = some (.int .i64 p2) ∧ y3.cell? ⟨w.heap.size + 1 + 1, 2, none⟩ = some (.int .i64 q1) ∧ y3.cell? ⟨w.heap.size + 1 + 1, 3, none⟩ = some (.int .i64 q2) ∧ y3.cell? ⟨w.heap.size + 1 + 1, 4, none⟩ = some (.slice x n c) ∧ y3.cell? ⟨w1.heap.size, 0, none⟩ = some (.int .i64 N1) ∧ y3.cell? ⟨w1.heap.size, 1, none⟩ = some (.int .i64 N2) ∧ y3.cell? ⟨w2.heap.size, 0, none⟩ = some (.int .i64 N1) ∧ y3.cell? ⟨w2.heap.size, 1, none⟩ = some (.int .i64 N2)) := ⟨keep hb3 HK2.out.1, keep hb3 HK2.out.2.1, keep hb3 HK2.out.2.2.1, keep hb3 HK2.out.2.2.2.1, keep hb3 HK2.out.2.2.2.2.1, keep hb3 HK2.out.2.2.2.2.2.1, keep hb3 HK2.out.2.2.2.2.2.2.1, keep hb3 HK2.out.2.2.2.2.2.2.2.1, keep hb3 HK2.out.2.2.2.2.2.2.2.2.1, keep hb3 HK2.out.2.2.2.2.2.2.2.2.2.1, keep hb3 HK2.out.2.2.2.2.2.2.2.2.2.2.1, keep hb3 HK2.out.2.2.2.2.2.2.2.2.2.2.2.1, keep hb3 HK2.out.2.2.2.2.2.2.2.2.2.2.2.2⟩
  clear hb3
  refine hK.out _ _ ⟨HK3.out.1, HK3.out.2.1, HK3.out.2.2.1, HK3.out.2.2.2.1⟩ (fun hHeld => ?_)
  clear hK K
  refine wpAnyH_take (i := 11) (v := ?_) rfl (by kernel_rfl) (by kernel_rfl) (by kernel_rfl) (fun _ _ _ h => h) (Or.inl ⟨by rfl, ?_⟩) (by assumption) ?_
  case refine_2 => (intro w hSw; (try dsimp only at hSw); go_simp; (try with_reducible rfl))
  (try simp only [Act.put, List.getElem_toArray, List.getElem_cons_succ, List.getElem_cons_zero, List.setIfInBounds_toArray, List.set_cons_zero, List.set_cons_succ])
  refine wpAnyH_take (i := 12) (v := ?_) rfl (by kernel_rfl) (by kernel_rfl) (by kernel_rfl) (fun _ _ _ h => h) (Or.inl ⟨by rfl, ?_⟩) (by assumption) ?_
  case refine_2 => (intro w hSw; (try dsimp only at hSw); go_simp; (try with_reducible rfl))
  (try simp only [Act.put, List.getElem_toArray, List.getElem_cons_succ, List.getElem_cons_zero, List.setIfInBounds_toArray, List.set_cons_zero, List.set_cons_succ])
  refine wpAnyH_take (i := 13) (v := ?_) rfl (by kernel_rfl) (by kernel_rfl) (by kernel_rfl) (fun _ _ _ h => h) (Or.inl ⟨by rfl, ?_⟩) (by assumption) ?_
  case refine_2 => (intro w hSw; (try dsimp only at hSw); go_simp; (try with_reducible rfl))
  (try simp only [Act.put, List.getElem_toArray, List.getElem_cons_succ, List.getElem_cons_zero, List.setIfInBounds_toArray, List.set_cons_zero, List.set_cons_succ])
  refine wpAnyH_take (i := 14) (v := ?_) rfl (by kernel_rfl) (by kernel_rfl) (by kernel_rfl) (fun _ _ _ h => h) (Or.inl ⟨by rfl, ?_⟩) (by assumption) ?_
  case refine_2 => (intro w hSw; (try dsimp only at hSw); go_simp; (try with_reducible rfl))
  (try simp only [Act.put, List.getElem_toArray, List.getElem_cons_succ, List.getElem_cons_zero, List.setIfInBounds_toArray, List.set_cons_zero, List.set_cons_succ])
  refine wpAnyH_take (i := 15) (v := ?_) rfl (by kernel_rfl) (by kernel_rfl) (by kernel_rfl) (fun _ _ _ h => h) (Or.inl ⟨by rfl, ?_⟩) (by assumption) ?_
  case refine_2 => (intro w hSw; (try dsimp only at hSw); go_simp; (try with_reducible rfl))
  (try simp only [Act.put, List.getElem_toArray, List.getElem_cons_succ, List.getElem_cons_zero, List.setIfInBounds_toArray, List.set_cons_zero, List.set_cons_succ])
  refine wpAnyH_take (i := 16) (v := ?_) rfl (by kernel_rfl) (by kernel_rfl) (by kernel_rfl) (fun _ _ _ h => h) (Or.inl ⟨by rfl, ?_⟩) (by assumption) ?_
  case refine_2 => (intro w hSw; (try dsimp only at hSw); go_simp; (try with_reducible rfl))
  (try simp only [Act.put, List.getElem_toArray, List.getElem_cons_succ, List.getElem_cons_zero, List.setIfInBounds_toArray, List.set_cons_zero, List.set_cons_succ])
  refine wpAnyH_take (i := 17) (v := undef) rfl (by kernel_rfl) (by kernel_rfl) (by kernel_rfl) (fun _ _ _ h => h) (Or.inr ⟨by rfl, rfl⟩) (by assumption) ?_
  (try simp only [Act.put, List.getElem_toArray, List.getElem_cons_succ, List.getElem_cons_zero, List.setIfInBounds_toArray, List.set_cons_zero, List.set_cons_succ])
  refine wpAnyH_take (i := 18) (v := undef) rfl (by kernel_rfl) (by kernel_rfl) (by kernel_rfl) (fun _ _ _ h => h) (Or.inr ⟨by rfl, rfl⟩) (by assumption) ?_
  (try simp only [Act.put, List.getElem_toArray, List.getElem_cons_succ, List.getElem_cons_zero, List.setIfInBounds_toArray, List.set_cons_zero, List.set_cons_succ])
  refine wpAnyH_take (i := 19) (v := undef) rfl (by kernel_rfl) (by kernel_rfl) (by kernel_rfl) (fun _ _ _ h => h) (Or.inr ⟨by rfl, rfl⟩) (by assumption) ?_
  (try simp only [Act.put, List.getElem_toArray, List.getElem_cons_succ, List.getElem_cons_zero, List.setIfInBounds_toArray, List.set_cons_zero, List.set_cons_succ])
  refine wpAnyH_take (i := 20) (v := undef) rfl (by kernel_rfl) (by kernel_rfl) (by kernel_rfl) (fun _ _ _ h => h) (Or.inr ⟨by rfl, rfl⟩) (by assumption) ?_
  (try simp only [Act.put, List.getElem_toArray, List.getElem_cons_succ, List.getElem_cons_zero, List.setIfInBounds_toArray, List.set_cons_zero, List.set_cons_succ])
  refine wpAnyH_take (i := 21) (v := undef) rfl (by kernel_rfl) (by kernel_rfl) (by kernel_rfl) (fun _ _ _ h => h) (Or.inr ⟨by rfl, rfl⟩) (by assumption) ?_
  (try simp only [Act.put, List.getElem_toArray, List.getElem_cons_succ, List.getElem_cons_zero, List.setIfInBounds_toArray, List.set_cons_zero, List.set_cons_succ])
  refine wpAnyH_take (i := 22) (v := undef) rfl (by kernel_rfl) (by kernel_rfl) (by kernel_rfl) (fun _ _ _ h => h) (Or.inr ⟨by rfl, rfl⟩) (by assumption) ?_
  (try simp only [Act.put, List.getElem_toArray, List.getElem_cons_succ, List.getElem_cons_zero, List.setIfInBounds_toArray, List.set_cons_zero, List.set_cons_succ])
  refine wpAnyH_take (i := 23) (v := undef) rfl (by kernel_rfl) (by kernel_rfl) (by kernel_rfl) (fun _ _ _ h => h) (Or.inr ⟨by rfl, rfl⟩) (by assumption) ?_
  (try simp only [Act.put, List.getElem_toArray, List.getElem_cons_succ, List.getElem_cons_zero, List.setIfInBounds_toArray, List.set_cons_zero, List.set_cons_succ])
  refine wpAnyH_take (i := 24) (v := ?_) rfl (by kernel_rfl) (by kernel_rfl) (by kernel_rfl) (fun _ _ _ h => h) (Or.inl ⟨by rfl, ?_⟩) (by assumption) ?_
  case refine_2 => (intro w hSw; (try dsimp only at hSw); go_simp; (try with_reducible rfl))
  (try simp only [Act.put, List.getElem_toArray, List.getElem_cons_succ, List.getElem_cons_zero, List.setIfInBounds_toArray, List.set_cons_zero, List.set_cons_succ])
  refine wpAnyH_take (i := 25) (v := ?_) rfl (by kernel_rfl) (by kernel_rfl) (by kernel_rfl) (fun _ _ _ h => h) (Or.inl ⟨by rfl, ?_⟩) (by assumption) ?_
  case refine_2 => (intro w hSw; (try dsimp only at hSw); go_simp; (try with_reducible rfl))
  (try simp only [Act.put, List.getElem_toArray, List.getElem_cons_succ, List.getElem_cons_zero, List.setIfInBounds_toArray, List.set_cons_zero, List.set_cons_succ])
  refine wpAnyH_done (by kernel_rfl) ?_ _
  go_wp2_with fail
  have bE : Below y3.heap.size y3 y3.drew := (Below.refl _ _).drew
  have C0 := on C3 bE
  have HK0 : Hid (y3.drew.cell? ⟨w.heap.size, 0, none⟩ = some (.int .i64 a1) ∧ y3.drew.cell? ⟨w.heap.size, 1, none⟩ = some (.int .i64 a2) ∧ y3.drew.cell? ⟨w.heap.size + 1, 0, none⟩ = some (.int .i64 a1) ∧ y3.drew.cell? ⟨w.heap.size + 1, 1, none⟩ = some (.int .i64 a2) ∧ y3.drew.cell? ⟨w.heap.size + 1 + 1, 0, none⟩ = some (.int .i64 p1) ∧ y3.drew.cell? ⟨w.heap.size + 1 + 1, 1, none⟩ = some (.int .i64 p2) ∧ y3.drew.cell? ⟨w.heap.size + 1 + 1, 2, none⟩ = some (.int .i64 q1) ∧ y3.drew.cell? ⟨w.heap.size + 1 + 1, 3, none⟩ = some (.int .i64 q2) ∧ y3.drew.cell? ⟨w.heap.size + 1 + 1, 4, none⟩ = some (.slice x n c) ∧ y3.drew.cell? ⟨w1.heap.size, 0, none⟩ = some (.int .i64 N1) ∧ y3.drew.cell? ⟨w1.heap.size, 1, none⟩ = some (.int .i64 N2) ∧ y3.drew.cell? ⟨w2.heap.size, 0, none⟩ = some (.int .i64 N1) ∧ y3.drew.cell? ⟨w2.heap.size, 1, none⟩ = some (.int .i64 N2)) := ⟨keep bE HK3.out.1, keep bE HK3.out.2.1, keep bE HK3.out.2.2.1, keep bE HK3.out.2.2.2.1, keep bE HK3.out.2.2.2.2.1, keep bE HK3.out.2.2.2.2.2.1, keep bE HK3.out.2.2.2.2.2.2.1, keep bE HK3.out.2.2.2.2.2.2.2.1, keep bE HK3.out.2.2.2.2.2.2.2.2.1, keep bE HK3.out.2.2.2.2.2.2.2.2.2.1, keep bE HK3.out.2.2.2.2.2.2.2.2.2.2.1, keep bE HK3.out.2.2.2.2.2.2.2.2.2.2.2.1, keep bE HK3.out.2.2.2.2.2.2.2.2.2.2.2.2⟩
  clear bE
  refine wp_region_held_drew (S := fun v => v.cell? ⟨w.heap.size, 0, none⟩ = some (.int .i64 a1) ∧ v.cell? ⟨w.heap.size, 1, none⟩ = some (.int .i64 a2) ∧ v.cell? ⟨w.heap.size + 1, 0, none⟩ = some (.int .i64 a1) ∧ v.cell? ⟨w.heap.size + 1, 1, none⟩ = some (.int .i64 a2) ∧ v.cell? ⟨w.heap.size + 1 + 1, 0, none⟩ = some (.int .i64 p1) ∧ v.cell? ⟨w.heap.size + 1 + 1, 1, none⟩ = some (.int .i64 p2) ∧ v.cell? ⟨w.heap.size + 1 + 1, 2, none⟩ = some (.int .i64 q1) ∧ v.cell? ⟨w.heap.size + 1 + 1, 3, none⟩ = some (.int .i64 q2) ∧ v.cell? ⟨w.heap.size + 1 + 1, 4, none⟩ = some (.slice x n c) ∧ v.cell? ⟨w1.heap.size, 0, none⟩ = some (.int .i64 N1) ∧ v.cell? ⟨w1.heap.size, 1, none⟩ = some (.int .i64 N2) ∧ v.cell? ⟨w2.heap.size, 0, none⟩ = some (.int .i64 N1) ∧ v.cell? ⟨w2.heap.size, 1, none⟩ = some (.int .i64 N2)) (by kernel_rfl) HK0.out (fun hHeld => ?_)
  generalize y3.drew = wE at *
  refine wpAnyH_take (i := 0) (v := ?_) rfl (by kernel_rfl) (by kernel_rfl) (by kernel_rfl) (fun _ _ _ h => h) (Or.inl ⟨by rfl, ?_⟩) (by assumption) ?_
  case refine_2 => (intro w hSw; (try dsimp only at hSw); go_simp; (try with_reducible rfl))
  (try simp only [Act.put, List.getElem_toArray, List.getElem_cons_succ, List.getElem_cons_zero, List.setIfInBounds_toArray, List.set_cons_zero, List.set_cons_succ])
  refine wpAnyH_take (i := 1) (v := ?_) rfl (by kernel_rfl) (by kernel_rfl) (by kernel_rfl) (fun _ _ _ h => h) (Or.inl ⟨by rfl, ?_⟩) (by assumption) ?_
  case refine_2 => (intro w hSw; (try dsimp only at hSw); go_simp; (try with_reducible rfl))
  (try simp only [Act.put, List.getElem_toArray, List.getElem_cons_succ, List.getElem_cons_zero, List.setIfInBounds_toArray, List.set_cons_zero, List.set_cons_succ])
  refine wpAnyH_take (i := 2) (v := ?_) rfl (by kernel_rfl) (by kernel_rfl) (by kernel_rfl) (fun _ _ _ h => h) (Or.inl ⟨by rfl, ?_⟩) (by assumption) ?_
  case refine_2 => (intro w hSw; (try dsimp only at hSw); go_simp; (try with_reducible rfl))
  (try simp only [Act.put, List.getElem_toArray, List.getElem_cons_succ, List.getElem_cons_zero, List.setIfInBounds_toArray, List.set_cons_zero, List.set_cons_succ])
  refine wpAnyH_take (i := 3) (v := ?_) rfl (by kernel_rfl) (by kernel_rfl) (by kernel_rfl) (fun _ _ _ h => h) (Or.inl ⟨by rfl, ?_⟩) (by assumption) ?_
  case refine_2 => (intro w hSw; (try dsimp only at hSw); go_simp; (try with_reducible rfl))
  (try simp only [Act.put, List.getElem_toArray, List.getElem_cons_succ, List.getElem_cons_zero, List.setIfInBounds_toArray, List.set_cons_zero, List.set_cons_succ])
  refine wpAnyH_take (i := 4) (v := ?_) rfl (by kernel_rfl) (by kernel_rfl) (by kernel_rfl) (fun _ _ _ h => h) (Or.inl ⟨by rfl, ?_⟩) (by assumption) ?_
  case refine_2 => (intro w hSw; (try dsimp only at hSw); go_simp; (try with_reducible rfl))
  (try simp only [Act.put, List.getElem_toArray, List.getElem_cons_succ, List.getElem_cons_zero, List.setIfInBounds_toArray, List.set_cons_zero, List.set_cons_succ])
  refine wpAnyH_take (i := 5) (v := ?_) rfl (by kernel_rfl) (by kernel_rfl) (by kernel_rfl) (fun _ _ _ h => h) (Or.inl ⟨by rfl, ?_⟩) (by assumption) ?_
  case refine_2 => (intro w hSw; (try dsimp only at hSw); go_simp; (try with_reducible rfl))
  (try simp only [Act.put, List.getElem_toArray, List.getElem_cons_succ, List.getElem_cons_zero, List.setIfInBounds_toArray, List.set_cons_zero, List.set_cons_succ])
  refine wpAnyH_take (i := 6) (v := ?_) rfl (by kernel_rfl) (by kernel_rfl) (by kernel_rfl) (fun _ _ _ h => h) (Or.inl ⟨by rfl, ?_⟩) (by assumption) ?_
  case refine_2 => (intro w hSw; (try dsimp only at hSw); go_simp; (try with_reducible rfl))
  (try simp only [Act.put, List.getElem_toArray, List.getElem_cons_succ, List.getElem_cons_zero, List.setIfInBounds_toArray, List.set_cons_zero, List.set_cons_succ])
  refine wpAnyH_take (i := 7) (v := ?_) rfl (by kernel_rfl) (by kernel_rfl) (by kernel_rfl) (fun _ _ _ h => h) (Or.inl ⟨by rfl, ?_⟩) (by assumption) ?_
  case refine_2 => (intro w hSw; (try dsimp only at hSw); go_simp; (try with_reducible rfl))
  (try simp only [Act.put, List.getElem_toArray, List.getElem_cons_succ, List.getElem_cons_zero, List.setIfInBounds_toArray, List.set_cons_zero, List.set_cons_succ])
  refine wpAnyH_take (i := 8) (v := ?_) rfl (by kernel_rfl) (by kernel_rfl) (by kernel_rfl) (fun _ _ _ h => h) (Or.inl ⟨by rfl, ?_⟩) (by assumption) ?_
  case refine_2 => (intro w hSw; (try dsimp only at hSw); go_simp; (try with_reducible rfl))
  (try simp only [Act.put, List.getElem_toArray, List.getElem_cons_succ, List.getElem_cons_zero, List.setIfInBounds_toArray, List.set_cons_zero, List.set_cons_succ])
  refine wpAnyH_take (i := 9) (v := ?_) rfl (by kernel_rfl) (by kernel_rfl) (by kernel_rfl) (fun _ _ _ h => h) (Or.inl ⟨by rfl, ?_⟩) (by assumption) ?_
  case refine_2 => (intro w hSw; (try dsimp only at hSw); go_simp; (try with_reducible rfl))
  (try simp only [Act.put, List.getElem_toArray, List.getElem_cons_succ, List.getElem_cons_zero, List.setIfInBounds_toArray, List.set_cons_zero, List.set_cons_succ])
  refine wpAnyH_take (i := 10) (v := ?_) rfl (by kernel_rfl) (by kernel_rfl) (by kernel_rfl) (fun _ _ _ h => h) (Or.inl ⟨by rfl, ?_⟩) (by assumption) ?_
  case refine_2 => (intro w hSw; (try dsimp only at hSw); go_simp; (try with_reducible rfl))
  (try simp only [Act.put, List.getElem_toArray, List.getElem_cons_succ, List.getElem_cons_zero, List.setIfInBounds_toArray, List.set_cons_zero, List.set_cons_succ])
  refine wpAnyH_take (i := 11) (v := ?_) rfl (by kernel_rfl) (by kernel_rfl) (by kernel_rfl) (fun _ _ _ h => h) (Or.inl ⟨by rfl, ?_⟩) (by assumption) ?_
  case refine_2 => (intro w hSw; (try dsimp only at hSw); go_simp; (try with_reducible rfl))
  (try simp only [Act.put, List.getElem_toArray, List.getElem_cons_succ, List.getElem_cons_zero, List.setIfInBounds_toArray, List.set_cons_zero, List.set_cons_succ])
  refine wpAnyH_take (i := 12) (v := undef) rfl (by kernel_rfl) (by kernel_rfl) (by kernel_rfl) (fun _ _ _ h => h) (Or.inr ⟨by rfl, rfl⟩) (by assumption) ?_
  (try simp only [Act.put, List.getElem_toArray, List.getElem_cons_succ, List.getElem_cons_zero, List.setIfInBounds_toArray, List.set_cons_zero, List.set_cons_succ])
  refine wpAnyH_take (i := 13) (v := undef) rfl (by kernel_rfl) (by kernel_rfl) (by kernel_rfl) (fun _ _ _ h => h) (Or.inr ⟨by rfl, rfl⟩) (by assumption) ?_
  (try simp only [Act.put, List.getElem_toArray, List.getElem_cons_succ, List.getElem_cons_zero, List.setIfInBounds_toArray, List.set_cons_zero, List.set_cons_succ])
  refine wpAnyH_take (i := 14) (v := undef) rfl (by kernel_rfl) (by kernel_rfl) (by kernel_rfl) (fun _ _ _ h => h) (Or.inr ⟨by rfl, rfl⟩) (by assumption) ?_
  (try simp only [Act.put, List.getElem_toArray, List.getElem_cons_succ, List.getElem_cons_zero, List.setIfInBounds_toArray, List.set_cons_zero, List.set_cons_succ])
  refine wpAnyH_take (i := 15) (v := ?_) rfl (by kernel_rfl) (by kernel_rfl) (by kernel_rfl) (fun _ _ _ h => h) (Or.inl ⟨by rfl, ?_⟩) (by assumption) ?_
  case refine_2 => (intro w hSw; (try dsimp only at hSw); go_simp; (try with_reducible rfl))
  (try simp only [Act.put, List.getElem_toArray, List.getElem_cons_succ, List.getElem_cons_zero, List.setIfInBounds_toArray, List.set_cons_zero, List.set_cons_succ])
  refine wpAnyH_take (i := 16) (v := ?_) rfl (by kernel_rfl) (by kernel_rfl) (by kernel_rfl) (fun _ _ _ h => h) (Or.inl ⟨by rfl, ?_⟩) (by assumption) ?_
  case refine_2 => (intro w hSw; (try dsimp only at hSw); go_simp; (try with_reducible rfl))
  (try simp only [Act.put, List.getElem_toArray, List.getElem_cons_succ, List.getElem_cons_zero, List.setIfInBounds_toArray, List.set_cons_zero, List.set_cons_succ])
  refine wpAnyH_take (i := 17) (v := ?_) rfl (by kernel_rfl) (by kernel_rfl) (by kernel_rfl) (fun _ _ _ h => h) (Or.inl ⟨by rfl, ?_⟩) (by assumption) ?_
  case refine_2 => (intro w hSw; (try dsimp only at hSw); go_simp; (try with_reducible rfl))
  (try simp only [Act.put, List.getElem_toArray, List.getElem_cons_succ, List.getElem_cons_zero, List.setIfInBounds_toArray, List.set_cons_zero, List.set_cons_succ])
  refine wpAnyH_take (i := 18) (v := ?_) rfl (by kernel_rfl) (by kernel_rfl) (by kernel_rfl) (fun _ _ _ h => h) (Or.inl ⟨by rfl, ?_⟩) (by assumption) ?_
  case refine_2 => (intro w hSw; (try dsimp only at hSw); go_simp; (try with_reducible rfl))
  (try simp only [Act.put, List.getElem_toArray, List.getElem_cons_succ, List.getElem_cons_zero, List.setIfInBounds_toArray, List.set_cons_zero, List.set_cons_succ])
  refine wpAnyH_take (i := 20) (v := ?_) rfl (by kernel_rfl) (by kernel_rfl) (by kernel_rfl) (fun _ _ _ h => h) (Or.inl ⟨by rfl, ?_⟩) (by assumption) ?_
  case refine_2 => (intro w hSw; (try dsimp only at hSw); go_simp; (try with_reducible rfl))
  (try simp only [Act.put, List.getElem_toArray, List.getElem_cons_succ, List.getElem_cons_zero, List.setIfInBounds_toArray, List.set_cons_zero, List.set_cons_succ])
  refine wpAnyH_ready (rs := [19]) (by kernel_rfl) (by simp) ?_
  refine AllReadyH.cons rfl (fun K hK => ?_) AllReadyH.nil
  go_simp
  refine (hM _).mono ?_
  rintro e y4 ⟨rfl, hb4⟩
  have C4 := on C0 hb4
  have HK4 : Hid (y4.cell? ⟨w.heap.size, 0, none⟩ = some (.int .i64 a1) ∧ y4.cell? ⟨w.heap.size, 1, none⟩ = some (.int .i64 a2) ∧ y4.cell? ⟨w.heap.size + 1, 0, none⟩ = some (.int .i64 a1) ∧ y4.cell? ⟨w.heap.size + 1, 1, none⟩ = some (.int .i64 a2) ∧ y4.cell? ⟨w.heap.size + 1 + 1, 0, none⟩ = some (.int .i64 p1) ∧ y4.cell? ⟨w.heap.size + 1 + 1, 1, none⟩ = some (.int .i64 p2) ∧ y4.cell? ⟨w.heap.size + 1 + 1, 2, none⟩ = some (.int .i64 q1) ∧ y4.cell? ⟨w.heap.size + 1 + 1, 3, none⟩ = some (.int .i64 q2) ∧ y4.cell? ⟨w.heap.size + 1 + 1, 4, none⟩ = some (.slice x n c) ∧ y4.cell? ⟨w1.heap.size, 0, none⟩ = some (.int .i64 N1) ∧ y4.cell? ⟨w1.heap.size, 1, none⟩ = some (.int .i64 N2) ∧ y4.cell? ⟨w2.heap.size, 0, none⟩ = some (.int .i64 N1) ∧ y4.cell? ⟨w2.heap.size, 1, none⟩ = some (.int .i64 N2)) := ⟨keep hb4 HK0.out.1, keep hb4 HK0.out.2.1, keep hb4 HK0.out.2.2.1, keep hb4 HK0.out.2.2.2.1, keep hb4 HK0.out.2.2.2.2.1, keep hb4 HK0.out.2.2.2.2.2.1, keep hb4 HK0.out.2.2.2.2.2.2.1, keep hb4 HK0.out.2.2.2.2.2.2.2.1, keep hb4 HK0.out.2.2.2.2.2.2.2.2.1, keep hb4 HK0.out.2.2.2.2.2.2.2.2.2.1, keep hb4 HK0.out.2.2.2.2.2.2.2.2.2.2.1, keep hb4 HK0.out.2.2.2.2.2.2.2.2.2.2.2.1, keep hb4 HK0.out.2.2.2.2.2.2.2.2.2.2.2.2⟩
  clear hb4
  refine hK.out _ _ HK4.out (fun hHeld => ?_)
  clear hK K
  refine wpAnyH_ready (rs := [21]) (by kernel_rfl) (by simp) ?_
  refine AllReadyH.cons rfl (fun K hK => ?_) AllReadyH.nil
  go_simp
  refine (hQ _).mono ?_
  rintro e y5 ⟨rfl, hb5⟩
  have C5 := on C4 hb5
  have HK5 : Hid (y5.cell? ⟨w.heap.size, 0, none⟩ = some (.int .i64 a1) ∧ y5.cell? ⟨w.heap.size, 1, none⟩ = some (.int .i64 a2) ∧ y5.cell? ⟨w.heap.size + 1, 0, none⟩ = some (.int .i64 a1) ∧ y5.cell? ⟨w.heap.size + 1, 1, none⟩ = some (.int .i64 a2) ∧ y5.cell? ⟨w.heap.size + 1 + 1, 0, none⟩ = some (.int .i64 p1) ∧ y5.cell? ⟨w.heap.size + 1 + 1, 1, none⟩ = some (.int .i64 p2) ∧ y5.cell? ⟨w.heap.size + 1 + 1, 2, none⟩ = some (.int .i64 q1) ∧ y5.cell? ⟨w.heap.size + 1 + 1, 3, none⟩ = some (.int .i64 q2) ∧ y5.cell? ⟨w.heap.size + 1 + 1, 4, none⟩ = some (.slice x n c) ∧ y5.cell? ⟨w1.heap.size, 0, none⟩ = some (.int .i64 N1) ∧ y5.cell? ⟨w1.heap.size, 1, none⟩ = some (.int .i64 N2) ∧ y5.cell? ⟨w2.heap.size, 0, none⟩ = some (.int .i64 N1) ∧ y5.cell? ⟨w2.heap.size, 1, none⟩ = some (.int .i64 N2)) := ⟨keep hb5 HK4.out.1, keep hb5 HK4.out.2.1, keep hb5 HK4.out.2.2.1, keep hb5 HK4.out.2.2.2.1, keep hb5 HK4.out.2.2.2.2.1, keep hb5 HK4.out.2.2.2.2.2.1, keep hb5 HK4.out.2.2.2.2.2.2.1, keep hb5 HK4.out.2.2.2.2.2.2.2.1, keep hb5 HK4.out.2.2.2.2.2.2.2.2.1, keep hb5 HK4.out.2.2.2.2.2.2.2.2.2.1, keep hb5 HK4.out.2.2.2.2.2.2.2.2.2.2.1, keep hb5 HK4.out.2.2.2.2.2.2.2.2.2.2.2.1, keep hb5 HK4.out.2.2.2.2.2.2.2.2.2.2.2.2⟩
  clear hb5
  refine hK.out _ _ HK5.out (fun hHeld => ?_)
  clear hK K
  refine wpAnyH_take (i := 22) (v := ?_) rfl (by kernel_rfl) (by kernel_rfl) (by kernel_rfl) (fun _ _ _ h => h) (Or.inl ⟨by rfl, ?_⟩) (by assumption) ?_
  case refine_2 => (intro w hSw; (try dsimp only at hSw); go_simp; (try with_reducible rfl))
  (try simp only [Act.put, List.getElem_toArray, List.getElem_cons_succ, List.getElem_cons_zero, List.setIfInBounds_toArray, List.set_cons_zero, List.set_cons_succ])
  refine wpAnyH_take (i := 23) (v := ?_) rfl (by kernel_rfl) (by kernel_rfl) (by kernel_rfl) (fun _ _ _ h => h) (Or.inl ⟨by rfl, ?_⟩) (by assumption) ?_
  case refine_2 => (intro w hSw; (try dsimp only at hSw); go_simp; (try with_reducible rfl))
  (try simp only [Act.put, List.getElem_toArray, List.getElem_cons_succ, List.getElem_cons_zero, List.setIfInBounds_toArray, List.set_cons_zero, List.set_cons_succ])
  refine wpAnyH_take (i := 24) (v := ?_) rfl (by kernel_rfl) (by kernel_rfl) (by kernel_rfl) (fun _ _ _ h => h) (Or.inl ⟨by rfl, ?_⟩) (by assumption) ?_
  case refine_2 => (intro w hSw; (try dsimp only at hSw); go_simp; (try with_reducible rfl))
  (try simp only [Act.put, List.getElem_toArray, List.getElem_cons_succ, List.getElem_cons_zero, List.setIfInBounds_toArray, List.set_cons_zero, List.set_cons_succ])
  refine wpAnyH_ready (rs := [25]) (by kernel_rfl) (by simp) ?_
  refine AllReadyH.cons rfl (fun K hK => ?_) AllReadyH.nil
  go_simp
  refine (hW _).mono ?_
  rintro e y6 ⟨rfl, hb6⟩
  have C6 := on C5 hb6
  have HK6 : Hid (y6.cell? ⟨w.heap.size, 0, none⟩ = some (.int .i64 a1) ∧ y6.cell? ⟨w.heap.size, 1, none⟩ = some (.int .i64 a2) ∧ y6.cell? ⟨w.heap.size + 1, 0, none⟩ = some (.int .i64 a1) ∧ y6.cell? ⟨w.heap.size + 1, 1, none⟩ = some (.int .i64 a2) ∧ y6.cell? ⟨w.heap.size + 1 + 1, 0, none⟩ = some (.int .i64 p1) ∧ y6.cell? ⟨w.heap.size + 1 + 1, 1, none⟩ = some (.int .i64 p2) ∧ y6.cell? ⟨w.heap.size + 1 + 1, 2, none⟩ = some (.int .i64 q1) ∧ y6.cell? ⟨w.heap.size + 1 + 1, 3, none⟩ = some (.int .i64 q2) ∧ y6.cell? ⟨w.heap.size + 1 + 1, 4, none⟩ = some (.slice x n c) ∧ y6.cell? ⟨w1.heap.size, 0, none⟩ = some (.int .i64 N1) ∧ y6.cell? ⟨w1.heap.size, 1, none⟩ = some (.int .i64 N2) ∧ y6.cell? ⟨w2.heap.size, 0, none⟩ = some (.int .i64 N1) ∧ y6.cell? ⟨w2.heap.size, 1, none⟩ = some (.int .i64 N2)) := ⟨keep hb6 HK5.out.1, keep hb6 HK5.out.2.1, keep hb6 HK5.out.2.2.1, keep hb6 HK5.out.2.2.2.1, keep hb6 HK5.out.2.2.2.2.1, keep hb6 HK5.out.2.2.2.2.2.1, keep hb6 HK5.out.2.2.2.2.2.2.1, keep hb6 HK5.out.2.2.2.2.2.2.2.1, keep hb6 HK5.out.2.2.2.2.2.2.2.2.1, keep hb6 HK5.out.2.2.2.2.2.2.2.2.2.1, keep hb6 HK5.out.2.2.2.2.2.2.2.2.2.2.1, keep hb6 HK5.out.2.2.2.2.2.2.2.2.2.2.2.1, keep hb6 HK5.out.2.2.2.2.2.2.2.2.2.2.2.2⟩
  clear hb6
  refine hK.out _ _ HK6.out (fun hHeld => ?_)
  clear hK K
  refine wpAnyH_take (i := 26) (v := ?_) rfl (by kernel_rfl) (by kernel_rfl) (by kernel_rfl) (fun _ _ _ h => h) (Or.inl ⟨by rfl, ?_⟩) (by assumption) ?_
  case refine_2 => (intro w hSw; (try dsimp only at hSw); go_simp; (try with_reducible rfl))
  (try simp only [Act.put, List.getElem_toArray, List.getElem_cons_succ, List.getElem_cons_zero, List.setIfInBounds_toArray, List.set_cons_zero, List.set_cons_succ])
  refine wpAnyH_take (i := 27) (v := ?_) rfl (by kernel_rfl) (by kernel_rfl) (by kernel_rfl) (fun _ _ _ h => h) (Or.inl ⟨by rfl, ?_⟩) (by assumption) ?_
  case refine_2 => (intro w hSw; (try dsimp only at hSw); go_simp; (try with_reducible rfl))
  (try simp only [Act.put, List.getElem_toArray, List.getElem_cons_succ, List.getElem_cons_zero, List.setIfInBounds_toArray, List.set_cons_zero, List.set_cons_succ])
  refine wpAnyH_done (by kernel_rfl) ?_ _
  go_wp2_with fail
  go_ret
  exact ⟨by simp, C6⟩

theorem walk (a b : Bt) (V : AccV) (w : World) (ha : wfi a.1 ∧ wfi a.2) (hb : wfi b.1 ∧ wfi b.2) (h : AccIn w V) :
    Calls Try.prog 3 #[bt a, bt b, .agg #[.int .i64 V.p.1, .int .i64 V.p.2, .int .i64 V.a.1, .int .i64 V.a.2, .slice V.x V.n V.c]] w fun e w' => e = .returned (.bool true) ∧ Below w.heap.size w w' := by
  obtain ⟨a1, a2⟩ := a
  obtain ⟨b1, b2⟩ := b
  have h1 := fun W => next_any (a1, a2) b2 W
  have h2 := fun W => rnext_any (a1, a2) b2 W
  have h3 := fun W => mayA_any V.p V.a V.x V.n V.c W
  have h4 := fun W => rmay_any V.p V.a V.x V.n V.c W
  by_cases e : a1 = b1 ∧ a2 = b2
  · obtain ⟨rfl, rfl⟩ := e
    cases ht : (nx (a1, a2) a2).2 with
    | true =>
      rw [ht] at h1 h2
      exact orders_eq_t a1 a2 (nx (a1, a2) a2).1.1 (nx (a1, a2) a2).1.2 V.p.1 V.p.2 V.a.1 V.a.2 V.x V.n V.c true (mayA V.p V.a V.n) w (nx_above _ _ ht) h1 h2 h3 h4
    | false =>
      rw [ht] at h1 h2
      exact orders_eq_f a1 a2 (nx (a1, a2) a2).1.1 (nx (a1, a2) a2).1.2 V.p.1 V.p.2 V.a.1 V.a.2 V.x V.n V.c true (mayA V.p V.a V.n) w h1 h2 h3 h4
  · cases ht : (nx (a1, a2) b2).2 with
    | true =>
      rw [ht] at h1 h2
      exact orders_ne_t a1 a2 b1 b2 (nx (a1, a2) b2).1.1 (nx (a1, a2) b2).1.2 V.p.1 V.p.2 V.a.1 V.a.2 V.x V.n V.c true (mayA V.p V.a V.n) w e (nx_above _ _ ht) h1 h2 h3 h4
    | false =>
      rw [ht] at h1 h2
      exact orders_ne_f a1 a2 b1 b2 (nx (a1, a2) b2).1.1 (nx (a1, a2) b2).1.2 V.p.1 V.p.2 V.a.1 V.a.2 V.x V.n V.c true (mayA V.p V.a V.n) w e h1 h2 h3 h4

set_option maxRecDepth 100000 in
theorem lifted (os : Os) (started : os.Started) (H : Type) (enc : TypeId × Value → H) :
    ReturnsInHanded {} Try.checked os 3 .any (Rows.ballotOrdersSpec.pre6 enc Try.prog Try.f3 Rows.ballotOrdersRow.domain false) (Rows.ballotOrdersSpec.post enc Try.prog Try.f3 false true false false) := by
  refine returnsInHanded_of_change_sized (C := Try.checked) own started (by kernel_rfl) Try.func3
    (ChangeSpec.witness6 (enc := enc) (C := Try.checked) false ⟨#[], #[.agg #[.int .i64 0, .int .i64 0], .agg #[.int .i64 0, .int .i64 0], .agg #[.int .i64 0, .int .i64 0, .int .i64 0, .int .i64 0, .slice none 0 0]], []⟩ 8 (by kernel_rfl) (by kernel_rfl) (by kernel_rfl) (by kernel_rfl)) ?_
  intro W base args ds gs before hval0 hW hcnd hsz0 _
  have hsz : (DataW.weightsEach Try.prog (Try.f3.params.toList ++ Rows.ballotOrdersSpec.plain.varTypes Try.prog) (ds ++ gs)).all (· ≤ reachBytes) = true := hsz0
  have hval : ∀ (j : Nat) t v, Try.f3.params[j]? = some t → args[j]? = some v → Value.okWide Try.prog W .any base t v := hval0
  have hW' := hW
  obtain ⟨p, q, hA0, hV, rfl, hfz, hnd⟩ := hW
  have hA : DataW.TrodAll enc Try.prog W 0 (fun _ => true) true Try.f3.params.toList args.toList ds p := hA0
  rw [Try.params3] at hA hval hsz
  obtain ⟨v0, vs0, d0, ds0, p0, q0, hargs, rfl, rfl, h0, r0⟩ := trodAll_cons hA
  obtain ⟨v1, vs1, d1, ds1, p1, q1, rfl, rfl, rfl, h1, r1⟩ := trodAll_cons r0
  obtain ⟨v2, vs2, d2, ds2, p2, q2, rfl, rfl, rfl, h2, r2⟩ := trodAll_cons r1
  obtain ⟨rfl, rfl, rfl⟩ := trodAll_nil r2
  obtain rfl : args = #[v0, v1, v2] := by cases args; simp_all
  obtain ⟨rfl, rfl⟩ := trodVars_none hV
  have k0 := h0
  have lt0 : ∀ x ∈ p0, x.block < W.heap.size := by obtain ⟨m, hm⟩ := k0; exact DataW.trod_lt m _ _ _ hm
  have s0 : ∀ x ∈ d0.weights Try.prog 23, x ≤ reachBytes := fun x hx => by
    have := List.all_eq_true.1 hsz x (DataW.weights_mem_each (j := 0) rfl rfl x hx)
    simpa using this
  obtain ⟨V0, rfl, w0⟩ := Ba.bal_in (okWide_struct Try.underlying23 (hval 0 23 v0 rfl rfl)) h0
  have k1 := h1
  have lt1 : ∀ x ∈ p1, x.block < W.heap.size := by obtain ⟨m, hm⟩ := k1; exact DataW.trod_lt m _ _ _ hm
  have s1 : ∀ x ∈ d1.weights Try.prog 23, x ≤ reachBytes := fun x hx => by
    have := List.all_eq_true.1 hsz x (DataW.weights_mem_each (j := 1) rfl rfl x hx)
    simpa using this
  obtain ⟨V1, rfl, w1⟩ := Ba.bal_in (okWide_struct Try.underlying23 (hval 1 23 v1 rfl rfl)) h1
  have k2 := h2
  have lt2 : ∀ x ∈ p2, x.block < W.heap.size := by obtain ⟨m, hm⟩ := k2; exact DataW.trod_lt m _ _ _ hm
  have s2 : ∀ x ∈ d2.weights Try.prog 26, x ≤ reachBytes := fun x hx => by
    have := List.all_eq_true.1 hsz x (DataW.weights_mem_each (j := 2) rfl rfl x hx)
    simpa using this
  obtain ⟨V2, rfl, w2⟩ := Ba.acc_in (okWide_struct Try.underlying26 (hval 2 26 v2 rfl rfl)) h2 s2
  clear hA0 hval0
  refine (walk V0 V1 V2 W w0 w1 w2).mono fun e W' ⟨he, bel⟩ => ?_
  subst he
  exact ⟨_, rfl, _, _, _, [], _, [], hW', trodAll_mk1 (shut_bool Try.underlying4 _), (trodAll_cons_mk (Below.trod laidOut (by kernel_rfl) (of_decide_eq_true (by kernel_rfl)) k0 bel lt0) (trodAll_cons_mk (Below.trod laidOut (by kernel_rfl) (of_decide_eq_true (by kernel_rfl)) k1 bel lt1) (trodAll_cons_mk (Below.trod laidOut (by kernel_rfl) (of_decide_eq_true (by kernel_rfl)) k2 bel lt2) trodAll_mk0))), rfl, bel.frame _, fun h => by cases h⟩

theorem over : Rows.ballotOrdersRow.holds Try.pinned (OpenSpec.ofChange Rows.ballotOrdersSpec) :=
  OpenClaim.holds_of_wide 3 Try.f3 rfl rfl rfl rfl rfl rfl rfl ⟨rfl, rfl, rfl, rfl, rfl⟩ rfl rfl rfl rfl rfl (by kernel_rfl) Try.func3 (by kernel_rfl)
    (of_decide_eq_true (by kernel_rfl)) (by unfold Func.isWrapper; first | (rw [if_pos (by decide +kernel)]; kernel_rfl) | (rw [if_neg (by decide +kernel)]; exact ⟨rfl, rfl⟩))
    (fun os started H enc _ => lifted os started H enc)

theorem proved : Rows.BallotOrdersSaid := over
#print axioms proved
end Go.Proofs.Ytlfeafbpknbbfaa.ballotOrders
