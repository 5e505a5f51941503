/-
  A promise that is kept: what awake asks.
  Conditions: none.
-/
import Derived.Test.YtlfeafbpknbbfaaBaRef3
namespace Go.Proofs.Ytlfeafbpknbbfaa.Ba
open Go.RowKit By Fl
set_option linter.unusedVariables false
set_option linter.unusedSimpArgs false
set_option maxRecDepth 100000

theorem awake_any (w : World) : Calls Try.prog 12 #[] w fun e w' => e = .returned (.bool true) ∧ Below w.heap.size w w' := by
  have hP := fun W => prepare_yes (0, 0) (0, 0) none 0 0 [] (3, 1) W (Sl.empty W) (by omega) (by decide)
  have hA := fun y cy W h => accept_no (3, 1) (0, 0) y 0 cy [] (2, 4) none 0 0 W h (by omega) (by decide)
  have hB := fun y cy g W h => accept_yes (3, 1) (0, 0) y 0 cy (3, 1) g 1 1 [7] W h (by omega) (by decide)
  have hN := fun W => next_any (3, 1) 0 W
  have e0 : nx (3, 1) 0 = ((4, 0), true) := by decide
  rw [e0] at hN
  clear e0
  have hE := fun W => eq_bt 4 0 4 0 W
  simp only [decide_true, Bool.and_self] at hE
  dsimp only [bt, ac] at *
  go_enter Try.func12, Try.ntmps12
  go_wp2_with (first
    | (
       go_at_call 13; refine (hP _).mono ?_; rintro e w1 ⟨y, cy, rfl, H1⟩; clear hP
       have k0 := keep H1.out.1 (b := w.heap.size) (o := 0) (x := .int .i64 3) (by first | assumption | go_simp)
       have k1 := keep H1.out.1 (b := w.heap.size) (o := 1) (x := .int .i64 1) (by first | assumption | go_simp)
       have l0 : w.heap.size < w1.heap.size := cell_lt' k0
       have B1 := on (al _ _) H1.out.1
       have S1 := H1.out.2.1
       clear H1)
    | (
       go_at_call 16; refine (hA y cy _ (S1.below (al _ _))).mono ?_; rintro e w2 ⟨y2, cy2, rfl, H2⟩; clear hA
       have k0 := keep H2.out.1 (b := w.heap.size) (o := 0) (x := .int .i64 3) (by first | assumption | go_simp)
       have k1 := keep H2.out.1 (b := w.heap.size) (o := 1) (x := .int .i64 1) (by first | assumption | go_simp)
       have m0 := keep H2.out.1 (b := w1.heap.size) (o := 0) (x := .int .i64 3) (by first | assumption | go_simp)
       have m1 := keep H2.out.1 (b := w1.heap.size) (o := 1) (x := .int .i64 1) (by first | assumption | go_simp)
       have m2 := keep H2.out.1 (b := w1.heap.size) (o := 2) (x := .int .i64 0) (by first | assumption | go_simp)
       have m3 := keep H2.out.1 (b := w1.heap.size) (o := 3) (x := .int .i64 0) (by first | assumption | go_simp)
       have m4 := keep H2.out.1 (b := w1.heap.size) (o := 4) (x := .slice y 0 cy) (by first | assumption | go_simp)
       have l1 : w.heap.size < w2.heap.size := cell_lt' k0
       have l2 : w1.heap.size < w2.heap.size := cell_lt' m0
       have B2 := on (on B1 (al _ _)) H2.out.1
       clear H2 B1)
    | (
       go_at_call 16; refine (hB y cy _ _ ⟨rfl, Nat.le_refl _, (fun h => by cases h), .inr ⟨_, 0, rfl, by simp, fun i hi => ?_⟩, fun v hv => by simp at hv; omega⟩).mono ?_
       · obtain rfl : i = 0 := by omega
         go_simp
         rfl
       rintro e w3 ⟨y3, cy3, rfl, H3⟩; clear hB
       have k0 := keep H3.out.1 (b := w.heap.size) (o := 0) (x := .int .i64 3) (by first | assumption | go_simp)
       have k1 := keep H3.out.1 (b := w.heap.size) (o := 1) (x := .int .i64 1) (by first | assumption | go_simp)
       have l3 : w.heap.size < w3.heap.size := cell_lt' k0
       have B3 := on (on (on B2 (al _ _)) (al _ _)) H3.out.1
       clear H3 B2)
    | (
       go_at_call 6; refine (hN _).mono ?_; rintro e w4 ⟨rfl, hb4⟩; clear hN
       have n0 := keep hb4 (b := w3.heap.size) (o := 0) (x := .int .i64 3) (by first | assumption | go_simp)
       have n1 := keep hb4 (b := w3.heap.size) (o := 1) (x := .int .i64 1) (by first | assumption | go_simp)
       have n2 := keep hb4 (b := w3.heap.size) (o := 2) (x := .int .i64 3) (by first | assumption | go_simp)
       have n3 := keep hb4 (b := w3.heap.size) (o := 3) (x := .int .i64 1) (by first | assumption | go_simp)
       have n4 := keep hb4 (b := w3.heap.size) (o := 4) (x := .slice y3 1 cy3) (by first | assumption | go_simp)
       have l4 : w3.heap.size < w4.heap.size := cell_lt' n0
       have B4 := on (on B3 (al _ _)) hb4
       clear hb4 B3))
  go_ret
  exact ⟨by simp, on B4 (al _ _)⟩

end Go.Proofs.Ytlfeafbpknbbfaa.Ba
