/-
  The document's own Next and Same.
  Conditions: none.
-/
import Derived.Test.YtlfeafbpknbbfaaBaRef2
import Derived.Test.YtlfeafbpknbbfaaBaAccept
namespace Go.Proofs.Ytlfeafbpknbbfaa.Ba
open Go.RowKit By Fl
set_option linter.unusedVariables false
set_option linter.unusedSimpArgs false
set_option maxRecDepth 100000

theorem rnext_a (s1 s2 m : Int) (w : World) (h1 : m < 0) : Calls Try.prog 7 #[bt (s1, s2), .int .i64 m] w fun e w' => e = .returned (.tuple #[bt z0, .bool false]) ∧ Below w.heap.size w w' := by
  dsimp only [bt, z0] at *
  have b0 : ∀ x y z, Below w.heap.size w (((w.alloc x).alloc y).alloc z) := fun x y z => on (on (al _ _) (al _ _)) (al _ _)
  go_enter Try.func7, Try.ntmps7
  go_wp2_with fail
  refine bodyPost_ret (v := .tuple #[.agg #[.int .i64 0, .int .i64 0], .bool false]) ?_ rfl ⟨rfl, ?_⟩
  · rw [results_cell2 rfl]
    go_simp
  · exact (on (on (al _ _) (al _ _)) (al _ _))

theorem rnext_b (s1 s2 m : Int) (w : World) (h1 : 7 ≤ m) : Calls Try.prog 7 #[bt (s1, s2), .int .i64 m] w fun e w' => e = .returned (.tuple #[bt z0, .bool false]) ∧ Below w.heap.size w w' := by
  have h2 : 0 ≤ m := by omega
  dsimp only [bt, z0] at *
  have b0 : ∀ x y z, Below w.heap.size w (((w.alloc x).alloc y).alloc z) := fun x y z => on (on (al _ _) (al _ _)) (al _ _)
  go_enter Try.func7, Try.ntmps7
  go_wp2_with fail
  refine bodyPost_ret (v := .tuple #[.agg #[.int .i64 0, .int .i64 0], .bool false]) ?_ rfl ⟨rfl, ?_⟩
  · rw [results_cell2 rfl]
    go_simp
  · exact (on (on (al _ _) (al _ _)) (al _ _))

theorem rnext_c (s1 s2 m : Int) (w : World) (h1 : 0 ≤ m) (h2 : m < 7) (hz : zb (s1, s2) = false) (hs : mayb (s1, s2) = false) : Calls Try.prog 7 #[bt (s1, s2), .int .i64 m] w fun e w' => e = .returned (.tuple #[bt z0, .bool false]) ∧ Below w.heap.size w w' := by
  have hZ := fun W => neq_bt s1 s2 0 0 W
  have hE := fun W => eq_bt s1 s2 0 0 W
  have e0 : (decide (s1 = 0) && decide (s2 = 0)) = zb (s1, s2) := rfl
  rw [e0, hz] at hZ hE
  clear e0 hz
  have hM := fun W => rballot_any (s1, s2) W
  rw [hs] at hM
  have h3 : ¬ m < 0 := by omega
  have h4 : ¬ 7 ≤ m := by omega
  dsimp only [bt, z0] at *
  have b0 : ∀ x y z, Below w.heap.size w (((w.alloc x).alloc y).alloc z) := fun x y z => on (on (al _ _) (al _ _)) (al _ _)
  go_enter Try.func7, Try.ntmps7
  go_wp2_with (first
    | (
       go_at_call 22; refine (hM _).mono ?_; rintro e w1 ⟨rfl, hb1⟩; clear hM
       have k0 := keep hb1 (b := w.heap.size) (o := 0) (x := .int .i64 s1) (by first | assumption | go_simp)
       have k1 := keep hb1 (b := w.heap.size) (o := 1) (x := .int .i64 s2) (by first | assumption | go_simp)
       have t0 := keep hb1 (b := w.heap.size + 1) (o := 0) (x := .int .i64 0) (by first | assumption | go_simp)
       have t1 := keep hb1 (b := w.heap.size + 1) (o := 1) (x := .int .i64 0) (by first | assumption | go_simp)
       have u0 := keep hb1 (b := w.heap.size + 1 + 1) (o := 0) (x := .int .i64 0) (by first | assumption | go_simp)
       have u1 := keep hb1 (b := w.heap.size + 1 + 1) (o := 1) (x := .int .i64 0) (by first | assumption | go_simp)
       have g0 := keepf hb1 (b := w.heap.size + 1) (o := 0) (by first | (simp <;> omega) | exact cell_lt' (a := ⟨w.heap.size + 1, 0, none⟩) (by assumption) | (simp; exact cell_lt' (a := ⟨w.heap.size + 1, 0, none⟩) (by assumption))) (by first | assumption | go_simp)
       have g1 := keepf hb1 (b := w.heap.size + 1) (o := 1) (by first | (simp <;> omega) | exact cell_lt' (a := ⟨w.heap.size + 1, 1, none⟩) (by assumption) | (simp; exact cell_lt' (a := ⟨w.heap.size + 1, 1, none⟩) (by assumption))) (by first | assumption | go_simp)
       have l0 : w.heap.size < w1.heap.size := cell_lt' k0
       have l1 : w.heap.size + 1 < w1.heap.size := cell_lt' t0
       have l2 : w.heap.size + 1 + 1 < w1.heap.size := cell_lt' u0
       have B1 := on (b0 _ _ _) hb1; clear hb1))
  refine bodyPost_ret (v := .tuple #[.agg #[.int .i64 0, .int .i64 0], .bool false]) ?_ rfl ⟨rfl, ?_⟩
  · rw [results_cell2 rfl]
    go_simp
  · exact below2 B1 (w.heap.size + 1) (by omega) _ _

theorem rnext_e (s1 s2 m : Int) (w : World) (h1 : 0 ≤ m) (h2 : m < 7) (hz : zb (s1, s2) = false) (hs : mayb (s1, s2) = true) (h5 : m ≤ s2) (hm : mayb (s1 + 1, m) = true) : Calls Try.prog 7 #[bt (s1, s2), .int .i64 m] w fun e w' => e = .returned (.tuple #[bt (s1 + 1, m), .bool true]) ∧ Below w.heap.size w w' := by
  have hZ := fun W => neq_bt s1 s2 0 0 W
  have hE := fun W => eq_bt s1 s2 0 0 W
  have e0 : (decide (s1 = 0) && decide (s2 = 0)) = zb (s1, s2) := rfl
  rw [e0, hz] at hZ hE
  clear e0 hz
  have hbig : s1 ≤ 2147483647 := mzb_big (s1 := s1) (s2 := s2) (by unfold mzb; simp [hs])
  have hlow : 1 ≤ s1 := by
    unfold mayb at hs
    simp at hs
    omega
  have hM := fun W => rballot_any (s1, s2) W
  rw [hs] at hM
  have hY := fun W => rballot_any (s1 + 1, m) W
  rw [hm] at hY
  clear hm
  have h3 : ¬ m < 0 := by omega
  have h4 : ¬ 7 ≤ m := by omega
  clear hs
  dsimp only [bt, z0] at *
  have b0 : ∀ x y z, Below w.heap.size w (((w.alloc x).alloc y).alloc z) := fun x y z => on (on (al _ _) (al _ _)) (al _ _)
  go_enter Try.func7, Try.ntmps7
  go_wp2_with (first
    | (
       go_at_call 22; refine (hM _).mono ?_; rintro e w1 ⟨rfl, hb1⟩; clear hM
       have k0 := keep hb1 (b := w.heap.size) (o := 0) (x := .int .i64 s1) (by first | assumption | go_simp)
       have k1 := keep hb1 (b := w.heap.size) (o := 1) (x := .int .i64 s2) (by first | assumption | go_simp)
       have t0 := keep hb1 (b := w.heap.size + 1) (o := 0) (x := .int .i64 0) (by first | assumption | go_simp)
       have t1 := keep hb1 (b := w.heap.size + 1) (o := 1) (x := .int .i64 0) (by first | assumption | go_simp)
       have u0 := keep hb1 (b := w.heap.size + 1 + 1) (o := 0) (x := .int .i64 0) (by first | assumption | go_simp)
       have u1 := keep hb1 (b := w.heap.size + 1 + 1) (o := 1) (x := .int .i64 0) (by first | assumption | go_simp)
       have g0 := keepf hb1 (b := w.heap.size + 1) (o := 0) (by first | (simp <;> omega) | exact cell_lt' (a := ⟨w.heap.size + 1, 0, none⟩) (by assumption) | (simp; exact cell_lt' (a := ⟨w.heap.size + 1, 0, none⟩) (by assumption))) (by first | assumption | go_simp)
       have g1 := keepf hb1 (b := w.heap.size + 1) (o := 1) (by first | (simp <;> omega) | exact cell_lt' (a := ⟨w.heap.size + 1, 1, none⟩) (by assumption) | (simp; exact cell_lt' (a := ⟨w.heap.size + 1, 1, none⟩) (by assumption))) (by first | assumption | go_simp)
       have l0 : w.heap.size < w1.heap.size := cell_lt' k0
       have l1 : w.heap.size + 1 < w1.heap.size := cell_lt' t0
       have l2 : w.heap.size + 1 + 1 < w1.heap.size := cell_lt' u0
       have B1 := on (b0 _ _ _) hb1; clear hb1)
    | (
       go_at_call 22; refine (hY _).mono ?_; rintro e w2 ⟨rfl, hb2⟩; clear hY
       have t0 := keep hb2 (b := w.heap.size + 1) (o := 0) (x := .int .i64 0) (by first | assumption | go_simp)
       have t1 := keep hb2 (b := w.heap.size + 1) (o := 1) (x := .int .i64 0) (by first | assumption | go_simp)
       have u0 := keep hb2 (b := w.heap.size + 1 + 1) (o := 0) (x := .int .i64 0) (by first | assumption | go_simp)
       have u1 := keep hb2 (b := w.heap.size + 1 + 1) (o := 1) (x := .int .i64 0) (by first | assumption | go_simp)
       have n0 := keep hb2 (b := w1.heap.size) (o := 0) (x := .int .i64 (s1 + 1)) (by first | assumption | go_simp)
       have n1 := keep hb2 (b := w1.heap.size) (o := 1) (x := .int .i64 m) (by first | assumption | go_simp)
       have g0 := keepf hb2 (b := w.heap.size + 1) (o := 0) (by first | (simp <;> omega) | exact cell_lt' (a := ⟨w.heap.size + 1, 0, none⟩) (by assumption) | (simp; exact cell_lt' (a := ⟨w.heap.size + 1, 0, none⟩) (by assumption))) (by first | assumption | go_simp)
       have g1 := keepf hb2 (b := w.heap.size + 1) (o := 1) (by first | (simp <;> omega) | exact cell_lt' (a := ⟨w.heap.size + 1, 1, none⟩) (by assumption) | (simp; exact cell_lt' (a := ⟨w.heap.size + 1, 1, none⟩) (by assumption))) (by first | assumption | go_simp)
       have B2 := on (on B1 (al _ _)) hb2))
  refine bodyPost_ret (v := .tuple #[.agg #[.int .i64 (s1 + 1), .int .i64 m], .bool true]) ?_ rfl ⟨rfl, ?_⟩
  · rw [results_cell2 rfl]
    go_simp
  · exact below2 B2 (w.heap.size + 1) (by omega) _ _

theorem rnext_e2 (s1 s2 m : Int) (w : World) (h1 : 0 ≤ m) (h2 : m < 7) (hz : zb (s1, s2) = false) (hs : mayb (s1, s2) = true) (h5 : ¬ m ≤ s2) (hm : mayb (s1, m) = true) : Calls Try.prog 7 #[bt (s1, s2), .int .i64 m] w fun e w' => e = .returned (.tuple #[bt (s1, m), .bool true]) ∧ Below w.heap.size w w' := by
  have hZ := fun W => neq_bt s1 s2 0 0 W
  have hE := fun W => eq_bt s1 s2 0 0 W
  have e0 : (decide (s1 = 0) && decide (s2 = 0)) = zb (s1, s2) := rfl
  rw [e0, hz] at hZ hE
  clear e0 hz
  have hbig : s1 ≤ 2147483647 := mzb_big (s1 := s1) (s2 := s2) (by unfold mzb; simp [hs])
  have hlow : 1 ≤ s1 := by
    unfold mayb at hs
    simp at hs
    omega
  have hM := fun W => rballot_any (s1, s2) W
  rw [hs] at hM
  have hY := fun W => rballot_any (s1, m) W
  rw [hm] at hY
  clear hm
  have h3 : ¬ m < 0 := by omega
  have h4 : ¬ 7 ≤ m := by omega
  clear hs
  dsimp only [bt, z0] at *
  have b0 : ∀ x y z, Below w.heap.size w (((w.alloc x).alloc y).alloc z) := fun x y z => on (on (al _ _) (al _ _)) (al _ _)
  go_enter Try.func7, Try.ntmps7
  go_wp2_with (first
    | (
       go_at_call 22; refine (hM _).mono ?_; rintro e w1 ⟨rfl, hb1⟩; clear hM
       have k0 := keep hb1 (b := w.heap.size) (o := 0) (x := .int .i64 s1) (by first | assumption | go_simp)
       have k1 := keep hb1 (b := w.heap.size) (o := 1) (x := .int .i64 s2) (by first | assumption | go_simp)
       have t0 := keep hb1 (b := w.heap.size + 1) (o := 0) (x := .int .i64 0) (by first | assumption | go_simp)
       have t1 := keep hb1 (b := w.heap.size + 1) (o := 1) (x := .int .i64 0) (by first | assumption | go_simp)
       have u0 := keep hb1 (b := w.heap.size + 1 + 1) (o := 0) (x := .int .i64 0) (by first | assumption | go_simp)
       have u1 := keep hb1 (b := w.heap.size + 1 + 1) (o := 1) (x := .int .i64 0) (by first | assumption | go_simp)
       have g0 := keepf hb1 (b := w.heap.size + 1) (o := 0) (by first | (simp <;> omega) | exact cell_lt' (a := ⟨w.heap.size + 1, 0, none⟩) (by assumption) | (simp; exact cell_lt' (a := ⟨w.heap.size + 1, 0, none⟩) (by assumption))) (by first | assumption | go_simp)
       have g1 := keepf hb1 (b := w.heap.size + 1) (o := 1) (by first | (simp <;> omega) | exact cell_lt' (a := ⟨w.heap.size + 1, 1, none⟩) (by assumption) | (simp; exact cell_lt' (a := ⟨w.heap.size + 1, 1, none⟩) (by assumption))) (by first | assumption | go_simp)
       have l0 : w.heap.size < w1.heap.size := cell_lt' k0
       have l1 : w.heap.size + 1 < w1.heap.size := cell_lt' t0
       have l2 : w.heap.size + 1 + 1 < w1.heap.size := cell_lt' u0
       have B1 := on (b0 _ _ _) hb1; clear hb1)
    | (
       go_at_call 22; refine (hY _).mono ?_; rintro e w2 ⟨rfl, hb2⟩; clear hY
       have t0 := keep hb2 (b := w.heap.size + 1) (o := 0) (x := .int .i64 0) (by first | assumption | go_simp)
       have t1 := keep hb2 (b := w.heap.size + 1) (o := 1) (x := .int .i64 0) (by first | assumption | go_simp)
       have u0 := keep hb2 (b := w.heap.size + 1 + 1) (o := 0) (x := .int .i64 0) (by first | assumption | go_simp)
       have u1 := keep hb2 (b := w.heap.size + 1 + 1) (o := 1) (x := .int .i64 0) (by first | assumption | go_simp)
       have n0 := keep hb2 (b := w1.heap.size) (o := 0) (x := .int .i64 (s1)) (by first | assumption | go_simp)
       have n1 := keep hb2 (b := w1.heap.size) (o := 1) (x := .int .i64 m) (by first | assumption | go_simp)
       have g0 := keepf hb2 (b := w.heap.size + 1) (o := 0) (by first | (simp <;> omega) | exact cell_lt' (a := ⟨w.heap.size + 1, 0, none⟩) (by assumption) | (simp; exact cell_lt' (a := ⟨w.heap.size + 1, 0, none⟩) (by assumption))) (by first | assumption | go_simp)
       have g1 := keepf hb2 (b := w.heap.size + 1) (o := 1) (by first | (simp <;> omega) | exact cell_lt' (a := ⟨w.heap.size + 1, 1, none⟩) (by assumption) | (simp; exact cell_lt' (a := ⟨w.heap.size + 1, 1, none⟩) (by assumption))) (by first | assumption | go_simp)
       have B2 := on (on B1 (al _ _)) hb2))
  refine bodyPost_ret (v := .tuple #[.agg #[.int .i64 (s1), .int .i64 m], .bool true]) ?_ rfl ⟨rfl, ?_⟩
  · rw [results_cell2 rfl]
    go_simp
  · exact below2 B2 (w.heap.size + 1) (by omega) _ _

theorem rnext_f (s1 s2 m : Int) (w : World) (h1 : 0 ≤ m) (h2 : m < 7) (hz : zb (s1, s2) = false) (hs : mayb (s1, s2) = true) (h5 : m ≤ s2) (hm : mayb (s1 + 1, m) = false) : Calls Try.prog 7 #[bt (s1, s2), .int .i64 m] w fun e w' => e = .returned (.tuple #[bt z0, .bool false]) ∧ Below w.heap.size w w' := by
  have hZ := fun W => neq_bt s1 s2 0 0 W
  have hE := fun W => eq_bt s1 s2 0 0 W
  have e0 : (decide (s1 = 0) && decide (s2 = 0)) = zb (s1, s2) := rfl
  rw [e0, hz] at hZ hE
  clear e0 hz
  have hbig : s1 ≤ 2147483647 := mzb_big (s1 := s1) (s2 := s2) (by unfold mzb; simp [hs])
  have hlow : 1 ≤ s1 := by
    unfold mayb at hs
    simp at hs
    omega
  have hM := fun W => rballot_any (s1, s2) W
  rw [hs] at hM
  have hY := fun W => rballot_any (s1 + 1, m) W
  rw [hm] at hY
  clear hm
  have h3 : ¬ m < 0 := by omega
  have h4 : ¬ 7 ≤ m := by omega
  clear hs
  dsimp only [bt, z0] at *
  have b0 : ∀ x y z, Below w.heap.size w (((w.alloc x).alloc y).alloc z) := fun x y z => on (on (al _ _) (al _ _)) (al _ _)
  go_enter Try.func7, Try.ntmps7
  go_wp2_with (first
    | (
       go_at_call 22; refine (hM _).mono ?_; rintro e w1 ⟨rfl, hb1⟩; clear hM
       have k0 := keep hb1 (b := w.heap.size) (o := 0) (x := .int .i64 s1) (by first | assumption | go_simp)
       have k1 := keep hb1 (b := w.heap.size) (o := 1) (x := .int .i64 s2) (by first | assumption | go_simp)
       have t0 := keep hb1 (b := w.heap.size + 1) (o := 0) (x := .int .i64 0) (by first | assumption | go_simp)
       have t1 := keep hb1 (b := w.heap.size + 1) (o := 1) (x := .int .i64 0) (by first | assumption | go_simp)
       have u0 := keep hb1 (b := w.heap.size + 1 + 1) (o := 0) (x := .int .i64 0) (by first | assumption | go_simp)
       have u1 := keep hb1 (b := w.heap.size + 1 + 1) (o := 1) (x := .int .i64 0) (by first | assumption | go_simp)
       have g0 := keepf hb1 (b := w.heap.size + 1) (o := 0) (by first | (simp <;> omega) | exact cell_lt' (a := ⟨w.heap.size + 1, 0, none⟩) (by assumption) | (simp; exact cell_lt' (a := ⟨w.heap.size + 1, 0, none⟩) (by assumption))) (by first | assumption | go_simp)
       have g1 := keepf hb1 (b := w.heap.size + 1) (o := 1) (by first | (simp <;> omega) | exact cell_lt' (a := ⟨w.heap.size + 1, 1, none⟩) (by assumption) | (simp; exact cell_lt' (a := ⟨w.heap.size + 1, 1, none⟩) (by assumption))) (by first | assumption | go_simp)
       have l0 : w.heap.size < w1.heap.size := cell_lt' k0
       have l1 : w.heap.size + 1 < w1.heap.size := cell_lt' t0
       have l2 : w.heap.size + 1 + 1 < w1.heap.size := cell_lt' u0
       have B1 := on (b0 _ _ _) hb1; clear hb1)
    | (
       go_at_call 22; refine (hY _).mono ?_; rintro e w2 ⟨rfl, hb2⟩; clear hY
       have t0 := keep hb2 (b := w.heap.size + 1) (o := 0) (x := .int .i64 0) (by first | assumption | go_simp)
       have t1 := keep hb2 (b := w.heap.size + 1) (o := 1) (x := .int .i64 0) (by first | assumption | go_simp)
       have u0 := keep hb2 (b := w.heap.size + 1 + 1) (o := 0) (x := .int .i64 0) (by first | assumption | go_simp)
       have u1 := keep hb2 (b := w.heap.size + 1 + 1) (o := 1) (x := .int .i64 0) (by first | assumption | go_simp)
       have n0 := keep hb2 (b := w1.heap.size) (o := 0) (x := .int .i64 (s1 + 1)) (by first | assumption | go_simp)
       have n1 := keep hb2 (b := w1.heap.size) (o := 1) (x := .int .i64 m) (by first | assumption | go_simp)
       have g0 := keepf hb2 (b := w.heap.size + 1) (o := 0) (by first | (simp <;> omega) | exact cell_lt' (a := ⟨w.heap.size + 1, 0, none⟩) (by assumption) | (simp; exact cell_lt' (a := ⟨w.heap.size + 1, 0, none⟩) (by assumption))) (by first | assumption | go_simp)
       have g1 := keepf hb2 (b := w.heap.size + 1) (o := 1) (by first | (simp <;> omega) | exact cell_lt' (a := ⟨w.heap.size + 1, 1, none⟩) (by assumption) | (simp; exact cell_lt' (a := ⟨w.heap.size + 1, 1, none⟩) (by assumption))) (by first | assumption | go_simp)
       have B2 := on (on B1 (al _ _)) hb2))
  refine bodyPost_ret (v := .tuple #[.agg #[.int .i64 0, .int .i64 0], .bool false]) ?_ rfl ⟨rfl, ?_⟩
  · rw [results_cell2 rfl]
    go_simp
  · exact below2 B2 (w.heap.size + 1) (by omega) _ _

theorem rnext_f2 (s1 s2 m : Int) (w : World) (h1 : 0 ≤ m) (h2 : m < 7) (hz : zb (s1, s2) = false) (hs : mayb (s1, s2) = true) (h5 : ¬ m ≤ s2) (hm : mayb (s1, m) = false) : Calls Try.prog 7 #[bt (s1, s2), .int .i64 m] w fun e w' => e = .returned (.tuple #[bt z0, .bool false]) ∧ Below w.heap.size w w' := by
  have hZ := fun W => neq_bt s1 s2 0 0 W
  have hE := fun W => eq_bt s1 s2 0 0 W
  have e0 : (decide (s1 = 0) && decide (s2 = 0)) = zb (s1, s2) := rfl
  rw [e0, hz] at hZ hE
  clear e0 hz
  have hbig : s1 ≤ 2147483647 := mzb_big (s1 := s1) (s2 := s2) (by unfold mzb; simp [hs])
  have hlow : 1 ≤ s1 := by
    unfold mayb at hs
    simp at hs
    omega
  have hM := fun W => rballot_any (s1, s2) W
  rw [hs] at hM
  have hY := fun W => rballot_any (s1, m) W
  rw [hm] at hY
  clear hm
  have h3 : ¬ m < 0 := by omega
  have h4 : ¬ 7 ≤ m := by omega
  clear hs
  dsimp only [bt, z0] at *
  have b0 : ∀ x y z, Below w.heap.size w (((w.alloc x).alloc y).alloc z) := fun x y z => on (on (al _ _) (al _ _)) (al _ _)
  go_enter Try.func7, Try.ntmps7
  go_wp2_with (first
    | (
       go_at_call 22; refine (hM _).mono ?_; rintro e w1 ⟨rfl, hb1⟩; clear hM
       have k0 := keep hb1 (b := w.heap.size) (o := 0) (x := .int .i64 s1) (by first | assumption | go_simp)
       have k1 := keep hb1 (b := w.heap.size) (o := 1) (x := .int .i64 s2) (by first | assumption | go_simp)
       have t0 := keep hb1 (b := w.heap.size + 1) (o := 0) (x := .int .i64 0) (by first | assumption | go_simp)
       have t1 := keep hb1 (b := w.heap.size + 1) (o := 1) (x := .int .i64 0) (by first | assumption | go_simp)
       have u0 := keep hb1 (b := w.heap.size + 1 + 1) (o := 0) (x := .int .i64 0) (by first | assumption | go_simp)
       have u1 := keep hb1 (b := w.heap.size + 1 + 1) (o := 1) (x := .int .i64 0) (by first | assumption | go_simp)
       have g0 := keepf hb1 (b := w.heap.size + 1) (o := 0) (by first | (simp <;> omega) | exact cell_lt' (a := ⟨w.heap.size + 1, 0, none⟩) (by assumption) | (simp; exact cell_lt' (a := ⟨w.heap.size + 1, 0, none⟩) (by assumption))) (by first | assumption | go_simp)
       have g1 := keepf hb1 (b := w.heap.size + 1) (o := 1) (by first | (simp <;> omega) | exact cell_lt' (a := ⟨w.heap.size + 1, 1, none⟩) (by assumption) | (simp; exact cell_lt' (a := ⟨w.heap.size + 1, 1, none⟩) (by assumption))) (by first | assumption | go_simp)
       have l0 : w.heap.size < w1.heap.size := cell_lt' k0
       have l1 : w.heap.size + 1 < w1.heap.size := cell_lt' t0
       have l2 : w.heap.size + 1 + 1 < w1.heap.size := cell_lt' u0
       have B1 := on (b0 _ _ _) hb1; clear hb1)
    | (
       go_at_call 22; refine (hY _).mono ?_; rintro e w2 ⟨rfl, hb2⟩; clear hY
       have t0 := keep hb2 (b := w.heap.size + 1) (o := 0) (x := .int .i64 0) (by first | assumption | go_simp)
       have t1 := keep hb2 (b := w.heap.size + 1) (o := 1) (x := .int .i64 0) (by first | assumption | go_simp)
       have u0 := keep hb2 (b := w.heap.size + 1 + 1) (o := 0) (x := .int .i64 0) (by first | assumption | go_simp)
       have u1 := keep hb2 (b := w.heap.size + 1 + 1) (o := 1) (x := .int .i64 0) (by first | assumption | go_simp)
       have n0 := keep hb2 (b := w1.heap.size) (o := 0) (x := .int .i64 (s1)) (by first | assumption | go_simp)
       have n1 := keep hb2 (b := w1.heap.size) (o := 1) (x := .int .i64 m) (by first | assumption | go_simp)
       have g0 := keepf hb2 (b := w.heap.size + 1) (o := 0) (by first | (simp <;> omega) | exact cell_lt' (a := ⟨w.heap.size + 1, 0, none⟩) (by assumption) | (simp; exact cell_lt' (a := ⟨w.heap.size + 1, 0, none⟩) (by assumption))) (by first | assumption | go_simp)
       have g1 := keepf hb2 (b := w.heap.size + 1) (o := 1) (by first | (simp <;> omega) | exact cell_lt' (a := ⟨w.heap.size + 1, 1, none⟩) (by assumption) | (simp; exact cell_lt' (a := ⟨w.heap.size + 1, 1, none⟩) (by assumption))) (by first | assumption | go_simp)
       have B2 := on (on B1 (al _ _)) hb2))
  refine bodyPost_ret (v := .tuple #[.agg #[.int .i64 0, .int .i64 0], .bool false]) ?_ rfl ⟨rfl, ?_⟩
  · rw [results_cell2 rfl]
    go_simp
  · exact below2 B2 (w.heap.size + 1) (by omega) _ _

theorem rnext_d (m : Int) (w : World) (h1 : 0 ≤ m) (h2 : m < 7) : Calls Try.prog 7 #[bt (0, 0), .int .i64 m] w fun e w' => e = .returned (.tuple #[bt (1, m), .bool true]) ∧ Below w.heap.size w w' := by
  have hY := fun W => rballot_any (1, m) W
  have hm : mayb (1, m) = true := by simp [mayb, h1, h2]
  rw [hm] at hY
  clear hm
  have h3 : ¬ m < 0 := by omega
  have h4 : ¬ 7 ≤ m := by omega
  dsimp only [bt, z0] at *
  have b0 : ∀ x y z, Below w.heap.size w (((w.alloc x).alloc y).alloc z) := fun x y z => on (on (al _ _) (al _ _)) (al _ _)
  go_enter Try.func7, Try.ntmps7
  go_wp2_with (first
    | (
       go_at_call 22; refine (hY _).mono ?_; rintro e w2 ⟨rfl, hb2⟩; clear hY
       have t0 := keep hb2 (b := w.heap.size + 1) (o := 0) (x := .int .i64 0) (by first | assumption | go_simp)
       have t1 := keep hb2 (b := w.heap.size + 1) (o := 1) (x := .int .i64 0) (by first | assumption | go_simp)
       have u0 := keep hb2 (b := w.heap.size + 1 + 1) (o := 0) (x := .int .i64 0) (by first | assumption | go_simp)
       have u1 := keep hb2 (b := w.heap.size + 1 + 1) (o := 1) (x := .int .i64 0) (by first | assumption | go_simp)
       have n0 := keep hb2 (b := w.heap.size + 1 + 1 + 1) (o := 0) (x := .int .i64 (1)) (by first | assumption | go_simp)
       have n1 := keep hb2 (b := w.heap.size + 1 + 1 + 1) (o := 1) (x := .int .i64 m) (by first | assumption | go_simp)
       have g0 := keepf hb2 (b := w.heap.size + 1) (o := 0) (by first | (simp <;> omega) | exact cell_lt' (a := ⟨w.heap.size + 1, 0, none⟩) (by assumption) | (simp; exact cell_lt' (a := ⟨w.heap.size + 1, 0, none⟩) (by assumption))) (by first | assumption | go_simp)
       have g1 := keepf hb2 (b := w.heap.size + 1) (o := 1) (by first | (simp <;> omega) | exact cell_lt' (a := ⟨w.heap.size + 1, 1, none⟩) (by assumption) | (simp; exact cell_lt' (a := ⟨w.heap.size + 1, 1, none⟩) (by assumption))) (by first | assumption | go_simp)
       have B2 := on (on (b0 _ _ _) (al _ _)) hb2))
  refine bodyPost_ret (v := .tuple #[.agg #[.int .i64 (1), .int .i64 m], .bool true]) ?_ rfl ⟨rfl, ?_⟩
  · rw [results_cell2 rfl]
    go_simp
  · exact below2 B2 (w.heap.size + 1) (by omega) _ _

theorem nx_is (s : Bt) (m : Int) : (m < 0 ∨ 7 ≤ m → nx s m = (z0, false)) ∧ (zb s = false → mayb s = false → nx s m = (z0, false)) := by
  obtain ⟨s1, s2⟩ := s
  refine ⟨fun h => ?_, fun h1 h2 => ?_⟩
  · have h2 : ∀ c : Int, mayb (c, m) = false := fun c => by
      unfold mayb
      simp
      omega
    unfold nx
    dsimp only
    cases mzb (s1, s2) <;> cases ltb (s1, s2) (max s1 1, m) <;> simp [h2]
  · unfold nx mzb
    simp [h1, h2]

theorem nx_zero (m : Int) (h1 : 0 ≤ m) (h2 : m < 7) : nx (0, 0) m = ((1, m), true) := by
  have e1 : mzb (0, 0) = true := by decide
  have e0 : max (0 : Int) 1 = 1 := by decide
  have e2 : ltb (0, 0) (1, m) = true := by simp [ltb]
  have e3 : mayb (1, m) = true := by simp [mayb, h1, h2]
  unfold nx
  dsimp only
  rw [e0, e1, e2, if_pos rfl, if_pos rfl, e3, if_pos rfl]

theorem nx_some (s1 s2 m : Int) (hs : mayb (s1, s2) = true) : nx (s1, s2) m = if mayb ((if m ≤ s2 then s1 + 1 else s1), m) = true then (((if m ≤ s2 then s1 + 1 else s1), m), true) else (z0, false) := by
  have hlow : 1 ≤ s1 := by
    unfold mayb at hs
    simp at hs
    omega
  have e1 : mzb (s1, s2) = true := by unfold mzb; simp [hs]
  have e2 : max s1 1 = s1 := by omega
  unfold nx
  dsimp only
  rw [e1, if_pos rfl, e2]
  by_cases h : m ≤ s2
  · have e3 : ltb (s1, s2) (s1, m) = false := by simp [ltb]; omega
    rw [e3, if_pos h]
    simp
  · have e3 : ltb (s1, s2) (s1, m) = true := by simp [ltb]; omega
    rw [e3, if_neg h]
    simp

theorem rnext_any (s : Bt) (m : Int) (w : World) : Calls Try.prog 7 #[bt s, .int .i64 m] w fun e w' => e = .returned (.tuple #[bt (nx s m).1, .bool (nx s m).2]) ∧ Below w.heap.size w w' := by
  obtain ⟨s1, s2⟩ := s
  by_cases h1 : m < 0
  · rw [(nx_is (s1, s2) m).1 (.inl h1)]
    exact rnext_a s1 s2 m w h1
  · by_cases h2 : 7 ≤ m
    · rw [(nx_is (s1, s2) m).1 (.inr h2)]
      exact rnext_b s1 s2 m w h2
    · have h3 : 0 ≤ m := by omega
      have h4 : m < 7 := by omega
      cases hz : zb (s1, s2) with
      | true =>
        have e : s1 = 0 ∧ s2 = 0 := by simpa [zb] using hz
        obtain ⟨rfl, rfl⟩ := e
        rw [nx_zero m h3 h4]
        exact rnext_d m w h3 h4
      | false =>
        cases hs : mayb (s1, s2) with
        | false =>
          rw [(nx_is (s1, s2) m).2 hz hs]
          exact rnext_c s1 s2 m w h3 h4 hz hs
        | true =>
          rw [nx_some s1 s2 m hs]
          by_cases h5 : m ≤ s2
          · simp only [if_pos h5]
            cases hm : mayb (s1 + 1, m) with
            | true => exact rnext_e s1 s2 m w h3 h4 hz hs h5 hm
            | false => exact rnext_f s1 s2 m w h3 h4 hz hs h5 hm
          · simp only [if_neg h5]
            cases hm : mayb (s1, m) with
            | true => exact rnext_e2 s1 s2 m w h3 h4 hz hs h5 hm
            | false => exact rnext_f2 s1 s2 m w h3 h4 hz hs h5 hm

theorem same_yes (p a : Bt) (x y : Option Addr) (n m c d : Nat) (l : List Nat) (w : World) (h1 : Sl w x n c l) (h2 : Sl w y m d l) :
    Calls Try.prog 15 #[ac p a x n c, ac p a y m d] w fun e w' => e = .returned (.bool true) ∧ Below w.heap.size w w' := by
  have b0 : ∀ x y, Below w.heap.size w ((w.alloc x).alloc y) := fun x y => on (al _ _) (al _ _)
  have c1 := fun o1 o2 => conv_sl (h1.below (b0 o1 o2))
  have c2 := fun o1 o2 => conv_sl (h2.below (b0 o1 o2))
  obtain ⟨p1, p2⟩ := p
  obtain ⟨a1, a2⟩ := a
  have e1 := fun W => eq_bt p1 p2 p1 p2 W
  have e2 := fun W => eq_bt a1 a2 a1 a2 W
  simp only [decide_true, Bool.and_self] at e1 e2
  clear h1 h2
  dsimp only [bt, ac] at *
  go_enter Try.func15, Try.ntmps15
  go_wp2_with fail
  go_ret
  exact ⟨by simp, b0 _ _⟩

end Go.Proofs.Ytlfeafbpknbbfaa.Ba
