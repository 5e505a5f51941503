/-
  The next ballot, by the program and by the document.
  Conditions: none.
-/
import Derived.Test.YtdlajpjigddbhaaGreatJ02
namespace Go.Proofs.YtdlajpjigddbhaaGreat.Ba
open Go.RowKit By Fl
set_option linter.unusedVariables false
set_option linter.unusedSimpArgs false
set_option maxRecDepth 100000

theorem al (w : World) (o : Obj) : Below w.heap.size w (w.alloc o) := (Below.refl _ w).alloc (Nat.le_refl _) _

theorem next_no0 (s : Bt) (m : Int) (w : World) (hs : mzb s = false) : Calls Tryz.prog 127 #[bt s, .int .i64 m] w fun e w' => e = .returned (.tuple #[bt z0, .bool false]) ∧ Below w.heap.size w w' := by
  have hM := fun W => mzb_any s W
  rw [hs] at hM
  clear hs
  obtain ⟨s1, s2⟩ := s
  unfold bt z0 at *
  dsimp only at *
  have b0 : ∀ x y, Below w.heap.size w ((w.alloc x).alloc y) := fun x y => on (al _ _) (al _ _)
  go_enter Tryz.func127, Tryz.ntmps127
  go_wp2_with (first
    | (
       go_at_call 153; refine (hM _).mono ?_; rintro e w1 ⟨rfl, hb1⟩; clear hM
       have r0 := keep hb1 (b := w.heap.size + 1) (o := 0) (x := .int .i64 0) (by first | assumption | go_simp)
       have r1 := keep hb1 (b := w.heap.size + 1) (o := 1) (x := .int .i64 0) (by first | assumption | go_simp)
       have g0 := keepf hb1 (b := w.heap.size + 1) (o := 0) (by first | (simp <;> omega) | exact cell_lt' (a := ⟨w.heap.size + 1, 0, none⟩) (by assumption) | (simp; exact cell_lt' (a := ⟨w.heap.size + 1, 0, none⟩) (by assumption))) (by first | assumption | go_simp)
       have g1 := keepf hb1 (b := w.heap.size + 1) (o := 1) (by first | (simp <;> omega) | exact cell_lt' (a := ⟨w.heap.size + 1, 1, none⟩) (by assumption) | (simp; exact cell_lt' (a := ⟨w.heap.size + 1, 1, none⟩) (by assumption))) (by first | assumption | go_simp)
       have B1 := on (b0 _ _) hb1; clear hb1))
  refine bodyPost_ret (v := .tuple #[.agg #[.int .i64 0, .int .i64 0], .bool false]) ?_ rfl ⟨rfl, ?_⟩
  · rw [results_cell2 rfl]
    go_simp
  · exact (B1.setCell (p := ⟨w.heap.size + 1, 0, none⟩) (by show w.heap.size ≤ w.heap.size + 1; omega) _).setCell (p := ⟨w.heap.size + 1, 1, none⟩) (by show w.heap.size ≤ w.heap.size + 1; omega) _

theorem next_go : True := trivial

theorem mzb_big {s1 s2 : Int} (h : mzb (s1, s2) = true) : s1 ≤ 2147483647 := by
  unfold mzb zb mayb at h
  simp at h
  omega

theorem next_a (s1 s2 m r : Int) (hr : r = max s1 1) (w : World) (hs : mzb (s1, s2) = true) (hl : ltb (s1, s2) (r, m) = true) (hm : mayb (r, m) = true) : Calls Tryz.prog 127 #[bt (s1, s2), .int .i64 m] w fun e w' => e = .returned (.tuple #[bt (r, m), .bool true]) ∧ Below w.heap.size w w' := by
  have hM := fun W => mzb_any (s1, s2) W
  rw [hs] at hM
  have hL := fun W => less_any (s1, s2) (r, m) W
  rw [hl] at hL
  have hY := fun W => may_any (r, m) W
  rw [hm] at hY
  have hbig : s1 ≤ 2147483647 := mzb_big hs
  clear hs hl hm
  dsimp only [bt, z0] at *
  have b0 : ∀ x y, Below w.heap.size w ((w.alloc x).alloc y) := fun x y => on (al _ _) (al _ _)
  by_cases h1 : 1 ≤ s1
  · have hr2 : r = s1 := by omega
    subst hr2
    have h2 : ¬ r < 1 := by omega
    clear hr
    go_enter Tryz.func127, Tryz.ntmps127
    go_wp2_with (first
      | (
         go_at_call 153; refine (hM _).mono ?_; rintro e w1 ⟨rfl, hb1⟩; clear hM
         have k0 := keep hb1 (b := w.heap.size) (o := 0) (x := .int .i64 r) (by first | assumption | go_simp)
         have k1 := keep hb1 (b := w.heap.size) (o := 1) (x := .int .i64 s2) (by first | assumption | go_simp)
         have t0 := keep hb1 (b := w.heap.size + 1) (o := 0) (x := .int .i64 0) (by first | assumption | go_simp)
         have t1 := keep hb1 (b := w.heap.size + 1) (o := 1) (x := .int .i64 0) (by first | assumption | go_simp)
         have g0 := keepf hb1 (b := w.heap.size + 1) (o := 0) (by first | (simp <;> omega) | exact cell_lt' (a := ⟨w.heap.size + 1, 0, none⟩) (by assumption) | (simp; exact cell_lt' (a := ⟨w.heap.size + 1, 0, none⟩) (by assumption))) (by first | assumption | go_simp)
         have g1 := keepf hb1 (b := w.heap.size + 1) (o := 1) (by first | (simp <;> omega) | exact cell_lt' (a := ⟨w.heap.size + 1, 1, none⟩) (by assumption) | (simp; exact cell_lt' (a := ⟨w.heap.size + 1, 1, none⟩) (by assumption))) (by first | assumption | go_simp)
         have l0 : w.heap.size < w1.heap.size := cell_lt' k0
         have l1 : w.heap.size + 1 < w1.heap.size := cell_lt' t0
         have B1 := on (b0 _ _) hb1; clear hb1)
      | (
         go_at_call 86; refine (hL _).mono ?_; rintro e w2 ⟨rfl, hb2⟩; clear hL
         have t0 := keep hb2 (b := w.heap.size + 1) (o := 0) (x := .int .i64 0) (by first | assumption | go_simp)
         have t1 := keep hb2 (b := w.heap.size + 1) (o := 1) (x := .int .i64 0) (by first | assumption | go_simp)
         have n0 := keep hb2 (b := w1.heap.size) (o := 0) (x := .int .i64 r) (by first | assumption | go_simp)
         have n1 := keep hb2 (b := w1.heap.size) (o := 1) (x := .int .i64 m) (by first | assumption | go_simp)
         have g0 := keepf hb2 (b := w.heap.size + 1) (o := 0) (by first | (simp <;> omega) | exact cell_lt' (a := ⟨w.heap.size + 1, 0, none⟩) (by assumption) | (simp; exact cell_lt' (a := ⟨w.heap.size + 1, 0, none⟩) (by assumption))) (by first | assumption | go_simp)
         have g1 := keepf hb2 (b := w.heap.size + 1) (o := 1) (by first | (simp <;> omega) | exact cell_lt' (a := ⟨w.heap.size + 1, 1, none⟩) (by assumption) | (simp; exact cell_lt' (a := ⟨w.heap.size + 1, 1, none⟩) (by assumption))) (by first | assumption | go_simp)
         have f0 := keepf hb2 (b := w1.heap.size) (o := 0) (by first | (simp <;> omega) | exact cell_lt' (a := ⟨w1.heap.size, 0, none⟩) (by assumption) | (simp; exact cell_lt' (a := ⟨w1.heap.size, 0, none⟩) (by assumption))) (by first | assumption | go_simp)
         have l2 : w1.heap.size < w2.heap.size := cell_lt' n0
         have B2 := on (on B1 (al _ _)) hb2; clear hb2 B1)
      | (
         go_at_call 145; refine (hY _).mono ?_; rintro e w3 ⟨rfl, hb3⟩; clear hY
         have t0 := keep hb3 (b := w.heap.size + 1) (o := 0) (x := .int .i64 0) (by first | assumption | go_simp)
         have t1 := keep hb3 (b := w.heap.size + 1) (o := 1) (x := .int .i64 0) (by first | assumption | go_simp)
         have n0 := keep hb3 (b := w1.heap.size) (o := 0) (x := .int .i64 (r)) (by first | assumption | go_simp)
         have n1 := keep hb3 (b := w1.heap.size) (o := 1) (x := .int .i64 m) (by first | assumption | go_simp)
         have g0 := keepf hb3 (b := w.heap.size + 1) (o := 0) (by first | (simp <;> omega) | exact cell_lt' (a := ⟨w.heap.size + 1, 0, none⟩) (by assumption) | (simp; exact cell_lt' (a := ⟨w.heap.size + 1, 0, none⟩) (by assumption))) (by first | assumption | go_simp)
         have g1 := keepf hb3 (b := w.heap.size + 1) (o := 1) (by first | (simp <;> omega) | exact cell_lt' (a := ⟨w.heap.size + 1, 1, none⟩) (by assumption) | (simp; exact cell_lt' (a := ⟨w.heap.size + 1, 1, none⟩) (by assumption))) (by first | assumption | go_simp)
         have B3 := on B2 hb3))
    refine bodyPost_ret (v := .tuple #[.agg #[.int .i64 (r), .int .i64 m], .bool true]) ?_ rfl ⟨rfl, ?_⟩
    · rw [results_cell2 rfl]
      go_simp
    · exact (B3.setCell (p := ⟨w.heap.size + 1, 0, none⟩) (by show w.heap.size ≤ w.heap.size + 1; omega) _).setCell (p := ⟨w.heap.size + 1, 1, none⟩) (by show w.heap.size ≤ w.heap.size + 1; omega) _
  · have hr2 : r = 1 := by omega
    subst hr2
    have h2 : s1 < 1 := by omega
    clear h1
    clear hr
    go_enter Tryz.func127, Tryz.ntmps127
    go_wp2_with (first
      | (
         go_at_call 153; refine (hM _).mono ?_; rintro e w1 ⟨rfl, hb1⟩; clear hM
         have k0 := keep hb1 (b := w.heap.size) (o := 0) (x := .int .i64 s1) (by first | assumption | go_simp)
         have k1 := keep hb1 (b := w.heap.size) (o := 1) (x := .int .i64 s2) (by first | assumption | go_simp)
         have t0 := keep hb1 (b := w.heap.size + 1) (o := 0) (x := .int .i64 0) (by first | assumption | go_simp)
         have t1 := keep hb1 (b := w.heap.size + 1) (o := 1) (x := .int .i64 0) (by first | assumption | go_simp)
         have g0 := keepf hb1 (b := w.heap.size + 1) (o := 0) (by first | (simp <;> omega) | exact cell_lt' (a := ⟨w.heap.size + 1, 0, none⟩) (by assumption) | (simp; exact cell_lt' (a := ⟨w.heap.size + 1, 0, none⟩) (by assumption))) (by first | assumption | go_simp)
         have g1 := keepf hb1 (b := w.heap.size + 1) (o := 1) (by first | (simp <;> omega) | exact cell_lt' (a := ⟨w.heap.size + 1, 1, none⟩) (by assumption) | (simp; exact cell_lt' (a := ⟨w.heap.size + 1, 1, none⟩) (by assumption))) (by first | assumption | go_simp)
         have l0 : w.heap.size < w1.heap.size := cell_lt' k0
         have l1 : w.heap.size + 1 < w1.heap.size := cell_lt' t0
         have B1 := on (b0 _ _) hb1; clear hb1)
      | (
         go_at_call 86; refine (hL _).mono ?_; rintro e w2 ⟨rfl, hb2⟩; clear hL
         have t0 := keep hb2 (b := w.heap.size + 1) (o := 0) (x := .int .i64 0) (by first | assumption | go_simp)
         have t1 := keep hb2 (b := w.heap.size + 1) (o := 1) (x := .int .i64 0) (by first | assumption | go_simp)
         have n0 := keep hb2 (b := w1.heap.size) (o := 0) (x := .int .i64 1) (by first | assumption | go_simp)
         have n1 := keep hb2 (b := w1.heap.size) (o := 1) (x := .int .i64 m) (by first | assumption | go_simp)
         have g0 := keepf hb2 (b := w.heap.size + 1) (o := 0) (by first | (simp <;> omega) | exact cell_lt' (a := ⟨w.heap.size + 1, 0, none⟩) (by assumption) | (simp; exact cell_lt' (a := ⟨w.heap.size + 1, 0, none⟩) (by assumption))) (by first | assumption | go_simp)
         have g1 := keepf hb2 (b := w.heap.size + 1) (o := 1) (by first | (simp <;> omega) | exact cell_lt' (a := ⟨w.heap.size + 1, 1, none⟩) (by assumption) | (simp; exact cell_lt' (a := ⟨w.heap.size + 1, 1, none⟩) (by assumption))) (by first | assumption | go_simp)
         have f0 := keepf hb2 (b := w1.heap.size) (o := 0) (by first | (simp <;> omega) | exact cell_lt' (a := ⟨w1.heap.size, 0, none⟩) (by assumption) | (simp; exact cell_lt' (a := ⟨w1.heap.size, 0, none⟩) (by assumption))) (by first | assumption | go_simp)
         have l2 : w1.heap.size < w2.heap.size := cell_lt' n0
         have B2 := on (on B1 (al _ _)) hb2; clear hb2 B1)
      | (
         go_at_call 145; refine (hY _).mono ?_; rintro e w3 ⟨rfl, hb3⟩; clear hY
         have t0 := keep hb3 (b := w.heap.size + 1) (o := 0) (x := .int .i64 0) (by first | assumption | go_simp)
         have t1 := keep hb3 (b := w.heap.size + 1) (o := 1) (x := .int .i64 0) (by first | assumption | go_simp)
         have n0 := keep hb3 (b := w1.heap.size) (o := 0) (x := .int .i64 (1)) (by first | assumption | go_simp)
         have n1 := keep hb3 (b := w1.heap.size) (o := 1) (x := .int .i64 m) (by first | assumption | go_simp)
         have g0 := keepf hb3 (b := w.heap.size + 1) (o := 0) (by first | (simp <;> omega) | exact cell_lt' (a := ⟨w.heap.size + 1, 0, none⟩) (by assumption) | (simp; exact cell_lt' (a := ⟨w.heap.size + 1, 0, none⟩) (by assumption))) (by first | assumption | go_simp)
         have g1 := keepf hb3 (b := w.heap.size + 1) (o := 1) (by first | (simp <;> omega) | exact cell_lt' (a := ⟨w.heap.size + 1, 1, none⟩) (by assumption) | (simp; exact cell_lt' (a := ⟨w.heap.size + 1, 1, none⟩) (by assumption))) (by first | assumption | go_simp)
         have B3 := on B2 hb3))
    refine bodyPost_ret (v := .tuple #[.agg #[.int .i64 1, .int .i64 m], .bool true]) ?_ rfl ⟨rfl, ?_⟩
    · rw [results_cell2 rfl]
      go_simp
    · exact (B3.setCell (p := ⟨w.heap.size + 1, 0, none⟩) (by show w.heap.size ≤ w.heap.size + 1; omega) _).setCell (p := ⟨w.heap.size + 1, 1, none⟩) (by show w.heap.size ≤ w.heap.size + 1; omega) _

theorem next_b (s1 s2 m r : Int) (hr : r = max s1 1) (w : World) (hs : mzb (s1, s2) = true) (hl : ltb (s1, s2) (r, m) = true) (hm : mayb (r, m) = false) : Calls Tryz.prog 127 #[bt (s1, s2), .int .i64 m] w fun e w' => e = .returned (.tuple #[bt z0, .bool false]) ∧ Below w.heap.size w w' := by
  have hM := fun W => mzb_any (s1, s2) W
  rw [hs] at hM
  have hL := fun W => less_any (s1, s2) (r, m) W
  rw [hl] at hL
  have hY := fun W => may_any (r, m) W
  rw [hm] at hY
  have hbig : s1 ≤ 2147483647 := mzb_big hs
  clear hs hl hm
  dsimp only [bt, z0] at *
  have b0 : ∀ x y, Below w.heap.size w ((w.alloc x).alloc y) := fun x y => on (al _ _) (al _ _)
  by_cases h1 : 1 ≤ s1
  · have hr2 : r = s1 := by omega
    subst hr2
    have h2 : ¬ r < 1 := by omega
    clear hr
    go_enter Tryz.func127, Tryz.ntmps127
    go_wp2_with (first
      | (
         go_at_call 153; refine (hM _).mono ?_; rintro e w1 ⟨rfl, hb1⟩; clear hM
         have k0 := keep hb1 (b := w.heap.size) (o := 0) (x := .int .i64 r) (by first | assumption | go_simp)
         have k1 := keep hb1 (b := w.heap.size) (o := 1) (x := .int .i64 s2) (by first | assumption | go_simp)
         have t0 := keep hb1 (b := w.heap.size + 1) (o := 0) (x := .int .i64 0) (by first | assumption | go_simp)
         have t1 := keep hb1 (b := w.heap.size + 1) (o := 1) (x := .int .i64 0) (by first | assumption | go_simp)
         have g0 := keepf hb1 (b := w.heap.size + 1) (o := 0) (by first | (simp <;> omega) | exact cell_lt' (a := ⟨w.heap.size + 1, 0, none⟩) (by assumption) | (simp; exact cell_lt' (a := ⟨w.heap.size + 1, 0, none⟩) (by assumption))) (by first | assumption | go_simp)
         have g1 := keepf hb1 (b := w.heap.size + 1) (o := 1) (by first | (simp <;> omega) | exact cell_lt' (a := ⟨w.heap.size + 1, 1, none⟩) (by assumption) | (simp; exact cell_lt' (a := ⟨w.heap.size + 1, 1, none⟩) (by assumption))) (by first | assumption | go_simp)
         have l0 : w.heap.size < w1.heap.size := cell_lt' k0
         have l1 : w.heap.size + 1 < w1.heap.size := cell_lt' t0
         have B1 := on (b0 _ _) hb1; clear hb1)
      | (
         go_at_call 86; refine (hL _).mono ?_; rintro e w2 ⟨rfl, hb2⟩; clear hL
         have t0 := keep hb2 (b := w.heap.size + 1) (o := 0) (x := .int .i64 0) (by first | assumption | go_simp)
         have t1 := keep hb2 (b := w.heap.size + 1) (o := 1) (x := .int .i64 0) (by first | assumption | go_simp)
         have n0 := keep hb2 (b := w1.heap.size) (o := 0) (x := .int .i64 r) (by first | assumption | go_simp)
         have n1 := keep hb2 (b := w1.heap.size) (o := 1) (x := .int .i64 m) (by first | assumption | go_simp)
         have g0 := keepf hb2 (b := w.heap.size + 1) (o := 0) (by first | (simp <;> omega) | exact cell_lt' (a := ⟨w.heap.size + 1, 0, none⟩) (by assumption) | (simp; exact cell_lt' (a := ⟨w.heap.size + 1, 0, none⟩) (by assumption))) (by first | assumption | go_simp)
         have g1 := keepf hb2 (b := w.heap.size + 1) (o := 1) (by first | (simp <;> omega) | exact cell_lt' (a := ⟨w.heap.size + 1, 1, none⟩) (by assumption) | (simp; exact cell_lt' (a := ⟨w.heap.size + 1, 1, none⟩) (by assumption))) (by first | assumption | go_simp)
         have f0 := keepf hb2 (b := w1.heap.size) (o := 0) (by first | (simp <;> omega) | exact cell_lt' (a := ⟨w1.heap.size, 0, none⟩) (by assumption) | (simp; exact cell_lt' (a := ⟨w1.heap.size, 0, none⟩) (by assumption))) (by first | assumption | go_simp)
         have l2 : w1.heap.size < w2.heap.size := cell_lt' n0
         have B2 := on (on B1 (al _ _)) hb2; clear hb2 B1)
      | (
         go_at_call 145; refine (hY _).mono ?_; rintro e w3 ⟨rfl, hb3⟩; clear hY
         have t0 := keep hb3 (b := w.heap.size + 1) (o := 0) (x := .int .i64 0) (by first | assumption | go_simp)
         have t1 := keep hb3 (b := w.heap.size + 1) (o := 1) (x := .int .i64 0) (by first | assumption | go_simp)
         have n0 := keep hb3 (b := w1.heap.size) (o := 0) (x := .int .i64 (r)) (by first | assumption | go_simp)
         have n1 := keep hb3 (b := w1.heap.size) (o := 1) (x := .int .i64 m) (by first | assumption | go_simp)
         have g0 := keepf hb3 (b := w.heap.size + 1) (o := 0) (by first | (simp <;> omega) | exact cell_lt' (a := ⟨w.heap.size + 1, 0, none⟩) (by assumption) | (simp; exact cell_lt' (a := ⟨w.heap.size + 1, 0, none⟩) (by assumption))) (by first | assumption | go_simp)
         have g1 := keepf hb3 (b := w.heap.size + 1) (o := 1) (by first | (simp <;> omega) | exact cell_lt' (a := ⟨w.heap.size + 1, 1, none⟩) (by assumption) | (simp; exact cell_lt' (a := ⟨w.heap.size + 1, 1, none⟩) (by assumption))) (by first | assumption | go_simp)
         have B3 := on B2 hb3))
    refine bodyPost_ret (v := .tuple #[.agg #[.int .i64 0, .int .i64 0], .bool false]) ?_ rfl ⟨rfl, ?_⟩
    · rw [results_cell2 rfl]
      go_simp
    · exact (B3.setCell (p := ⟨w.heap.size + 1, 0, none⟩) (by show w.heap.size ≤ w.heap.size + 1; omega) _).setCell (p := ⟨w.heap.size + 1, 1, none⟩) (by show w.heap.size ≤ w.heap.size + 1; omega) _
  · have hr2 : r = 1 := by omega
    subst hr2
    have h2 : s1 < 1 := by omega
    clear h1
    clear hr
    go_enter Tryz.func127, Tryz.ntmps127
    go_wp2_with (first
      | (
         go_at_call 153; refine (hM _).mono ?_; rintro e w1 ⟨rfl, hb1⟩; clear hM
         have k0 := keep hb1 (b := w.heap.size) (o := 0) (x := .int .i64 s1) (by first | assumption | go_simp)
         have k1 := keep hb1 (b := w.heap.size) (o := 1) (x := .int .i64 s2) (by first | assumption | go_simp)
         have t0 := keep hb1 (b := w.heap.size + 1) (o := 0) (x := .int .i64 0) (by first | assumption | go_simp)
         have t1 := keep hb1 (b := w.heap.size + 1) (o := 1) (x := .int .i64 0) (by first | assumption | go_simp)
         have g0 := keepf hb1 (b := w.heap.size + 1) (o := 0) (by first | (simp <;> omega) | exact cell_lt' (a := ⟨w.heap.size + 1, 0, none⟩) (by assumption) | (simp; exact cell_lt' (a := ⟨w.heap.size + 1, 0, none⟩) (by assumption))) (by first | assumption | go_simp)
         have g1 := keepf hb1 (b := w.heap.size + 1) (o := 1) (by first | (simp <;> omega) | exact cell_lt' (a := ⟨w.heap.size + 1, 1, none⟩) (by assumption) | (simp; exact cell_lt' (a := ⟨w.heap.size + 1, 1, none⟩) (by assumption))) (by first | assumption | go_simp)
         have l0 : w.heap.size < w1.heap.size := cell_lt' k0
         have l1 : w.heap.size + 1 < w1.heap.size := cell_lt' t0
         have B1 := on (b0 _ _) hb1; clear hb1)
      | (
         go_at_call 86; refine (hL _).mono ?_; rintro e w2 ⟨rfl, hb2⟩; clear hL
         have t0 := keep hb2 (b := w.heap.size + 1) (o := 0) (x := .int .i64 0) (by first | assumption | go_simp)
         have t1 := keep hb2 (b := w.heap.size + 1) (o := 1) (x := .int .i64 0) (by first | assumption | go_simp)
         have n0 := keep hb2 (b := w1.heap.size) (o := 0) (x := .int .i64 1) (by first | assumption | go_simp)
         have n1 := keep hb2 (b := w1.heap.size) (o := 1) (x := .int .i64 m) (by first | assumption | go_simp)
         have g0 := keepf hb2 (b := w.heap.size + 1) (o := 0) (by first | (simp <;> omega) | exact cell_lt' (a := ⟨w.heap.size + 1, 0, none⟩) (by assumption) | (simp; exact cell_lt' (a := ⟨w.heap.size + 1, 0, none⟩) (by assumption))) (by first | assumption | go_simp)
         have g1 := keepf hb2 (b := w.heap.size + 1) (o := 1) (by first | (simp <;> omega) | exact cell_lt' (a := ⟨w.heap.size + 1, 1, none⟩) (by assumption) | (simp; exact cell_lt' (a := ⟨w.heap.size + 1, 1, none⟩) (by assumption))) (by first | assumption | go_simp)
         have f0 := keepf hb2 (b := w1.heap.size) (o := 0) (by first | (simp <;> omega) | exact cell_lt' (a := ⟨w1.heap.size, 0, none⟩) (by assumption) | (simp; exact cell_lt' (a := ⟨w1.heap.size, 0, none⟩) (by assumption))) (by first | assumption | go_simp)
         have l2 : w1.heap.size < w2.heap.size := cell_lt' n0
         have B2 := on (on B1 (al _ _)) hb2; clear hb2 B1)
      | (
         go_at_call 145; refine (hY _).mono ?_; rintro e w3 ⟨rfl, hb3⟩; clear hY
         have t0 := keep hb3 (b := w.heap.size + 1) (o := 0) (x := .int .i64 0) (by first | assumption | go_simp)
         have t1 := keep hb3 (b := w.heap.size + 1) (o := 1) (x := .int .i64 0) (by first | assumption | go_simp)
         have n0 := keep hb3 (b := w1.heap.size) (o := 0) (x := .int .i64 (1)) (by first | assumption | go_simp)
         have n1 := keep hb3 (b := w1.heap.size) (o := 1) (x := .int .i64 m) (by first | assumption | go_simp)
         have g0 := keepf hb3 (b := w.heap.size + 1) (o := 0) (by first | (simp <;> omega) | exact cell_lt' (a := ⟨w.heap.size + 1, 0, none⟩) (by assumption) | (simp; exact cell_lt' (a := ⟨w.heap.size + 1, 0, none⟩) (by assumption))) (by first | assumption | go_simp)
         have g1 := keepf hb3 (b := w.heap.size + 1) (o := 1) (by first | (simp <;> omega) | exact cell_lt' (a := ⟨w.heap.size + 1, 1, none⟩) (by assumption) | (simp; exact cell_lt' (a := ⟨w.heap.size + 1, 1, none⟩) (by assumption))) (by first | assumption | go_simp)
         have B3 := on B2 hb3))
    refine bodyPost_ret (v := .tuple #[.agg #[.int .i64 0, .int .i64 0], .bool false]) ?_ rfl ⟨rfl, ?_⟩
    · rw [results_cell2 rfl]
      go_simp
    · exact (B3.setCell (p := ⟨w.heap.size + 1, 0, none⟩) (by show w.heap.size ≤ w.heap.size + 1; omega) _).setCell (p := ⟨w.heap.size + 1, 1, none⟩) (by show w.heap.size ≤ w.heap.size + 1; omega) _

theorem next_c (s1 s2 m r : Int) (hr : r = max s1 1) (w : World) (hs : mzb (s1, s2) = true) (hl : ltb (s1, s2) (r, m) = false) (hm : mayb (r + 1, m) = true) : Calls Tryz.prog 127 #[bt (s1, s2), .int .i64 m] w fun e w' => e = .returned (.tuple #[bt (r + 1, m), .bool true]) ∧ Below w.heap.size w w' := by
  have hM := fun W => mzb_any (s1, s2) W
  rw [hs] at hM
  have hL := fun W => less_any (s1, s2) (r, m) W
  rw [hl] at hL
  have hY := fun W => may_any (r + 1, m) W
  rw [hm] at hY
  have hbig : s1 ≤ 2147483647 := mzb_big hs
  clear hs hl hm
  dsimp only [bt, z0] at *
  have b0 : ∀ x y, Below w.heap.size w ((w.alloc x).alloc y) := fun x y => on (al _ _) (al _ _)
  by_cases h1 : 1 ≤ s1
  · have hr2 : r = s1 := by omega
    subst hr2
    have h2 : ¬ r < 1 := by omega
    clear hr
    go_enter Tryz.func127, Tryz.ntmps127
    go_wp2_with (first
      | (
         go_at_call 153; refine (hM _).mono ?_; rintro e w1 ⟨rfl, hb1⟩; clear hM
         have k0 := keep hb1 (b := w.heap.size) (o := 0) (x := .int .i64 r) (by first | assumption | go_simp)
         have k1 := keep hb1 (b := w.heap.size) (o := 1) (x := .int .i64 s2) (by first | assumption | go_simp)
         have t0 := keep hb1 (b := w.heap.size + 1) (o := 0) (x := .int .i64 0) (by first | assumption | go_simp)
         have t1 := keep hb1 (b := w.heap.size + 1) (o := 1) (x := .int .i64 0) (by first | assumption | go_simp)
         have g0 := keepf hb1 (b := w.heap.size + 1) (o := 0) (by first | (simp <;> omega) | exact cell_lt' (a := ⟨w.heap.size + 1, 0, none⟩) (by assumption) | (simp; exact cell_lt' (a := ⟨w.heap.size + 1, 0, none⟩) (by assumption))) (by first | assumption | go_simp)
         have g1 := keepf hb1 (b := w.heap.size + 1) (o := 1) (by first | (simp <;> omega) | exact cell_lt' (a := ⟨w.heap.size + 1, 1, none⟩) (by assumption) | (simp; exact cell_lt' (a := ⟨w.heap.size + 1, 1, none⟩) (by assumption))) (by first | assumption | go_simp)
         have l0 : w.heap.size < w1.heap.size := cell_lt' k0
         have l1 : w.heap.size + 1 < w1.heap.size := cell_lt' t0
         have B1 := on (b0 _ _) hb1; clear hb1)
      | (
         go_at_call 86; refine (hL _).mono ?_; rintro e w2 ⟨rfl, hb2⟩; clear hL
         have t0 := keep hb2 (b := w.heap.size + 1) (o := 0) (x := .int .i64 0) (by first | assumption | go_simp)
         have t1 := keep hb2 (b := w.heap.size + 1) (o := 1) (x := .int .i64 0) (by first | assumption | go_simp)
         have n0 := keep hb2 (b := w1.heap.size) (o := 0) (x := .int .i64 r) (by first | assumption | go_simp)
         have n1 := keep hb2 (b := w1.heap.size) (o := 1) (x := .int .i64 m) (by first | assumption | go_simp)
         have g0 := keepf hb2 (b := w.heap.size + 1) (o := 0) (by first | (simp <;> omega) | exact cell_lt' (a := ⟨w.heap.size + 1, 0, none⟩) (by assumption) | (simp; exact cell_lt' (a := ⟨w.heap.size + 1, 0, none⟩) (by assumption))) (by first | assumption | go_simp)
         have g1 := keepf hb2 (b := w.heap.size + 1) (o := 1) (by first | (simp <;> omega) | exact cell_lt' (a := ⟨w.heap.size + 1, 1, none⟩) (by assumption) | (simp; exact cell_lt' (a := ⟨w.heap.size + 1, 1, none⟩) (by assumption))) (by first | assumption | go_simp)
         have f0 := keepf hb2 (b := w1.heap.size) (o := 0) (by first | (simp <;> omega) | exact cell_lt' (a := ⟨w1.heap.size, 0, none⟩) (by assumption) | (simp; exact cell_lt' (a := ⟨w1.heap.size, 0, none⟩) (by assumption))) (by first | assumption | go_simp)
         have l2 : w1.heap.size < w2.heap.size := cell_lt' n0
         have B2 := on (on B1 (al _ _)) hb2; clear hb2 B1)
      | (
         go_at_call 145; refine (hY _).mono ?_; rintro e w3 ⟨rfl, hb3⟩; clear hY
         have t0 := keep hb3 (b := w.heap.size + 1) (o := 0) (x := .int .i64 0) (by first | assumption | go_simp)
         have t1 := keep hb3 (b := w.heap.size + 1) (o := 1) (x := .int .i64 0) (by first | assumption | go_simp)
         have n0 := keep hb3 (b := w1.heap.size) (o := 0) (x := .int .i64 (r + 1)) (by first | assumption | go_simp)
         have n1 := keep hb3 (b := w1.heap.size) (o := 1) (x := .int .i64 m) (by first | assumption | go_simp)
         have g0 := keepf hb3 (b := w.heap.size + 1) (o := 0) (by first | (simp <;> omega) | exact cell_lt' (a := ⟨w.heap.size + 1, 0, none⟩) (by assumption) | (simp; exact cell_lt' (a := ⟨w.heap.size + 1, 0, none⟩) (by assumption))) (by first | assumption | go_simp)
         have g1 := keepf hb3 (b := w.heap.size + 1) (o := 1) (by first | (simp <;> omega) | exact cell_lt' (a := ⟨w.heap.size + 1, 1, none⟩) (by assumption) | (simp; exact cell_lt' (a := ⟨w.heap.size + 1, 1, none⟩) (by assumption))) (by first | assumption | go_simp)
         have B3 := on (B2.setCell (p := ⟨w1.heap.size, 0, none⟩) (by show w.heap.size ≤ w1.heap.size; omega) _) hb3))
    refine bodyPost_ret (v := .tuple #[.agg #[.int .i64 (r + 1), .int .i64 m], .bool true]) ?_ rfl ⟨rfl, ?_⟩
    · rw [results_cell2 rfl]
      go_simp
    · exact (B3.setCell (p := ⟨w.heap.size + 1, 0, none⟩) (by show w.heap.size ≤ w.heap.size + 1; omega) _).setCell (p := ⟨w.heap.size + 1, 1, none⟩) (by show w.heap.size ≤ w.heap.size + 1; omega) _
  · have hr2 : r = 1 := by omega
    subst hr2
    have h2 : s1 < 1 := by omega
    clear h1
    clear hr
    go_enter Tryz.func127, Tryz.ntmps127
    go_wp2_with (first
      | (
         go_at_call 153; refine (hM _).mono ?_; rintro e w1 ⟨rfl, hb1⟩; clear hM
         have k0 := keep hb1 (b := w.heap.size) (o := 0) (x := .int .i64 s1) (by first | assumption | go_simp)
         have k1 := keep hb1 (b := w.heap.size) (o := 1) (x := .int .i64 s2) (by first | assumption | go_simp)
         have t0 := keep hb1 (b := w.heap.size + 1) (o := 0) (x := .int .i64 0) (by first | assumption | go_simp)
         have t1 := keep hb1 (b := w.heap.size + 1) (o := 1) (x := .int .i64 0) (by first | assumption | go_simp)
         have g0 := keepf hb1 (b := w.heap.size + 1) (o := 0) (by first | (simp <;> omega) | exact cell_lt' (a := ⟨w.heap.size + 1, 0, none⟩) (by assumption) | (simp; exact cell_lt' (a := ⟨w.heap.size + 1, 0, none⟩) (by assumption))) (by first | assumption | go_simp)
         have g1 := keepf hb1 (b := w.heap.size + 1) (o := 1) (by first | (simp <;> omega) | exact cell_lt' (a := ⟨w.heap.size + 1, 1, none⟩) (by assumption) | (simp; exact cell_lt' (a := ⟨w.heap.size + 1, 1, none⟩) (by assumption))) (by first | assumption | go_simp)
         have l0 : w.heap.size < w1.heap.size := cell_lt' k0
         have l1 : w.heap.size + 1 < w1.heap.size := cell_lt' t0
         have B1 := on (b0 _ _) hb1; clear hb1)
      | (
         go_at_call 86; refine (hL _).mono ?_; rintro e w2 ⟨rfl, hb2⟩; clear hL
         have t0 := keep hb2 (b := w.heap.size + 1) (o := 0) (x := .int .i64 0) (by first | assumption | go_simp)
         have t1 := keep hb2 (b := w.heap.size + 1) (o := 1) (x := .int .i64 0) (by first | assumption | go_simp)
         have n0 := keep hb2 (b := w1.heap.size) (o := 0) (x := .int .i64 1) (by first | assumption | go_simp)
         have n1 := keep hb2 (b := w1.heap.size) (o := 1) (x := .int .i64 m) (by first | assumption | go_simp)
         have g0 := keepf hb2 (b := w.heap.size + 1) (o := 0) (by first | (simp <;> omega) | exact cell_lt' (a := ⟨w.heap.size + 1, 0, none⟩) (by assumption) | (simp; exact cell_lt' (a := ⟨w.heap.size + 1, 0, none⟩) (by assumption))) (by first | assumption | go_simp)
         have g1 := keepf hb2 (b := w.heap.size + 1) (o := 1) (by first | (simp <;> omega) | exact cell_lt' (a := ⟨w.heap.size + 1, 1, none⟩) (by assumption) | (simp; exact cell_lt' (a := ⟨w.heap.size + 1, 1, none⟩) (by assumption))) (by first | assumption | go_simp)
         have f0 := keepf hb2 (b := w1.heap.size) (o := 0) (by first | (simp <;> omega) | exact cell_lt' (a := ⟨w1.heap.size, 0, none⟩) (by assumption) | (simp; exact cell_lt' (a := ⟨w1.heap.size, 0, none⟩) (by assumption))) (by first | assumption | go_simp)
         have l2 : w1.heap.size < w2.heap.size := cell_lt' n0
         have B2 := on (on B1 (al _ _)) hb2; clear hb2 B1)
      | (
         go_at_call 145; refine (hY _).mono ?_; rintro e w3 ⟨rfl, hb3⟩; clear hY
         have t0 := keep hb3 (b := w.heap.size + 1) (o := 0) (x := .int .i64 0) (by first | assumption | go_simp)
         have t1 := keep hb3 (b := w.heap.size + 1) (o := 1) (x := .int .i64 0) (by first | assumption | go_simp)
         have n0 := keep hb3 (b := w1.heap.size) (o := 0) (x := .int .i64 (2)) (by first | assumption | go_simp)
         have n1 := keep hb3 (b := w1.heap.size) (o := 1) (x := .int .i64 m) (by first | assumption | go_simp)
         have g0 := keepf hb3 (b := w.heap.size + 1) (o := 0) (by first | (simp <;> omega) | exact cell_lt' (a := ⟨w.heap.size + 1, 0, none⟩) (by assumption) | (simp; exact cell_lt' (a := ⟨w.heap.size + 1, 0, none⟩) (by assumption))) (by first | assumption | go_simp)
         have g1 := keepf hb3 (b := w.heap.size + 1) (o := 1) (by first | (simp <;> omega) | exact cell_lt' (a := ⟨w.heap.size + 1, 1, none⟩) (by assumption) | (simp; exact cell_lt' (a := ⟨w.heap.size + 1, 1, none⟩) (by assumption))) (by first | assumption | go_simp)
         have B3 := on (B2.setCell (p := ⟨w1.heap.size, 0, none⟩) (by show w.heap.size ≤ w1.heap.size; omega) _) hb3))
    refine bodyPost_ret (v := .tuple #[.agg #[.int .i64 2, .int .i64 m], .bool true]) ?_ rfl ⟨rfl, ?_⟩
    · rw [results_cell2 rfl]
      go_simp
    · exact (B3.setCell (p := ⟨w.heap.size + 1, 0, none⟩) (by show w.heap.size ≤ w.heap.size + 1; omega) _).setCell (p := ⟨w.heap.size + 1, 1, none⟩) (by show w.heap.size ≤ w.heap.size + 1; omega) _

theorem next_d (s1 s2 m r : Int) (hr : r = max s1 1) (w : World) (hs : mzb (s1, s2) = true) (hl : ltb (s1, s2) (r, m) = false) (hm : mayb (r + 1, m) = false) : Calls Tryz.prog 127 #[bt (s1, s2), .int .i64 m] w fun e w' => e = .returned (.tuple #[bt z0, .bool false]) ∧ Below w.heap.size w w' := by
  have hM := fun W => mzb_any (s1, s2) W
  rw [hs] at hM
  have hL := fun W => less_any (s1, s2) (r, m) W
  rw [hl] at hL
  have hY := fun W => may_any (r + 1, m) W
  rw [hm] at hY
  have hbig : s1 ≤ 2147483647 := mzb_big hs
  clear hs hl hm
  dsimp only [bt, z0] at *
  have b0 : ∀ x y, Below w.heap.size w ((w.alloc x).alloc y) := fun x y => on (al _ _) (al _ _)
  by_cases h1 : 1 ≤ s1
  · have hr2 : r = s1 := by omega
    subst hr2
    have h2 : ¬ r < 1 := by omega
    clear hr
    go_enter Tryz.func127, Tryz.ntmps127
    go_wp2_with (first
      | (
         go_at_call 153; refine (hM _).mono ?_; rintro e w1 ⟨rfl, hb1⟩; clear hM
         have k0 := keep hb1 (b := w.heap.size) (o := 0) (x := .int .i64 r) (by first | assumption | go_simp)
         have k1 := keep hb1 (b := w.heap.size) (o := 1) (x := .int .i64 s2) (by first | assumption | go_simp)
         have t0 := keep hb1 (b := w.heap.size + 1) (o := 0) (x := .int .i64 0) (by first | assumption | go_simp)
         have t1 := keep hb1 (b := w.heap.size + 1) (o := 1) (x := .int .i64 0) (by first | assumption | go_simp)
         have g0 := keepf hb1 (b := w.heap.size + 1) (o := 0) (by first | (simp <;> omega) | exact cell_lt' (a := ⟨w.heap.size + 1, 0, none⟩) (by assumption) | (simp; exact cell_lt' (a := ⟨w.heap.size + 1, 0, none⟩) (by assumption))) (by first | assumption | go_simp)
         have g1 := keepf hb1 (b := w.heap.size + 1) (o := 1) (by first | (simp <;> omega) | exact cell_lt' (a := ⟨w.heap.size + 1, 1, none⟩) (by assumption) | (simp; exact cell_lt' (a := ⟨w.heap.size + 1, 1, none⟩) (by assumption))) (by first | assumption | go_simp)
         have l0 : w.heap.size < w1.heap.size := cell_lt' k0
         have l1 : w.heap.size + 1 < w1.heap.size := cell_lt' t0
         have B1 := on (b0 _ _) hb1; clear hb1)
      | (
         go_at_call 86; refine (hL _).mono ?_; rintro e w2 ⟨rfl, hb2⟩; clear hL
         have t0 := keep hb2 (b := w.heap.size + 1) (o := 0) (x := .int .i64 0) (by first | assumption | go_simp)
         have t1 := keep hb2 (b := w.heap.size + 1) (o := 1) (x := .int .i64 0) (by first | assumption | go_simp)
         have n0 := keep hb2 (b := w1.heap.size) (o := 0) (x := .int .i64 r) (by first | assumption | go_simp)
         have n1 := keep hb2 (b := w1.heap.size) (o := 1) (x := .int .i64 m) (by first | assumption | go_simp)
         have g0 := keepf hb2 (b := w.heap.size + 1) (o := 0) (by first | (simp <;> omega) | exact cell_lt' (a := ⟨w.heap.size + 1, 0, none⟩) (by assumption) | (simp; exact cell_lt' (a := ⟨w.heap.size + 1, 0, none⟩) (by assumption))) (by first | assumption | go_simp)
         have g1 := keepf hb2 (b := w.heap.size + 1) (o := 1) (by first | (simp <;> omega) | exact cell_lt' (a := ⟨w.heap.size + 1, 1, none⟩) (by assumption) | (simp; exact cell_lt' (a := ⟨w.heap.size + 1, 1, none⟩) (by assumption))) (by first | assumption | go_simp)
         have f0 := keepf hb2 (b := w1.heap.size) (o := 0) (by first | (simp <;> omega) | exact cell_lt' (a := ⟨w1.heap.size, 0, none⟩) (by assumption) | (simp; exact cell_lt' (a := ⟨w1.heap.size, 0, none⟩) (by assumption))) (by first | assumption | go_simp)
         have l2 : w1.heap.size < w2.heap.size := cell_lt' n0
         have B2 := on (on B1 (al _ _)) hb2; clear hb2 B1)
      | (
         go_at_call 145; refine (hY _).mono ?_; rintro e w3 ⟨rfl, hb3⟩; clear hY
         have t0 := keep hb3 (b := w.heap.size + 1) (o := 0) (x := .int .i64 0) (by first | assumption | go_simp)
         have t1 := keep hb3 (b := w.heap.size + 1) (o := 1) (x := .int .i64 0) (by first | assumption | go_simp)
         have n0 := keep hb3 (b := w1.heap.size) (o := 0) (x := .int .i64 (r + 1)) (by first | assumption | go_simp)
         have n1 := keep hb3 (b := w1.heap.size) (o := 1) (x := .int .i64 m) (by first | assumption | go_simp)
         have g0 := keepf hb3 (b := w.heap.size + 1) (o := 0) (by first | (simp <;> omega) | exact cell_lt' (a := ⟨w.heap.size + 1, 0, none⟩) (by assumption) | (simp; exact cell_lt' (a := ⟨w.heap.size + 1, 0, none⟩) (by assumption))) (by first | assumption | go_simp)
         have g1 := keepf hb3 (b := w.heap.size + 1) (o := 1) (by first | (simp <;> omega) | exact cell_lt' (a := ⟨w.heap.size + 1, 1, none⟩) (by assumption) | (simp; exact cell_lt' (a := ⟨w.heap.size + 1, 1, none⟩) (by assumption))) (by first | assumption | go_simp)
         have B3 := on (B2.setCell (p := ⟨w1.heap.size, 0, none⟩) (by show w.heap.size ≤ w1.heap.size; omega) _) hb3))
    refine bodyPost_ret (v := .tuple #[.agg #[.int .i64 0, .int .i64 0], .bool false]) ?_ rfl ⟨rfl, ?_⟩
    · rw [results_cell2 rfl]
      go_simp
    · exact (B3.setCell (p := ⟨w.heap.size + 1, 0, none⟩) (by show w.heap.size ≤ w.heap.size + 1; omega) _).setCell (p := ⟨w.heap.size + 1, 1, none⟩) (by show w.heap.size ≤ w.heap.size + 1; omega) _
  · have hr2 : r = 1 := by omega
    subst hr2
    have h2 : s1 < 1 := by omega
    clear h1
    clear hr
    go_enter Tryz.func127, Tryz.ntmps127
    go_wp2_with (first
      | (
         go_at_call 153; refine (hM _).mono ?_; rintro e w1 ⟨rfl, hb1⟩; clear hM
         have k0 := keep hb1 (b := w.heap.size) (o := 0) (x := .int .i64 s1) (by first | assumption | go_simp)
         have k1 := keep hb1 (b := w.heap.size) (o := 1) (x := .int .i64 s2) (by first | assumption | go_simp)
         have t0 := keep hb1 (b := w.heap.size + 1) (o := 0) (x := .int .i64 0) (by first | assumption | go_simp)
         have t1 := keep hb1 (b := w.heap.size + 1) (o := 1) (x := .int .i64 0) (by first | assumption | go_simp)
         have g0 := keepf hb1 (b := w.heap.size + 1) (o := 0) (by first | (simp <;> omega) | exact cell_lt' (a := ⟨w.heap.size + 1, 0, none⟩) (by assumption) | (simp; exact cell_lt' (a := ⟨w.heap.size + 1, 0, none⟩) (by assumption))) (by first | assumption | go_simp)
         have g1 := keepf hb1 (b := w.heap.size + 1) (o := 1) (by first | (simp <;> omega) | exact cell_lt' (a := ⟨w.heap.size + 1, 1, none⟩) (by assumption) | (simp; exact cell_lt' (a := ⟨w.heap.size + 1, 1, none⟩) (by assumption))) (by first | assumption | go_simp)
         have l0 : w.heap.size < w1.heap.size := cell_lt' k0
         have l1 : w.heap.size + 1 < w1.heap.size := cell_lt' t0
         have B1 := on (b0 _ _) hb1; clear hb1)
      | (
         go_at_call 86; refine (hL _).mono ?_; rintro e w2 ⟨rfl, hb2⟩; clear hL
         have t0 := keep hb2 (b := w.heap.size + 1) (o := 0) (x := .int .i64 0) (by first | assumption | go_simp)
         have t1 := keep hb2 (b := w.heap.size + 1) (o := 1) (x := .int .i64 0) (by first | assumption | go_simp)
         have n0 := keep hb2 (b := w1.heap.size) (o := 0) (x := .int .i64 1) (by first | assumption | go_simp)
         have n1 := keep hb2 (b := w1.heap.size) (o := 1) (x := .int .i64 m) (by first | assumption | go_simp)
         have g0 := keepf hb2 (b := w.heap.size + 1) (o := 0) (by first | (simp <;> omega) | exact cell_lt' (a := ⟨w.heap.size + 1, 0, none⟩) (by assumption) | (simp; exact cell_lt' (a := ⟨w.heap.size + 1, 0, none⟩) (by assumption))) (by first | assumption | go_simp)
         have g1 := keepf hb2 (b := w.heap.size + 1) (o := 1) (by first | (simp <;> omega) | exact cell_lt' (a := ⟨w.heap.size + 1, 1, none⟩) (by assumption) | (simp; exact cell_lt' (a := ⟨w.heap.size + 1, 1, none⟩) (by assumption))) (by first | assumption | go_simp)
         have f0 := keepf hb2 (b := w1.heap.size) (o := 0) (by first | (simp <;> omega) | exact cell_lt' (a := ⟨w1.heap.size, 0, none⟩) (by assumption) | (simp; exact cell_lt' (a := ⟨w1.heap.size, 0, none⟩) (by assumption))) (by first | assumption | go_simp)
         have l2 : w1.heap.size < w2.heap.size := cell_lt' n0
         have B2 := on (on B1 (al _ _)) hb2; clear hb2 B1)
      | (
         go_at_call 145; refine (hY _).mono ?_; rintro e w3 ⟨rfl, hb3⟩; clear hY
         have t0 := keep hb3 (b := w.heap.size + 1) (o := 0) (x := .int .i64 0) (by first | assumption | go_simp)
         have t1 := keep hb3 (b := w.heap.size + 1) (o := 1) (x := .int .i64 0) (by first | assumption | go_simp)
         have n0 := keep hb3 (b := w1.heap.size) (o := 0) (x := .int .i64 (2)) (by first | assumption | go_simp)
         have n1 := keep hb3 (b := w1.heap.size) (o := 1) (x := .int .i64 m) (by first | assumption | go_simp)
         have g0 := keepf hb3 (b := w.heap.size + 1) (o := 0) (by first | (simp <;> omega) | exact cell_lt' (a := ⟨w.heap.size + 1, 0, none⟩) (by assumption) | (simp; exact cell_lt' (a := ⟨w.heap.size + 1, 0, none⟩) (by assumption))) (by first | assumption | go_simp)
         have g1 := keepf hb3 (b := w.heap.size + 1) (o := 1) (by first | (simp <;> omega) | exact cell_lt' (a := ⟨w.heap.size + 1, 1, none⟩) (by assumption) | (simp; exact cell_lt' (a := ⟨w.heap.size + 1, 1, none⟩) (by assumption))) (by first | assumption | go_simp)
         have B3 := on (B2.setCell (p := ⟨w1.heap.size, 0, none⟩) (by show w.heap.size ≤ w1.heap.size; omega) _) hb3))
    refine bodyPost_ret (v := .tuple #[.agg #[.int .i64 0, .int .i64 0], .bool false]) ?_ rfl ⟨rfl, ?_⟩
    · rw [results_cell2 rfl]
      go_simp
    · exact (B3.setCell (p := ⟨w.heap.size + 1, 0, none⟩) (by show w.heap.size ≤ w.heap.size + 1; omega) _).setCell (p := ⟨w.heap.size + 1, 1, none⟩) (by show w.heap.size ≤ w.heap.size + 1; omega) _


def nx (s : Bt) (m : Int) : Bt × Bool :=
  if mzb s = true then (if mayb (if ltb s (max s.1 1, m) = true then (max s.1 1, m) else (max s.1 1 + 1, m)) = true then ((if ltb s (max s.1 1, m) = true then (max s.1 1, m) else (max s.1 1 + 1, m)), true) else (z0, false)) else (z0, false)

theorem next_any (s : Bt) (m : Int) (w : World) : Calls Tryz.prog 127 #[bt s, .int .i64 m] w fun e w' => e = .returned (.tuple #[bt (nx s m).1, .bool (nx s m).2]) ∧ Below w.heap.size w w' := by
  unfold nx
  cases hs : mzb s with
  | false => simpa using next_no0 s m w hs
  | true =>
    obtain ⟨s1, s2⟩ := s
    dsimp only
    cases hl : ltb (s1, s2) (max s1 1, m) with
    | true =>
      cases hm : mayb (max s1 1, m) with
      | true => simpa [hm] using next_a s1 s2 m _ rfl w hs hl hm
      | false => simpa [hm] using next_b s1 s2 m _ rfl w hs hl hm
    | false =>
      cases hm : mayb (max s1 1 + 1, m) with
      | true => simpa [hm] using next_c s1 s2 m _ rfl w hs hl hm
      | false => simpa [hm] using next_d s1 s2 m _ rfl w hs hl hm

end Go.Proofs.YtdlajpjigddbhaaGreat.Ba
