/-
  2 texts of this proof, one behind the other: BaNext, BaAccept.
-/
import Derived.Test.YtfgfjfemaniaiaaJ03
import Derived.Test.YtfgfjfemaniaiaaJ01
/-
  The next ballot, by the program and by the document.
  Conditions: none.
-/
namespace Go.Proofs.Ytfgfjfemaniaiaa.Ba
open Go.RowKit By Fl
set_option linter.unusedVariables false
set_option linter.unusedSimpArgs false
set_option maxRecDepth 100000

theorem al (w : World) (o : Obj) : Below w.heap.size w (w.alloc o) := (Below.refl _ w).alloc (Nat.le_refl _) _

theorem next_no0 (s : Bt) (m : Int) (w : World) (hs : mzb s = false) : Calls Try.prog 77 #[bt s, .int .i64 m] w fun e w' => e = .returned (.tuple #[bt z0, .bool false]) ∧ Below w.heap.size w w' := by
  have hM := fun W => mzb_any s W
  rw [hs] at hM
  clear hs
  obtain ⟨s1, s2⟩ := s
  unfold bt z0 at *
  dsimp only at *
  have b0 : ∀ x y, Below w.heap.size w ((w.alloc x).alloc y) := fun x y => on (al _ _) (al _ _)
  go_enter Try.func77, Try.ntmps77
  go_wp2_with (first
    | (
       go_at_call 93; refine (hM _).mono ?_; rintro e w1 ⟨rfl, hb1⟩; clear hM
       have r0 := keep hb1 (b := w.heap.size + 1) (o := 0) (x := .int .i64 0) (by first | assumption | go_simp)
       have r1 := keep hb1 (b := w.heap.size + 1) (o := 1) (x := .int .i64 0) (by first | assumption | go_simp)
       have g0 := keepf hb1 (b := w.heap.size + 1) (o := 0) (by first | (simp <;> omega) | exact cell_lt' (a := ⟨w.heap.size + 1, 0, none⟩) (by assumption) | (simp; exact cell_lt' (a := ⟨w.heap.size + 1, 0, none⟩) (by assumption))) (by first | assumption | go_simp)
       have g1 := keepf hb1 (b := w.heap.size + 1) (o := 1) (by first | (simp <;> omega) | exact cell_lt' (a := ⟨w.heap.size + 1, 1, none⟩) (by assumption) | (simp; exact cell_lt' (a := ⟨w.heap.size + 1, 1, none⟩) (by assumption))) (by first | assumption | go_simp)
       have B1 := on (b0 _ _) hb1; clear hb1))
  refine bodyPost_ret (v := .tuple #[.agg #[.int .i64 0, .int .i64 0], .bool false]) ?_ rfl ⟨rfl, ?_⟩
  · rw [results_cell2 rfl]
    go_simp
  · exact (B1.setCell (p := ⟨w.heap.size + 1, 0, none⟩) (by show w.heap.size ≤ w.heap.size + 1; omega) _).setCell (p := ⟨w.heap.size + 1, 1, none⟩) (by show w.heap.size ≤ w.heap.size + 1; omega) _

theorem next_go : True := trivial

theorem mzb_big {s1 s2 : Int} (h : mzb (s1, s2) = true) : s1 ≤ 2147483647 := by
  unfold mzb zb mayb at h
  simp at h
  omega

theorem next_a (s1 s2 m r : Int) (hr : r = max s1 1) (w : World) (hs : mzb (s1, s2) = true) (hl : ltb (s1, s2) (r, m) = true) (hm : mayb (r, m) = true) : Calls Try.prog 77 #[bt (s1, s2), .int .i64 m] w fun e w' => e = .returned (.tuple #[bt (r, m), .bool true]) ∧ Below w.heap.size w w' := by
  have hM := fun W => mzb_any (s1, s2) W
  rw [hs] at hM
  have hL := fun W => less_any (s1, s2) (r, m) W
  rw [hl] at hL
  have hY := fun W => may_any (r, m) W
  rw [hm] at hY
  have hbig : s1 ≤ 2147483647 := mzb_big hs
  clear hs hl hm
  dsimp only [bt, z0] at *
  have b0 : ∀ x y, Below w.heap.size w ((w.alloc x).alloc y) := fun x y => on (al _ _) (al _ _)
  by_cases h1 : 1 ≤ s1
  · have hr2 : r = s1 := by omega
    subst hr2
    have h2 : ¬ r < 1 := by omega
    clear hr
    go_enter Try.func77, Try.ntmps77
    go_wp2_with (first
      | (
         go_at_call 93; refine (hM _).mono ?_; rintro e w1 ⟨rfl, hb1⟩; clear hM
         have k0 := keep hb1 (b := w.heap.size) (o := 0) (x := .int .i64 r) (by first | assumption | go_simp)
         have k1 := keep hb1 (b := w.heap.size) (o := 1) (x := .int .i64 s2) (by first | assumption | go_simp)
         have t0 := keep hb1 (b := w.heap.size + 1) (o := 0) (x := .int .i64 0) (by first | assumption | go_simp)
         have t1 := keep hb1 (b := w.heap.size + 1) (o := 1) (x := .int .i64 0) (by first | assumption | go_simp)
         have g0 := keepf hb1 (b := w.heap.size + 1) (o := 0) (by first | (simp <;> omega) | exact cell_lt' (a := ⟨w.heap.size + 1, 0, none⟩) (by assumption) | (simp; exact cell_lt' (a := ⟨w.heap.size + 1, 0, none⟩) (by assumption))) (by first | assumption | go_simp)
         have g1 := keepf hb1 (b := w.heap.size + 1) (o := 1) (by first | (simp <;> omega) | exact cell_lt' (a := ⟨w.heap.size + 1, 1, none⟩) (by assumption) | (simp; exact cell_lt' (a := ⟨w.heap.size + 1, 1, none⟩) (by assumption))) (by first | assumption | go_simp)
         have l0 : w.heap.size < w1.heap.size := cell_lt' k0
         have l1 : w.heap.size + 1 < w1.heap.size := cell_lt' t0
         have B1 := on (b0 _ _) hb1; clear hb1)
      | (
         go_at_call 51; refine (hL _).mono ?_; rintro e w2 ⟨rfl, hb2⟩; clear hL
         have t0 := keep hb2 (b := w.heap.size + 1) (o := 0) (x := .int .i64 0) (by first | assumption | go_simp)
         have t1 := keep hb2 (b := w.heap.size + 1) (o := 1) (x := .int .i64 0) (by first | assumption | go_simp)
         have n0 := keep hb2 (b := w1.heap.size) (o := 0) (x := .int .i64 r) (by first | assumption | go_simp)
         have n1 := keep hb2 (b := w1.heap.size) (o := 1) (x := .int .i64 m) (by first | assumption | go_simp)
         have g0 := keepf hb2 (b := w.heap.size + 1) (o := 0) (by first | (simp <;> omega) | exact cell_lt' (a := ⟨w.heap.size + 1, 0, none⟩) (by assumption) | (simp; exact cell_lt' (a := ⟨w.heap.size + 1, 0, none⟩) (by assumption))) (by first | assumption | go_simp)
         have g1 := keepf hb2 (b := w.heap.size + 1) (o := 1) (by first | (simp <;> omega) | exact cell_lt' (a := ⟨w.heap.size + 1, 1, none⟩) (by assumption) | (simp; exact cell_lt' (a := ⟨w.heap.size + 1, 1, none⟩) (by assumption))) (by first | assumption | go_simp)
         have f0 := keepf hb2 (b := w1.heap.size) (o := 0) (by first | (simp <;> omega) | exact cell_lt' (a := ⟨w1.heap.size, 0, none⟩) (by assumption) | (simp; exact cell_lt' (a := ⟨w1.heap.size, 0, none⟩) (by assumption))) (by first | assumption | go_simp)
         have l2 : w1.heap.size < w2.heap.size := cell_lt' n0
         have B2 := on (on B1 (al _ _)) hb2; clear hb2 B1)
      | (
         go_at_call 84; refine (hY _).mono ?_; rintro e w3 ⟨rfl, hb3⟩; clear hY
         have t0 := keep hb3 (b := w.heap.size + 1) (o := 0) (x := .int .i64 0) (by first | assumption | go_simp)
         have t1 := keep hb3 (b := w.heap.size + 1) (o := 1) (x := .int .i64 0) (by first | assumption | go_simp)
         have n0 := keep hb3 (b := w1.heap.size) (o := 0) (x := .int .i64 (r)) (by first | assumption | go_simp)
         have n1 := keep hb3 (b := w1.heap.size) (o := 1) (x := .int .i64 m) (by first | assumption | go_simp)
         have g0 := keepf hb3 (b := w.heap.size + 1) (o := 0) (by first | (simp <;> omega) | exact cell_lt' (a := ⟨w.heap.size + 1, 0, none⟩) (by assumption) | (simp; exact cell_lt' (a := ⟨w.heap.size + 1, 0, none⟩) (by assumption))) (by first | assumption | go_simp)
         have g1 := keepf hb3 (b := w.heap.size + 1) (o := 1) (by first | (simp <;> omega) | exact cell_lt' (a := ⟨w.heap.size + 1, 1, none⟩) (by assumption) | (simp; exact cell_lt' (a := ⟨w.heap.size + 1, 1, none⟩) (by assumption))) (by first | assumption | go_simp)
         have B3 := on B2 hb3))
    refine bodyPost_ret (v := .tuple #[.agg #[.int .i64 (r), .int .i64 m], .bool true]) ?_ rfl ⟨rfl, ?_⟩
    · rw [results_cell2 rfl]
      go_simp
    · exact (B3.setCell (p := ⟨w.heap.size + 1, 0, none⟩) (by show w.heap.size ≤ w.heap.size + 1; omega) _).setCell (p := ⟨w.heap.size + 1, 1, none⟩) (by show w.heap.size ≤ w.heap.size + 1; omega) _
  · have hr2 : r = 1 := by omega
    subst hr2
    have h2 : s1 < 1 := by omega
    clear h1
    clear hr
    go_enter Try.func77, Try.ntmps77
    go_wp2_with (first
      | (
         go_at_call 93; refine (hM _).mono ?_; rintro e w1 ⟨rfl, hb1⟩; clear hM
         have k0 := keep hb1 (b := w.heap.size) (o := 0) (x := .int .i64 s1) (by first | assumption | go_simp)
         have k1 := keep hb1 (b := w.heap.size) (o := 1) (x := .int .i64 s2) (by first | assumption | go_simp)
         have t0 := keep hb1 (b := w.heap.size + 1) (o := 0) (x := .int .i64 0) (by first | assumption | go_simp)
         have t1 := keep hb1 (b := w.heap.size + 1) (o := 1) (x := .int .i64 0) (by first | assumption | go_simp)
         have g0 := keepf hb1 (b := w.heap.size + 1) (o := 0) (by first | (simp <;> omega) | exact cell_lt' (a := ⟨w.heap.size + 1, 0, none⟩) (by assumption) | (simp; exact cell_lt' (a := ⟨w.heap.size + 1, 0, none⟩) (by assumption))) (by first | assumption | go_simp)
         have g1 := keepf hb1 (b := w.heap.size + 1) (o := 1) (by first | (simp <;> omega) | exact cell_lt' (a := ⟨w.heap.size + 1, 1, none⟩) (by assumption) | (simp; exact cell_lt' (a := ⟨w.heap.size + 1, 1, none⟩) (by assumption))) (by first | assumption | go_simp)
         have l0 : w.heap.size < w1.heap.size := cell_lt' k0
         have l1 : w.heap.size + 1 < w1.heap.size := cell_lt' t0
         have B1 := on (b0 _ _) hb1; clear hb1)
      | (
         go_at_call 51; refine (hL _).mono ?_; rintro e w2 ⟨rfl, hb2⟩; clear hL
         have t0 := keep hb2 (b := w.heap.size + 1) (o := 0) (x := .int .i64 0) (by first | assumption | go_simp)
         have t1 := keep hb2 (b := w.heap.size + 1) (o := 1) (x := .int .i64 0) (by first | assumption | go_simp)
         have n0 := keep hb2 (b := w1.heap.size) (o := 0) (x := .int .i64 1) (by first | assumption | go_simp)
         have n1 := keep hb2 (b := w1.heap.size) (o := 1) (x := .int .i64 m) (by first | assumption | go_simp)
         have g0 := keepf hb2 (b := w.heap.size + 1) (o := 0) (by first | (simp <;> omega) | exact cell_lt' (a := ⟨w.heap.size + 1, 0, none⟩) (by assumption) | (simp; exact cell_lt' (a := ⟨w.heap.size + 1, 0, none⟩) (by assumption))) (by first | assumption | go_simp)
         have g1 := keepf hb2 (b := w.heap.size + 1) (o := 1) (by first | (simp <;> omega) | exact cell_lt' (a := ⟨w.heap.size + 1, 1, none⟩) (by assumption) | (simp; exact cell_lt' (a := ⟨w.heap.size + 1, 1, none⟩) (by assumption))) (by first | assumption | go_simp)
         have f0 := keepf hb2 (b := w1.heap.size) (o := 0) (by first | (simp <;> omega) | exact cell_lt' (a := ⟨w1.heap.size, 0, none⟩) (by assumption) | (simp; exact cell_lt' (a := ⟨w1.heap.size, 0, none⟩) (by assumption))) (by first | assumption | go_simp)
         have l2 : w1.heap.size < w2.heap.size := cell_lt' n0
         have B2 := on (on B1 (al _ _)) hb2; clear hb2 B1)
      | (
         go_at_call 84; refine (hY _).mono ?_; rintro e w3 ⟨rfl, hb3⟩; clear hY
         have t0 := keep hb3 (b := w.heap.size + 1) (o := 0) (x := .int .i64 0) (by first | assumption | go_simp)
         have t1 := keep hb3 (b := w.heap.size + 1) (o := 1) (x := .int .i64 0) (by first | assumption | go_simp)
         have n0 := keep hb3 (b := w1.heap.size) (o := 0) (x := .int .i64 (1)) (by first | assumption | go_simp)
         have n1 := keep hb3 (b := w1.heap.size) (o := 1) (x := .int .i64 m) (by first | assumption | go_simp)
         have g0 := keepf hb3 (b := w.heap.size + 1) (o := 0) (by first | (simp <;> omega) | exact cell_lt' (a := ⟨w.heap.size + 1, 0, none⟩) (by assumption) | (simp; exact cell_lt' (a := ⟨w.heap.size + 1, 0, none⟩) (by assumption))) (by first | assumption | go_simp)
         have g1 := keepf hb3 (b := w.heap.size + 1) (o := 1) (by first | (simp <;> omega) | exact cell_lt' (a := ⟨w.heap.size + 1, 1, none⟩) (by assumption) | (simp; exact cell_lt' (a := ⟨w.heap.size + 1, 1, none⟩) (by assumption))) (by first | assumption | go_simp)
         have B3 := on B2 hb3))
    refine bodyPost_ret (v := .tuple #[.agg #[.int .i64 1, .int .i64 m], .bool true]) ?_ rfl ⟨rfl, ?_⟩
    · rw [results_cell2 rfl]
      go_simp
    · exact (B3.setCell (p := ⟨w.heap.size + 1, 0, none⟩) (by show w.heap.size ≤ w.heap.size + 1; omega) _).setCell (p := ⟨w.heap.size + 1, 1, none⟩) (by show w.heap.size ≤ w.heap.size + 1; omega) _

theorem next_b (s1 s2 m r : Int) (hr : r = max s1 1) (w : World) (hs : mzb (s1, s2) = true) (hl : ltb (s1, s2) (r, m) = true) (hm : mayb (r, m) = false) : Calls Try.prog 77 #[bt (s1, s2), .int .i64 m] w fun e w' => e = .returned (.tuple #[bt z0, .bool false]) ∧ Below w.heap.size w w' := by
  have hM := fun W => mzb_any (s1, s2) W
  rw [hs] at hM
  have hL := fun W => less_any (s1, s2) (r, m) W
  rw [hl] at hL
  have hY := fun W => may_any (r, m) W
  rw [hm] at hY
  have hbig : s1 ≤ 2147483647 := mzb_big hs
  clear hs hl hm
  dsimp only [bt, z0] at *
  have b0 : ∀ x y, Below w.heap.size w ((w.alloc x).alloc y) := fun x y => on (al _ _) (al _ _)
  by_cases h1 : 1 ≤ s1
  · have hr2 : r = s1 := by omega
    subst hr2
    have h2 : ¬ r < 1 := by omega
    clear hr
    go_enter Try.func77, Try.ntmps77
    go_wp2_with (first
      | (
         go_at_call 93; refine (hM _).mono ?_; rintro e w1 ⟨rfl, hb1⟩; clear hM
         have k0 := keep hb1 (b := w.heap.size) (o := 0) (x := .int .i64 r) (by first | assumption | go_simp)
         have k1 := keep hb1 (b := w.heap.size) (o := 1) (x := .int .i64 s2) (by first | assumption | go_simp)
         have t0 := keep hb1 (b := w.heap.size + 1) (o := 0) (x := .int .i64 0) (by first | assumption | go_simp)
         have t1 := keep hb1 (b := w.heap.size + 1) (o := 1) (x := .int .i64 0) (by first | assumption | go_simp)
         have g0 := keepf hb1 (b := w.heap.size + 1) (o := 0) (by first | (simp <;> omega) | exact cell_lt' (a := ⟨w.heap.size + 1, 0, none⟩) (by assumption) | (simp; exact cell_lt' (a := ⟨w.heap.size + 1, 0, none⟩) (by assumption))) (by first | assumption | go_simp)
         have g1 := keepf hb1 (b := w.heap.size + 1) (o := 1) (by first | (simp <;> omega) | exact cell_lt' (a := ⟨w.heap.size + 1, 1, none⟩) (by assumption) | (simp; exact cell_lt' (a := ⟨w.heap.size + 1, 1, none⟩) (by assumption))) (by first | assumption | go_simp)
         have l0 : w.heap.size < w1.heap.size := cell_lt' k0
         have l1 : w.heap.size + 1 < w1.heap.size := cell_lt' t0
         have B1 := on (b0 _ _) hb1; clear hb1)
      | (
         go_at_call 51; refine (hL _).mono ?_; rintro e w2 ⟨rfl, hb2⟩; clear hL
         have t0 := keep hb2 (b := w.heap.size + 1) (o := 0) (x := .int .i64 0) (by first | assumption | go_simp)
         have t1 := keep hb2 (b := w.heap.size + 1) (o := 1) (x := .int .i64 0) (by first | assumption | go_simp)
         have n0 := keep hb2 (b := w1.heap.size) (o := 0) (x := .int .i64 r) (by first | assumption | go_simp)
         have n1 := keep hb2 (b := w1.heap.size) (o := 1) (x := .int .i64 m) (by first | assumption | go_simp)
         have g0 := keepf hb2 (b := w.heap.size + 1) (o := 0) (by first | (simp <;> omega) | exact cell_lt' (a := ⟨w.heap.size + 1, 0, none⟩) (by assumption) | (simp; exact cell_lt' (a := ⟨w.heap.size + 1, 0, none⟩) (by assumption))) (by first | assumption | go_simp)
         have g1 := keepf hb2 (b := w.heap.size + 1) (o := 1) (by first | (simp <;> omega) | exact cell_lt' (a := ⟨w.heap.size + 1, 1, none⟩) (by assumption) | (simp; exact cell_lt' (a := ⟨w.heap.size + 1, 1, none⟩) (by assumption))) (by first | assumption | go_simp)
         have f0 := keepf hb2 (b := w1.heap.size) (o := 0) (by first | (simp <;> omega) | exact cell_lt' (a := ⟨w1.heap.size, 0, none⟩) (by assumption) | (simp; exact cell_lt' (a := ⟨w1.heap.size, 0, none⟩) (by assumption))) (by first | assumption | go_simp)
         have l2 : w1.heap.size < w2.heap.size := cell_lt' n0
         have B2 := on (on B1 (al _ _)) hb2; clear hb2 B1)
      | (
         go_at_call 84; refine (hY _).mono ?_; rintro e w3 ⟨rfl, hb3⟩; clear hY
         have t0 := keep hb3 (b := w.heap.size + 1) (o := 0) (x := .int .i64 0) (by first | assumption | go_simp)
         have t1 := keep hb3 (b := w.heap.size + 1) (o := 1) (x := .int .i64 0) (by first | assumption | go_simp)
         have n0 := keep hb3 (b := w1.heap.size) (o := 0) (x := .int .i64 (r)) (by first | assumption | go_simp)
         have n1 := keep hb3 (b := w1.heap.size) (o := 1) (x := .int .i64 m) (by first | assumption | go_simp)
         have g0 := keepf hb3 (b := w.heap.size + 1) (o := 0) (by first | (simp <;> omega) | exact cell_lt' (a := ⟨w.heap.size + 1, 0, none⟩) (by assumption) | (simp; exact cell_lt' (a := ⟨w.heap.size + 1, 0, none⟩) (by assumption))) (by first | assumption | go_simp)
         have g1 := keepf hb3 (b := w.heap.size + 1) (o := 1) (by first | (simp <;> omega) | exact cell_lt' (a := ⟨w.heap.size + 1, 1, none⟩) (by assumption) | (simp; exact cell_lt' (a := ⟨w.heap.size + 1, 1, none⟩) (by assumption))) (by first | assumption | go_simp)
         have B3 := on B2 hb3))
    refine bodyPost_ret (v := .tuple #[.agg #[.int .i64 0, .int .i64 0], .bool false]) ?_ rfl ⟨rfl, ?_⟩
    · rw [results_cell2 rfl]
      go_simp
    · exact (B3.setCell (p := ⟨w.heap.size + 1, 0, none⟩) (by show w.heap.size ≤ w.heap.size + 1; omega) _).setCell (p := ⟨w.heap.size + 1, 1, none⟩) (by show w.heap.size ≤ w.heap.size + 1; omega) _
  · have hr2 : r = 1 := by omega
    subst hr2
    have h2 : s1 < 1 := by omega
    clear h1
    clear hr
    go_enter Try.func77, Try.ntmps77
    go_wp2_with (first
      | (
         go_at_call 93; refine (hM _).mono ?_; rintro e w1 ⟨rfl, hb1⟩; clear hM
         have k0 := keep hb1 (b := w.heap.size) (o := 0) (x := .int .i64 s1) (by first | assumption | go_simp)
         have k1 := keep hb1 (b := w.heap.size) (o := 1) (x := .int .i64 s2) (by first | assumption | go_simp)
         have t0 := keep hb1 (b := w.heap.size + 1) (o := 0) (x := .int .i64 0) (by first | assumption | go_simp)
         have t1 := keep hb1 (b := w.heap.size + 1) (o := 1) (x := .int .i64 0) (by first | assumption | go_simp)
         have g0 := keepf hb1 (b := w.heap.size + 1) (o := 0) (by first | (simp <;> omega) | exact cell_lt' (a := ⟨w.heap.size + 1, 0, none⟩) (by assumption) | (simp; exact cell_lt' (a := ⟨w.heap.size + 1, 0, none⟩) (by assumption))) (by first | assumption | go_simp)
         have g1 := keepf hb1 (b := w.heap.size + 1) (o := 1) (by first | (simp <;> omega) | exact cell_lt' (a := ⟨w.heap.size + 1, 1, none⟩) (by assumption) | (simp; exact cell_lt' (a := ⟨w.heap.size + 1, 1, none⟩) (by assumption))) (by first | assumption | go_simp)
         have l0 : w.heap.size < w1.heap.size := cell_lt' k0
         have l1 : w.heap.size + 1 < w1.heap.size := cell_lt' t0
         have B1 := on (b0 _ _) hb1; clear hb1)
      | (
         go_at_call 51; refine (hL _).mono ?_; rintro e w2 ⟨rfl, hb2⟩; clear hL
         have t0 := keep hb2 (b := w.heap.size + 1) (o := 0) (x := .int .i64 0) (by first | assumption | go_simp)
         have t1 := keep hb2 (b := w.heap.size + 1) (o := 1) (x := .int .i64 0) (by first | assumption | go_simp)
         have n0 := keep hb2 (b := w1.heap.size) (o := 0) (x := .int .i64 1) (by first | assumption | go_simp)
         have n1 := keep hb2 (b := w1.heap.size) (o := 1) (x := .int .i64 m) (by first | assumption | go_simp)
         have g0 := keepf hb2 (b := w.heap.size + 1) (o := 0) (by first | (simp <;> omega) | exact cell_lt' (a := ⟨w.heap.size + 1, 0, none⟩) (by assumption) | (simp; exact cell_lt' (a := ⟨w.heap.size + 1, 0, none⟩) (by assumption))) (by first | assumption | go_simp)
         have g1 := keepf hb2 (b := w.heap.size + 1) (o := 1) (by first | (simp <;> omega) | exact cell_lt' (a := ⟨w.heap.size + 1, 1, none⟩) (by assumption) | (simp; exact cell_lt' (a := ⟨w.heap.size + 1, 1, none⟩) (by assumption))) (by first | assumption | go_simp)
         have f0 := keepf hb2 (b := w1.heap.size) (o := 0) (by first | (simp <;> omega) | exact cell_lt' (a := ⟨w1.heap.size, 0, none⟩) (by assumption) | (simp; exact cell_lt' (a := ⟨w1.heap.size, 0, none⟩) (by assumption))) (by first | assumption | go_simp)
         have l2 : w1.heap.size < w2.heap.size := cell_lt' n0
         have B2 := on (on B1 (al _ _)) hb2; clear hb2 B1)
      | (
         go_at_call 84; refine (hY _).mono ?_; rintro e w3 ⟨rfl, hb3⟩; clear hY
         have t0 := keep hb3 (b := w.heap.size + 1) (o := 0) (x := .int .i64 0) (by first | assumption | go_simp)
         have t1 := keep hb3 (b := w.heap.size + 1) (o := 1) (x := .int .i64 0) (by first | assumption | go_simp)
         have n0 := keep hb3 (b := w1.heap.size) (o := 0) (x := .int .i64 (1)) (by first | assumption | go_simp)
         have n1 := keep hb3 (b := w1.heap.size) (o := 1) (x := .int .i64 m) (by first | assumption | go_simp)
         have g0 := keepf hb3 (b := w.heap.size + 1) (o := 0) (by first | (simp <;> omega) | exact cell_lt' (a := ⟨w.heap.size + 1, 0, none⟩) (by assumption) | (simp; exact cell_lt' (a := ⟨w.heap.size + 1, 0, none⟩) (by assumption))) (by first | assumption | go_simp)
         have g1 := keepf hb3 (b := w.heap.size + 1) (o := 1) (by first | (simp <;> omega) | exact cell_lt' (a := ⟨w.heap.size + 1, 1, none⟩) (by assumption) | (simp; exact cell_lt' (a := ⟨w.heap.size + 1, 1, none⟩) (by assumption))) (by first | assumption | go_simp)
         have B3 := on B2 hb3))
    refine bodyPost_ret (v := .tuple #[.agg #[.int .i64 0, .int .i64 0], .bool false]) ?_ rfl ⟨rfl, ?_⟩
    · rw [results_cell2 rfl]
      go_simp
    · exact (B3.setCell (p := ⟨w.heap.size + 1, 0, none⟩) (by show w.heap.size ≤ w.heap.size + 1; omega) _).setCell (p := ⟨w.heap.size + 1, 1, none⟩) (by show w.heap.size ≤ w.heap.size + 1; omega) _

theorem next_c (s1 s2 m r : Int) (hr : r = max s1 1) (w : World) (hs : mzb (s1, s2) = true) (hl : ltb (s1, s2) (r, m) = false) (hm : mayb (r + 1, m) = true) : Calls Try.prog 77 #[bt (s1, s2), .int .i64 m] w fun e w' => e = .returned (.tuple #[bt (r + 1, m), .bool true]) ∧ Below w.heap.size w w' := by
  have hM := fun W => mzb_any (s1, s2) W
  rw [hs] at hM
  have hL := fun W => less_any (s1, s2) (r, m) W
  rw [hl] at hL
  have hY := fun W => may_any (r + 1, m) W
  rw [hm] at hY
  have hbig : s1 ≤ 2147483647 := mzb_big hs
  clear hs hl hm
  dsimp only [bt, z0] at *
  have b0 : ∀ x y, Below w.heap.size w ((w.alloc x).alloc y) := fun x y => on (al _ _) (al _ _)
  by_cases h1 : 1 ≤ s1
  · have hr2 : r = s1 := by omega
    subst hr2
    have h2 : ¬ r < 1 := by omega
    clear hr
    go_enter Try.func77, Try.ntmps77
    go_wp2_with (first
      | (
         go_at_call 93; refine (hM _).mono ?_; rintro e w1 ⟨rfl, hb1⟩; clear hM
         have k0 := keep hb1 (b := w.heap.size) (o := 0) (x := .int .i64 r) (by first | assumption | go_simp)
         have k1 := keep hb1 (b := w.heap.size) (o := 1) (x := .int .i64 s2) (by first | assumption | go_simp)
         have t0 := keep hb1 (b := w.heap.size + 1) (o := 0) (x := .int .i64 0) (by first | assumption | go_simp)
         have t1 := keep hb1 (b := w.heap.size + 1) (o := 1) (x := .int .i64 0) (by first | assumption | go_simp)
         have g0 := keepf hb1 (b := w.heap.size + 1) (o := 0) (by first | (simp <;> omega) | exact cell_lt' (a := ⟨w.heap.size + 1, 0, none⟩) (by assumption) | (simp; exact cell_lt' (a := ⟨w.heap.size + 1, 0, none⟩) (by assumption))) (by first | assumption | go_simp)
         have g1 := keepf hb1 (b := w.heap.size + 1) (o := 1) (by first | (simp <;> omega) | exact cell_lt' (a := ⟨w.heap.size + 1, 1, none⟩) (by assumption) | (simp; exact cell_lt' (a := ⟨w.heap.size + 1, 1, none⟩) (by assumption))) (by first | assumption | go_simp)
         have l0 : w.heap.size < w1.heap.size := cell_lt' k0
         have l1 : w.heap.size + 1 < w1.heap.size := cell_lt' t0
         have B1 := on (b0 _ _) hb1; clear hb1)
      | (
         go_at_call 51; refine (hL _).mono ?_; rintro e w2 ⟨rfl, hb2⟩; clear hL
         have t0 := keep hb2 (b := w.heap.size + 1) (o := 0) (x := .int .i64 0) (by first | assumption | go_simp)
         have t1 := keep hb2 (b := w.heap.size + 1) (o := 1) (x := .int .i64 0) (by first | assumption | go_simp)
         have n0 := keep hb2 (b := w1.heap.size) (o := 0) (x := .int .i64 r) (by first | assumption | go_simp)
         have n1 := keep hb2 (b := w1.heap.size) (o := 1) (x := .int .i64 m) (by first | assumption | go_simp)
         have g0 := keepf hb2 (b := w.heap.size + 1) (o := 0) (by first | (simp <;> omega) | exact cell_lt' (a := ⟨w.heap.size + 1, 0, none⟩) (by assumption) | (simp; exact cell_lt' (a := ⟨w.heap.size + 1, 0, none⟩) (by assumption))) (by first | assumption | go_simp)
         have g1 := keepf hb2 (b := w.heap.size + 1) (o := 1) (by first | (simp <;> omega) | exact cell_lt' (a := ⟨w.heap.size + 1, 1, none⟩) (by assumption) | (simp; exact cell_lt' (a := ⟨w.heap.size + 1, 1, none⟩) (by assumption))) (by first | assumption | go_simp)
         have f0 := keepf hb2 (b := w1.heap.size) (o := 0) (by first | (simp <;> omega) | exact cell_lt' (a := ⟨w1.heap.size, 0, none⟩) (by assumption) | (simp; exact cell_lt' (a := ⟨w1.heap.size, 0, none⟩) (by assumption))) (by first | assumption | go_simp)
         have l2 : w1.heap.size < w2.heap.size := cell_lt' n0
         have B2 := on (on B1 (al _ _)) hb2; clear hb2 B1)
      | (
         go_at_call 84; refine (hY _).mono ?_; rintro e w3 ⟨rfl, hb3⟩; clear hY
         have t0 := keep hb3 (b := w.heap.size + 1) (o := 0) (x := .int .i64 0) (by first | assumption | go_simp)
         have t1 := keep hb3 (b := w.heap.size + 1) (o := 1) (x := .int .i64 0) (by first | assumption | go_simp)
         have n0 := keep hb3 (b := w1.heap.size) (o := 0) (x := .int .i64 (r + 1)) (by first | assumption | go_simp)
         have n1 := keep hb3 (b := w1.heap.size) (o := 1) (x := .int .i64 m) (by first | assumption | go_simp)
         have g0 := keepf hb3 (b := w.heap.size + 1) (o := 0) (by first | (simp <;> omega) | exact cell_lt' (a := ⟨w.heap.size + 1, 0, none⟩) (by assumption) | (simp; exact cell_lt' (a := ⟨w.heap.size + 1, 0, none⟩) (by assumption))) (by first | assumption | go_simp)
         have g1 := keepf hb3 (b := w.heap.size + 1) (o := 1) (by first | (simp <;> omega) | exact cell_lt' (a := ⟨w.heap.size + 1, 1, none⟩) (by assumption) | (simp; exact cell_lt' (a := ⟨w.heap.size + 1, 1, none⟩) (by assumption))) (by first | assumption | go_simp)
         have B3 := on (B2.setCell (p := ⟨w1.heap.size, 0, none⟩) (by show w.heap.size ≤ w1.heap.size; omega) _) hb3))
    refine bodyPost_ret (v := .tuple #[.agg #[.int .i64 (r + 1), .int .i64 m], .bool true]) ?_ rfl ⟨rfl, ?_⟩
    · rw [results_cell2 rfl]
      go_simp
    · exact (B3.setCell (p := ⟨w.heap.size + 1, 0, none⟩) (by show w.heap.size ≤ w.heap.size + 1; omega) _).setCell (p := ⟨w.heap.size + 1, 1, none⟩) (by show w.heap.size ≤ w.heap.size + 1; omega) _
  · have hr2 : r = 1 := by omega
    subst hr2
    have h2 : s1 < 1 := by omega
    clear h1
    clear hr
    go_enter Try.func77, Try.ntmps77
    go_wp2_with (first
      | (
         go_at_call 93; refine (hM _).mono ?_; rintro e w1 ⟨rfl, hb1⟩; clear hM
         have k0 := keep hb1 (b := w.heap.size) (o := 0) (x := .int .i64 s1) (by first | assumption | go_simp)
         have k1 := keep hb1 (b := w.heap.size) (o := 1) (x := .int .i64 s2) (by first | assumption | go_simp)
         have t0 := keep hb1 (b := w.heap.size + 1) (o := 0) (x := .int .i64 0) (by first | assumption | go_simp)
         have t1 := keep hb1 (b := w.heap.size + 1) (o := 1) (x := .int .i64 0) (by first | assumption | go_simp)
         have g0 := keepf hb1 (b := w.heap.size + 1) (o := 0) (by first | (simp <;> omega) | exact cell_lt' (a := ⟨w.heap.size + 1, 0, none⟩) (by assumption) | (simp; exact cell_lt' (a := ⟨w.heap.size + 1, 0, none⟩) (by assumption))) (by first | assumption | go_simp)
         have g1 := keepf hb1 (b := w.heap.size + 1) (o := 1) (by first | (simp <;> omega) | exact cell_lt' (a := ⟨w.heap.size + 1, 1, none⟩) (by assumption) | (simp; exact cell_lt' (a := ⟨w.heap.size + 1, 1, none⟩) (by assumption))) (by first | assumption | go_simp)
         have l0 : w.heap.size < w1.heap.size := cell_lt' k0
         have l1 : w.heap.size + 1 < w1.heap.size := cell_lt' t0
         have B1 := on (b0 _ _) hb1; clear hb1)
      | (
         go_at_call 51; refine (hL _).mono ?_; rintro e w2 ⟨rfl, hb2⟩; clear hL
         have t0 := keep hb2 (b := w.heap.size + 1) (o := 0) (x := .int .i64 0) (by first | assumption | go_simp)
         have t1 := keep hb2 (b := w.heap.size + 1) (o := 1) (x := .int .i64 0) (by first | assumption | go_simp)
         have n0 := keep hb2 (b := w1.heap.size) (o := 0) (x := .int .i64 1) (by first | assumption | go_simp)
         have n1 := keep hb2 (b := w1.heap.size) (o := 1) (x := .int .i64 m) (by first | assumption | go_simp)
         have g0 := keepf hb2 (b := w.heap.size + 1) (o := 0) (by first | (simp <;> omega) | exact cell_lt' (a := ⟨w.heap.size + 1, 0, none⟩) (by assumption) | (simp; exact cell_lt' (a := ⟨w.heap.size + 1, 0, none⟩) (by assumption))) (by first | assumption | go_simp)
         have g1 := keepf hb2 (b := w.heap.size + 1) (o := 1) (by first | (simp <;> omega) | exact cell_lt' (a := ⟨w.heap.size + 1, 1, none⟩) (by assumption) | (simp; exact cell_lt' (a := ⟨w.heap.size + 1, 1, none⟩) (by assumption))) (by first | assumption | go_simp)
         have f0 := keepf hb2 (b := w1.heap.size) (o := 0) (by first | (simp <;> omega) | exact cell_lt' (a := ⟨w1.heap.size, 0, none⟩) (by assumption) | (simp; exact cell_lt' (a := ⟨w1.heap.size, 0, none⟩) (by assumption))) (by first | assumption | go_simp)
         have l2 : w1.heap.size < w2.heap.size := cell_lt' n0
         have B2 := on (on B1 (al _ _)) hb2; clear hb2 B1)
      | (
         go_at_call 84; refine (hY _).mono ?_; rintro e w3 ⟨rfl, hb3⟩; clear hY
         have t0 := keep hb3 (b := w.heap.size + 1) (o := 0) (x := .int .i64 0) (by first | assumption | go_simp)
         have t1 := keep hb3 (b := w.heap.size + 1) (o := 1) (x := .int .i64 0) (by first | assumption | go_simp)
         have n0 := keep hb3 (b := w1.heap.size) (o := 0) (x := .int .i64 (2)) (by first | assumption | go_simp)
         have n1 := keep hb3 (b := w1.heap.size) (o := 1) (x := .int .i64 m) (by first | assumption | go_simp)
         have g0 := keepf hb3 (b := w.heap.size + 1) (o := 0) (by first | (simp <;> omega) | exact cell_lt' (a := ⟨w.heap.size + 1, 0, none⟩) (by assumption) | (simp; exact cell_lt' (a := ⟨w.heap.size + 1, 0, none⟩) (by assumption))) (by first | assumption | go_simp)
         have g1 := keepf hb3 (b := w.heap.size + 1) (o := 1) (by first | (simp <;> omega) | exact cell_lt' (a := ⟨w.heap.size + 1, 1, none⟩) (by assumption) | (simp; exact cell_lt' (a := ⟨w.heap.size + 1, 1, none⟩) (by assumption))) (by first | assumption | go_simp)
         have B3 := on (B2.setCell (p := ⟨w1.heap.size, 0, none⟩) (by show w.heap.size ≤ w1.heap.size; omega) _) hb3))
    refine bodyPost_ret (v := .tuple #[.agg #[.int .i64 2, .int .i64 m], .bool true]) ?_ rfl ⟨rfl, ?_⟩
    · rw [results_cell2 rfl]
      go_simp
    · exact (B3.setCell (p := ⟨w.heap.size + 1, 0, none⟩) (by show w.heap.size ≤ w.heap.size + 1; omega) _).setCell (p := ⟨w.heap.size + 1, 1, none⟩) (by show w.heap.size ≤ w.heap.size + 1; omega) _

theorem next_d (s1 s2 m r : Int) (hr : r = max s1 1) (w : World) (hs : mzb (s1, s2) = true) (hl : ltb (s1, s2) (r, m) = false) (hm : mayb (r + 1, m) = false) : Calls Try.prog 77 #[bt (s1, s2), .int .i64 m] w fun e w' => e = .returned (.tuple #[bt z0, .bool false]) ∧ Below w.heap.size w w' := by
  have hM := fun W => mzb_any (s1, s2) W
  rw [hs] at hM
  have hL := fun W => less_any (s1, s2) (r, m) W
  rw [hl] at hL
  have hY := fun W => may_any (r + 1, m) W
  rw [hm] at hY
  have hbig : s1 ≤ 2147483647 := mzb_big hs
  clear hs hl hm
  dsimp only [bt, z0] at *
  have b0 : ∀ x y, Below w.heap.size w ((w.alloc x).alloc y) := fun x y => on (al _ _) (al _ _)
  by_cases h1 : 1 ≤ s1
  · have hr2 : r = s1 := by omega
    subst hr2
    have h2 : ¬ r < 1 := by omega
    clear hr
    go_enter Try.func77, Try.ntmps77
    go_wp2_with (first
      | (
         go_at_call 93; refine (hM _).mono ?_; rintro e w1 ⟨rfl, hb1⟩; clear hM
         have k0 := keep hb1 (b := w.heap.size) (o := 0) (x := .int .i64 r) (by first | assumption | go_simp)
         have k1 := keep hb1 (b := w.heap.size) (o := 1) (x := .int .i64 s2) (by first | assumption | go_simp)
         have t0 := keep hb1 (b := w.heap.size + 1) (o := 0) (x := .int .i64 0) (by first | assumption | go_simp)
         have t1 := keep hb1 (b := w.heap.size + 1) (o := 1) (x := .int .i64 0) (by first | assumption | go_simp)
         have g0 := keepf hb1 (b := w.heap.size + 1) (o := 0) (by first | (simp <;> omega) | exact cell_lt' (a := ⟨w.heap.size + 1, 0, none⟩) (by assumption) | (simp; exact cell_lt' (a := ⟨w.heap.size + 1, 0, none⟩) (by assumption))) (by first | assumption | go_simp)
         have g1 := keepf hb1 (b := w.heap.size + 1) (o := 1) (by first | (simp <;> omega) | exact cell_lt' (a := ⟨w.heap.size + 1, 1, none⟩) (by assumption) | (simp; exact cell_lt' (a := ⟨w.heap.size + 1, 1, none⟩) (by assumption))) (by first | assumption | go_simp)
         have l0 : w.heap.size < w1.heap.size := cell_lt' k0
         have l1 : w.heap.size + 1 < w1.heap.size := cell_lt' t0
         have B1 := on (b0 _ _) hb1; clear hb1)
      | (
         go_at_call 51; refine (hL _).mono ?_; rintro e w2 ⟨rfl, hb2⟩; clear hL
         have t0 := keep hb2 (b := w.heap.size + 1) (o := 0) (x := .int .i64 0) (by first | assumption | go_simp)
         have t1 := keep hb2 (b := w.heap.size + 1) (o := 1) (x := .int .i64 0) (by first | assumption | go_simp)
         have n0 := keep hb2 (b := w1.heap.size) (o := 0) (x := .int .i64 r) (by first | assumption | go_simp)
         have n1 := keep hb2 (b := w1.heap.size) (o := 1) (x := .int .i64 m) (by first | assumption | go_simp)
         have g0 := keepf hb2 (b := w.heap.size + 1) (o := 0) (by first | (simp <;> omega) | exact cell_lt' (a := ⟨w.heap.size + 1, 0, none⟩) (by assumption) | (simp; exact cell_lt' (a := ⟨w.heap.size + 1, 0, none⟩) (by assumption))) (by first | assumption | go_simp)
         have g1 := keepf hb2 (b := w.heap.size + 1) (o := 1) (by first | (simp <;> omega) | exact cell_lt' (a := ⟨w.heap.size + 1, 1, none⟩) (by assumption) | (simp; exact cell_lt' (a := ⟨w.heap.size + 1, 1, none⟩) (by assumption))) (by first | assumption | go_simp)
         have f0 := keepf hb2 (b := w1.heap.size) (o := 0) (by first | (simp <;> omega) | exact cell_lt' (a := ⟨w1.heap.size, 0, none⟩) (by assumption) | (simp; exact cell_lt' (a := ⟨w1.heap.size, 0, none⟩) (by assumption))) (by first | assumption | go_simp)
         have l2 : w1.heap.size < w2.heap.size := cell_lt' n0
         have B2 := on (on B1 (al _ _)) hb2; clear hb2 B1)
      | (
         go_at_call 84; refine (hY _).mono ?_; rintro e w3 ⟨rfl, hb3⟩; clear hY
         have t0 := keep hb3 (b := w.heap.size + 1) (o := 0) (x := .int .i64 0) (by first | assumption | go_simp)
         have t1 := keep hb3 (b := w.heap.size + 1) (o := 1) (x := .int .i64 0) (by first | assumption | go_simp)
         have n0 := keep hb3 (b := w1.heap.size) (o := 0) (x := .int .i64 (r + 1)) (by first | assumption | go_simp)
         have n1 := keep hb3 (b := w1.heap.size) (o := 1) (x := .int .i64 m) (by first | assumption | go_simp)
         have g0 := keepf hb3 (b := w.heap.size + 1) (o := 0) (by first | (simp <;> omega) | exact cell_lt' (a := ⟨w.heap.size + 1, 0, none⟩) (by assumption) | (simp; exact cell_lt' (a := ⟨w.heap.size + 1, 0, none⟩) (by assumption))) (by first | assumption | go_simp)
         have g1 := keepf hb3 (b := w.heap.size + 1) (o := 1) (by first | (simp <;> omega) | exact cell_lt' (a := ⟨w.heap.size + 1, 1, none⟩) (by assumption) | (simp; exact cell_lt' (a := ⟨w.heap.size + 1, 1, none⟩) (by assumption))) (by first | assumption | go_simp)
         have B3 := on (B2.setCell (p := ⟨w1.heap.size, 0, none⟩) (by show w.heap.size ≤ w1.heap.size; omega) _) hb3))
    refine bodyPost_ret (v := .tuple #[.agg #[.int .i64 0, .int .i64 0], .bool false]) ?_ rfl ⟨rfl, ?_⟩
    · rw [results_cell2 rfl]
      go_simp
    · exact (B3.setCell (p := ⟨w.heap.size + 1, 0, none⟩) (by show w.heap.size ≤ w.heap.size + 1; omega) _).setCell (p := ⟨w.heap.size + 1, 1, none⟩) (by show w.heap.size ≤ w.heap.size + 1; omega) _
  · have hr2 : r = 1 := by omega
    subst hr2
    have h2 : s1 < 1 := by omega
    clear h1
    clear hr
    go_enter Try.func77, Try.ntmps77
    go_wp2_with (first
      | (
         go_at_call 93; refine (hM _).mono ?_; rintro e w1 ⟨rfl, hb1⟩; clear hM
         have k0 := keep hb1 (b := w.heap.size) (o := 0) (x := .int .i64 s1) (by first | assumption | go_simp)
         have k1 := keep hb1 (b := w.heap.size) (o := 1) (x := .int .i64 s2) (by first | assumption | go_simp)
         have t0 := keep hb1 (b := w.heap.size + 1) (o := 0) (x := .int .i64 0) (by first | assumption | go_simp)
         have t1 := keep hb1 (b := w.heap.size + 1) (o := 1) (x := .int .i64 0) (by first | assumption | go_simp)
         have g0 := keepf hb1 (b := w.heap.size + 1) (o := 0) (by first | (simp <;> omega) | exact cell_lt' (a := ⟨w.heap.size + 1, 0, none⟩) (by assumption) | (simp; exact cell_lt' (a := ⟨w.heap.size + 1, 0, none⟩) (by assumption))) (by first | assumption | go_simp)
         have g1 := keepf hb1 (b := w.heap.size + 1) (o := 1) (by first | (simp <;> omega) | exact cell_lt' (a := ⟨w.heap.size + 1, 1, none⟩) (by assumption) | (simp; exact cell_lt' (a := ⟨w.heap.size + 1, 1, none⟩) (by assumption))) (by first | assumption | go_simp)
         have l0 : w.heap.size < w1.heap.size := cell_lt' k0
         have l1 : w.heap.size + 1 < w1.heap.size := cell_lt' t0
         have B1 := on (b0 _ _) hb1; clear hb1)
      | (
         go_at_call 51; refine (hL _).mono ?_; rintro e w2 ⟨rfl, hb2⟩; clear hL
         have t0 := keep hb2 (b := w.heap.size + 1) (o := 0) (x := .int .i64 0) (by first | assumption | go_simp)
         have t1 := keep hb2 (b := w.heap.size + 1) (o := 1) (x := .int .i64 0) (by first | assumption | go_simp)
         have n0 := keep hb2 (b := w1.heap.size) (o := 0) (x := .int .i64 1) (by first | assumption | go_simp)
         have n1 := keep hb2 (b := w1.heap.size) (o := 1) (x := .int .i64 m) (by first | assumption | go_simp)
         have g0 := keepf hb2 (b := w.heap.size + 1) (o := 0) (by first | (simp <;> omega) | exact cell_lt' (a := ⟨w.heap.size + 1, 0, none⟩) (by assumption) | (simp; exact cell_lt' (a := ⟨w.heap.size + 1, 0, none⟩) (by assumption))) (by first | assumption | go_simp)
         have g1 := keepf hb2 (b := w.heap.size + 1) (o := 1) (by first | (simp <;> omega) | exact cell_lt' (a := ⟨w.heap.size + 1, 1, none⟩) (by assumption) | (simp; exact cell_lt' (a := ⟨w.heap.size + 1, 1, none⟩) (by assumption))) (by first | assumption | go_simp)
         have f0 := keepf hb2 (b := w1.heap.size) (o := 0) (by first | (simp <;> omega) | exact cell_lt' (a := ⟨w1.heap.size, 0, none⟩) (by assumption) | (simp; exact cell_lt' (a := ⟨w1.heap.size, 0, none⟩) (by assumption))) (by first | assumption | go_simp)
         have l2 : w1.heap.size < w2.heap.size := cell_lt' n0
         have B2 := on (on B1 (al _ _)) hb2; clear hb2 B1)
      | (
         go_at_call 84; refine (hY _).mono ?_; rintro e w3 ⟨rfl, hb3⟩; clear hY
         have t0 := keep hb3 (b := w.heap.size + 1) (o := 0) (x := .int .i64 0) (by first | assumption | go_simp)
         have t1 := keep hb3 (b := w.heap.size + 1) (o := 1) (x := .int .i64 0) (by first | assumption | go_simp)
         have n0 := keep hb3 (b := w1.heap.size) (o := 0) (x := .int .i64 (2)) (by first | assumption | go_simp)
         have n1 := keep hb3 (b := w1.heap.size) (o := 1) (x := .int .i64 m) (by first | assumption | go_simp)
         have g0 := keepf hb3 (b := w.heap.size + 1) (o := 0) (by first | (simp <;> omega) | exact cell_lt' (a := ⟨w.heap.size + 1, 0, none⟩) (by assumption) | (simp; exact cell_lt' (a := ⟨w.heap.size + 1, 0, none⟩) (by assumption))) (by first | assumption | go_simp)
         have g1 := keepf hb3 (b := w.heap.size + 1) (o := 1) (by first | (simp <;> omega) | exact cell_lt' (a := ⟨w.heap.size + 1, 1, none⟩) (by assumption) | (simp; exact cell_lt' (a := ⟨w.heap.size + 1, 1, none⟩) (by assumption))) (by first | assumption | go_simp)
         have B3 := on (B2.setCell (p := ⟨w1.heap.size, 0, none⟩) (by show w.heap.size ≤ w1.heap.size; omega) _) hb3))
    refine bodyPost_ret (v := .tuple #[.agg #[.int .i64 0, .int .i64 0], .bool false]) ?_ rfl ⟨rfl, ?_⟩
    · rw [results_cell2 rfl]
      go_simp
    · exact (B3.setCell (p := ⟨w.heap.size + 1, 0, none⟩) (by show w.heap.size ≤ w.heap.size + 1; omega) _).setCell (p := ⟨w.heap.size + 1, 1, none⟩) (by show w.heap.size ≤ w.heap.size + 1; omega) _


def nx (s : Bt) (m : Int) : Bt × Bool :=
  if mzb s = true then (if mayb (if ltb s (max s.1 1, m) = true then (max s.1 1, m) else (max s.1 1 + 1, m)) = true then ((if ltb s (max s.1 1, m) = true then (max s.1 1, m) else (max s.1 1 + 1, m)), true) else (z0, false)) else (z0, false)

theorem next_any (s : Bt) (m : Int) (w : World) : Calls Try.prog 77 #[bt s, .int .i64 m] w fun e w' => e = .returned (.tuple #[bt (nx s m).1, .bool (nx s m).2]) ∧ Below w.heap.size w w' := by
  unfold nx
  cases hs : mzb s with
  | false => simpa using next_no0 s m w hs
  | true =>
    obtain ⟨s1, s2⟩ := s
    dsimp only
    cases hl : ltb (s1, s2) (max s1 1, m) with
    | true =>
      cases hm : mayb (max s1 1, m) with
      | true => simpa [hm] using next_a s1 s2 m _ rfl w hs hl hm
      | false => simpa [hm] using next_b s1 s2 m _ rfl w hs hl hm
    | false =>
      cases hm : mayb (max s1 1 + 1, m) with
      | true => simpa [hm] using next_c s1 s2 m _ rfl w hs hl hm
      | false => simpa [hm] using next_d s1 s2 m _ rfl w hs hl hm

end Go.Proofs.Ytfgfjfemaniaiaa.Ba

/-
  What an acceptor accepts.
  Conditions: none.
-/
namespace Go.Proofs.Ytfgfjfemaniaiaa.Ba
open Go.RowKit By Fl
set_option linter.unusedVariables false
set_option linter.unusedSimpArgs false
set_option maxRecDepth 100000

theorem accept_no (p a : Bt) (x : Option Addr) (n c : Nat) (l : List Nat) (b : Bt) (vx : Option Addr) (vn vc : Nat) (w : World) (hl : Sl w x n c l) (hn : n ≤ 140737488355328) (hf : freeb p a n b = false) :
    Calls Try.prog 49 #[ac p a x n c, bt b, .slice vx vn vc] w fun e w' => ∃ y cy, e = .returned (.tuple #[ac p a y n cy, .bool false]) ∧ Hid (Vl w w' y n cy l) := by
  have hF := fun W => free_any p a x n c b W
  rw [hf] at hF
  clear hf
  have HC := fun W h => clone_vl x n c l W h hn
  clear hn
  obtain ⟨p1, p2⟩ := p
  obtain ⟨a1, a2⟩ := a
  obtain ⟨b1, b2⟩ := b
  dsimp only [bt, ac] at *
  have b0 : ∀ x y z, Below w.heap.size w (((w.alloc x).alloc y).alloc z) := fun x y z => on (on (al _ _) (al _ _)) (al _ _)
  go_enter Try.func49, Try.ntmps49
  go_wp2_with (first
    | (
       go_at_call 68; refine (hF _).mono ?_; rintro e w1 ⟨rfl, hb1⟩; clear hF
       have k0 := keep hb1 (b := w.heap.size) (o := 0) (x := .int .i64 p1) (by first | assumption | go_simp)
       have k1 := keep hb1 (b := w.heap.size) (o := 1) (x := .int .i64 p2) (by first | assumption | go_simp)
       have k2 := keep hb1 (b := w.heap.size) (o := 2) (x := .int .i64 a1) (by first | assumption | go_simp)
       have k3 := keep hb1 (b := w.heap.size) (o := 3) (x := .int .i64 a2) (by first | assumption | go_simp)
       have k4 := keep hb1 (b := w.heap.size) (o := 4) (x := .slice x n c) (by first | assumption | go_simp)
       have r0 := keep hb1 (b := w.heap.size + 1 + 1) (o := 0) (x := .int .i64 0) (by first | assumption | go_simp)
       have r1 := keep hb1 (b := w.heap.size + 1 + 1) (o := 1) (x := .int .i64 0) (by first | assumption | go_simp)
       have r2 := keep hb1 (b := w.heap.size + 1 + 1) (o := 2) (x := .int .i64 0) (by first | assumption | go_simp)
       have r3 := keep hb1 (b := w.heap.size + 1 + 1) (o := 3) (x := .int .i64 0) (by first | assumption | go_simp)
       have r4 := keep hb1 (b := w.heap.size + 1 + 1) (o := 4) (x := .slice none 0 0) (by first | assumption | go_simp)
       have f4 := keepf hb1 (b := w.heap.size) (o := 4) (by first | (simp <;> omega) | exact cell_lt' (a := ⟨w.heap.size, 4, none⟩) (by assumption) | (simp; exact cell_lt' (a := ⟨w.heap.size, 4, none⟩) (by assumption))) (by first | assumption | go_simp)
       have g0 := keepf hb1 (b := w.heap.size + 1 + 1) (o := 0) (by first | (simp <;> omega) | exact cell_lt' (a := ⟨w.heap.size + 1 + 1, 0, none⟩) (by assumption) | (simp; exact cell_lt' (a := ⟨w.heap.size + 1 + 1, 0, none⟩) (by assumption))) (by first | assumption | go_simp)
       have g1 := keepf hb1 (b := w.heap.size + 1 + 1) (o := 1) (by first | (simp <;> omega) | exact cell_lt' (a := ⟨w.heap.size + 1 + 1, 1, none⟩) (by assumption) | (simp; exact cell_lt' (a := ⟨w.heap.size + 1 + 1, 1, none⟩) (by assumption))) (by first | assumption | go_simp)
       have g2 := keepf hb1 (b := w.heap.size + 1 + 1) (o := 2) (by first | (simp <;> omega) | exact cell_lt' (a := ⟨w.heap.size + 1 + 1, 2, none⟩) (by assumption) | (simp; exact cell_lt' (a := ⟨w.heap.size + 1 + 1, 2, none⟩) (by assumption))) (by first | assumption | go_simp)
       have g3 := keepf hb1 (b := w.heap.size + 1 + 1) (o := 3) (by first | (simp <;> omega) | exact cell_lt' (a := ⟨w.heap.size + 1 + 1, 3, none⟩) (by assumption) | (simp; exact cell_lt' (a := ⟨w.heap.size + 1 + 1, 3, none⟩) (by assumption))) (by first | assumption | go_simp)
       have g4 := keepf hb1 (b := w.heap.size + 1 + 1) (o := 4) (by first | (simp <;> omega) | exact cell_lt' (a := ⟨w.heap.size + 1 + 1, 4, none⟩) (by assumption) | (simp; exact cell_lt' (a := ⟨w.heap.size + 1 + 1, 4, none⟩) (by assumption))) (by first | assumption | go_simp)
       have l0 : w.heap.size + 1 + 1 < w1.heap.size := cell_lt' r0
       have B1 := on (b0 _ _ _) hb1; clear hb1)
    | (
       go_at_call 60; refine (HC _ (hl.below B1)).mono ?_; rintro e w2 ⟨y, cy, rfl, H2⟩; clear HC
       have k0 := keep H2.out.1 (b := w.heap.size) (o := 0) (x := .int .i64 p1) (by first | assumption | go_simp)
       have k1 := keep H2.out.1 (b := w.heap.size) (o := 1) (x := .int .i64 p2) (by first | assumption | go_simp)
       have k2 := keep H2.out.1 (b := w.heap.size) (o := 2) (x := .int .i64 a1) (by first | assumption | go_simp)
       have k3 := keep H2.out.1 (b := w.heap.size) (o := 3) (x := .int .i64 a2) (by first | assumption | go_simp)
       have k4 := keep H2.out.1 (b := w.heap.size) (o := 4) (x := .slice x n c) (by first | assumption | go_simp)
       have r0 := keep H2.out.1 (b := w.heap.size + 1 + 1) (o := 0) (x := .int .i64 0) (by first | assumption | go_simp)
       have r1 := keep H2.out.1 (b := w.heap.size + 1 + 1) (o := 1) (x := .int .i64 0) (by first | assumption | go_simp)
       have r2 := keep H2.out.1 (b := w.heap.size + 1 + 1) (o := 2) (x := .int .i64 0) (by first | assumption | go_simp)
       have r3 := keep H2.out.1 (b := w.heap.size + 1 + 1) (o := 3) (x := .int .i64 0) (by first | assumption | go_simp)
       have r4 := keep H2.out.1 (b := w.heap.size + 1 + 1) (o := 4) (x := .slice none 0 0) (by first | assumption | go_simp)
       have f4 := keepf H2.out.1 (b := w.heap.size) (o := 4) (by first | (simp <;> omega) | exact cell_lt' (a := ⟨w.heap.size, 4, none⟩) (by assumption) | (simp; exact cell_lt' (a := ⟨w.heap.size, 4, none⟩) (by assumption))) (by first | assumption | go_simp)
       have g0 := keepf H2.out.1 (b := w.heap.size + 1 + 1) (o := 0) (by first | (simp <;> omega) | exact cell_lt' (a := ⟨w.heap.size + 1 + 1, 0, none⟩) (by assumption) | (simp; exact cell_lt' (a := ⟨w.heap.size + 1 + 1, 0, none⟩) (by assumption))) (by first | assumption | go_simp)
       have g1 := keepf H2.out.1 (b := w.heap.size + 1 + 1) (o := 1) (by first | (simp <;> omega) | exact cell_lt' (a := ⟨w.heap.size + 1 + 1, 1, none⟩) (by assumption) | (simp; exact cell_lt' (a := ⟨w.heap.size + 1 + 1, 1, none⟩) (by assumption))) (by first | assumption | go_simp)
       have g2 := keepf H2.out.1 (b := w.heap.size + 1 + 1) (o := 2) (by first | (simp <;> omega) | exact cell_lt' (a := ⟨w.heap.size + 1 + 1, 2, none⟩) (by assumption) | (simp; exact cell_lt' (a := ⟨w.heap.size + 1 + 1, 2, none⟩) (by assumption))) (by first | assumption | go_simp)
       have g3 := keepf H2.out.1 (b := w.heap.size + 1 + 1) (o := 3) (by first | (simp <;> omega) | exact cell_lt' (a := ⟨w.heap.size + 1 + 1, 3, none⟩) (by assumption) | (simp; exact cell_lt' (a := ⟨w.heap.size + 1 + 1, 3, none⟩) (by assumption))) (by first | assumption | go_simp)
       have g4 := keepf H2.out.1 (b := w.heap.size + 1 + 1) (o := 4) (by first | (simp <;> omega) | exact cell_lt' (a := ⟨w.heap.size + 1 + 1, 4, none⟩) (by assumption) | (simp; exact cell_lt' (a := ⟨w.heap.size + 1 + 1, 4, none⟩) (by assumption))) (by first | assumption | go_simp)
       skip))
  refine bodyPost_ret (v := .tuple #[.agg #[.int .i64 p1, .int .i64 p2, .int .i64 a1, .int .i64 a2, .slice y n cy], .bool false]) ?_ rfl ⟨y, cy, rfl, Vl.turns B1 H2.out ?_⟩
  · rw [results_cell2 rfl]
    go_simp
  · exact ((Turns.refl _ w2).setCell (p := ⟨w.heap.size, 4, none⟩) (.inl ⟨Nat.le_refl _, by show w.heap.size < _; omega⟩) _).set5 (w.heap.size + 1 + 1) ⟨by omega, by omega⟩ _ _ _ _ _

theorem accept_yes (p a : Bt) (x : Option Addr) (n c : Nat) (b : Bt) (vx : Option Addr) (vn vc : Nat) (vl : List Nat) (w : World) (hl : Sl w vx vn vc vl) (hn : vn ≤ 140737488355328) (hf : freeb p a n b = true) :
    Calls Try.prog 49 #[ac p a x n c, bt b, .slice vx vn vc] w fun e w' => ∃ y cy, e = .returned (.tuple #[ac b b y vn cy, .bool true]) ∧ Hid (Vl w w' y vn cy vl) := by
  have hF := fun W => free_any p a x n c b W
  rw [hf] at hF
  clear hf
  have HC := fun W h => clone_vl vx vn vc vl W h hn
  clear hn
  obtain ⟨p1, p2⟩ := p
  obtain ⟨a1, a2⟩ := a
  obtain ⟨b1, b2⟩ := b
  dsimp only [bt, ac] at *
  have b0 : ∀ x y z, Below w.heap.size w (((w.alloc x).alloc y).alloc z) := fun x y z => on (on (al _ _) (al _ _)) (al _ _)
  go_enter Try.func49, Try.ntmps49
  go_wp2_with (first
    | (
       go_at_call 68; refine (hF _).mono ?_; rintro e w1 ⟨rfl, hb1⟩; clear hF
       have j0 := keep hb1 (b := w.heap.size + 1) (o := 0) (x := .int .i64 b1) (by first | assumption | go_simp)
       have j1 := keep hb1 (b := w.heap.size + 1) (o := 1) (x := .int .i64 b2) (by first | assumption | go_simp)
       have r0 := keep hb1 (b := w.heap.size + 1 + 1) (o := 0) (x := .int .i64 0) (by first | assumption | go_simp)
       have r1 := keep hb1 (b := w.heap.size + 1 + 1) (o := 1) (x := .int .i64 0) (by first | assumption | go_simp)
       have r2 := keep hb1 (b := w.heap.size + 1 + 1) (o := 2) (x := .int .i64 0) (by first | assumption | go_simp)
       have r3 := keep hb1 (b := w.heap.size + 1 + 1) (o := 3) (x := .int .i64 0) (by first | assumption | go_simp)
       have r4 := keep hb1 (b := w.heap.size + 1 + 1) (o := 4) (x := .slice none 0 0) (by first | assumption | go_simp)
       have g0 := keepf hb1 (b := w.heap.size + 1 + 1) (o := 0) (by first | (simp <;> omega) | exact cell_lt' (a := ⟨w.heap.size + 1 + 1, 0, none⟩) (by assumption) | (simp; exact cell_lt' (a := ⟨w.heap.size + 1 + 1, 0, none⟩) (by assumption))) (by first | assumption | go_simp)
       have g1 := keepf hb1 (b := w.heap.size + 1 + 1) (o := 1) (by first | (simp <;> omega) | exact cell_lt' (a := ⟨w.heap.size + 1 + 1, 1, none⟩) (by assumption) | (simp; exact cell_lt' (a := ⟨w.heap.size + 1 + 1, 1, none⟩) (by assumption))) (by first | assumption | go_simp)
       have g2 := keepf hb1 (b := w.heap.size + 1 + 1) (o := 2) (by first | (simp <;> omega) | exact cell_lt' (a := ⟨w.heap.size + 1 + 1, 2, none⟩) (by assumption) | (simp; exact cell_lt' (a := ⟨w.heap.size + 1 + 1, 2, none⟩) (by assumption))) (by first | assumption | go_simp)
       have g3 := keepf hb1 (b := w.heap.size + 1 + 1) (o := 3) (by first | (simp <;> omega) | exact cell_lt' (a := ⟨w.heap.size + 1 + 1, 3, none⟩) (by assumption) | (simp; exact cell_lt' (a := ⟨w.heap.size + 1 + 1, 3, none⟩) (by assumption))) (by first | assumption | go_simp)
       have g4 := keepf hb1 (b := w.heap.size + 1 + 1) (o := 4) (by first | (simp <;> omega) | exact cell_lt' (a := ⟨w.heap.size + 1 + 1, 4, none⟩) (by assumption) | (simp; exact cell_lt' (a := ⟨w.heap.size + 1 + 1, 4, none⟩) (by assumption))) (by first | assumption | go_simp)
       have l0 : w.heap.size + 1 + 1 < w1.heap.size := cell_lt' r0
       have B1 := on (b0 _ _ _) hb1; clear hb1))
  have b1' : Below w1.heap.size w1 w1.drew := (Below.refl _ _).drew
  have B2 : Below w.heap.size w w1.drew := on B1 b1'
  have j0 := keep b1' (b := w.heap.size + 1) (o := 0) (x := .int .i64 b1) (by first | assumption | go_simp)
  have j1 := keep b1' (b := w.heap.size + 1) (o := 1) (x := .int .i64 b2) (by first | assumption | go_simp)
  have r0 := keep b1' (b := w.heap.size + 1 + 1) (o := 0) (x := .int .i64 0) (by first | assumption | go_simp)
  have r1 := keep b1' (b := w.heap.size + 1 + 1) (o := 1) (x := .int .i64 0) (by first | assumption | go_simp)
  have r2 := keep b1' (b := w.heap.size + 1 + 1) (o := 2) (x := .int .i64 0) (by first | assumption | go_simp)
  have r3 := keep b1' (b := w.heap.size + 1 + 1) (o := 3) (x := .int .i64 0) (by first | assumption | go_simp)
  have r4 := keep b1' (b := w.heap.size + 1 + 1) (o := 4) (x := .slice none 0 0) (by first | assumption | go_simp)
  have g0 := keepf b1' (b := w.heap.size + 1 + 1) (o := 0) (by first | (simp <;> omega) | exact cell_lt' (a := ⟨w.heap.size + 1 + 1, 0, none⟩) (by assumption) | (simp; exact cell_lt' (a := ⟨w.heap.size + 1 + 1, 0, none⟩) (by assumption))) (by first | assumption | go_simp)
  have g1 := keepf b1' (b := w.heap.size + 1 + 1) (o := 1) (by first | (simp <;> omega) | exact cell_lt' (a := ⟨w.heap.size + 1 + 1, 1, none⟩) (by assumption) | (simp; exact cell_lt' (a := ⟨w.heap.size + 1 + 1, 1, none⟩) (by assumption))) (by first | assumption | go_simp)
  have g2 := keepf b1' (b := w.heap.size + 1 + 1) (o := 2) (by first | (simp <;> omega) | exact cell_lt' (a := ⟨w.heap.size + 1 + 1, 2, none⟩) (by assumption) | (simp; exact cell_lt' (a := ⟨w.heap.size + 1 + 1, 2, none⟩) (by assumption))) (by first | assumption | go_simp)
  have g3 := keepf b1' (b := w.heap.size + 1 + 1) (o := 3) (by first | (simp <;> omega) | exact cell_lt' (a := ⟨w.heap.size + 1 + 1, 3, none⟩) (by assumption) | (simp; exact cell_lt' (a := ⟨w.heap.size + 1 + 1, 3, none⟩) (by assumption))) (by first | assumption | go_simp)
  have g4 := keepf b1' (b := w.heap.size + 1 + 1) (o := 4) (by first | (simp <;> omega) | exact cell_lt' (a := ⟨w.heap.size + 1 + 1, 4, none⟩) (by assumption) | (simp; exact cell_lt' (a := ⟨w.heap.size + 1 + 1, 4, none⟩) (by assumption))) (by first | assumption | go_simp)
  have l1 : w.heap.size + 1 + 1 < w1.drew.heap.size := l0
  clear b1' l0 B1
  refine wp_region_held_drew (S := fun v => v.cell? ⟨w.heap.size + 1, 0, none⟩ = some (.int .i64 b1) ∧ v.cell? ⟨w.heap.size + 1, 1, none⟩ = some (.int .i64 b2)) (by kernel_rfl) ⟨j0, j1⟩ (fun hHeld => ?_)
  generalize w1.drew = wD at *
  refine By.hk 0 ?_
  refine By.hk 1 ?_
  refine By.hk 2 ?_
  refine wpAnyH_ready (rs := [3]) (by kernel_rfl) (by simp) ?_
  refine AllReadyH.cons rfl (fun K hK => ?_) AllReadyH.nil
  go_simp
  refine (HC _ (hl.below B2)).mono ?_
  rintro e w2 ⟨y, cy, rfl, H2⟩
  have j0 := keep H2.out.1 (b := w.heap.size + 1) (o := 0) (x := .int .i64 b1) (by first | assumption | go_simp)
  have j1 := keep H2.out.1 (b := w.heap.size + 1) (o := 1) (x := .int .i64 b2) (by first | assumption | go_simp)
  have r0 := keep H2.out.1 (b := w.heap.size + 1 + 1) (o := 0) (x := .int .i64 0) (by first | assumption | go_simp)
  have r1 := keep H2.out.1 (b := w.heap.size + 1 + 1) (o := 1) (x := .int .i64 0) (by first | assumption | go_simp)
  have r2 := keep H2.out.1 (b := w.heap.size + 1 + 1) (o := 2) (x := .int .i64 0) (by first | assumption | go_simp)
  have r3 := keep H2.out.1 (b := w.heap.size + 1 + 1) (o := 3) (x := .int .i64 0) (by first | assumption | go_simp)
  have r4 := keep H2.out.1 (b := w.heap.size + 1 + 1) (o := 4) (x := .slice none 0 0) (by first | assumption | go_simp)
  have g0 := keepf H2.out.1 (b := w.heap.size + 1 + 1) (o := 0) (by first | (simp <;> omega) | exact cell_lt' (a := ⟨w.heap.size + 1 + 1, 0, none⟩) (by assumption) | (simp; exact cell_lt' (a := ⟨w.heap.size + 1 + 1, 0, none⟩) (by assumption))) (by first | assumption | go_simp)
  have g1 := keepf H2.out.1 (b := w.heap.size + 1 + 1) (o := 1) (by first | (simp <;> omega) | exact cell_lt' (a := ⟨w.heap.size + 1 + 1, 1, none⟩) (by assumption) | (simp; exact cell_lt' (a := ⟨w.heap.size + 1 + 1, 1, none⟩) (by assumption))) (by first | assumption | go_simp)
  have g2 := keepf H2.out.1 (b := w.heap.size + 1 + 1) (o := 2) (by first | (simp <;> omega) | exact cell_lt' (a := ⟨w.heap.size + 1 + 1, 2, none⟩) (by assumption) | (simp; exact cell_lt' (a := ⟨w.heap.size + 1 + 1, 2, none⟩) (by assumption))) (by first | assumption | go_simp)
  have g3 := keepf H2.out.1 (b := w.heap.size + 1 + 1) (o := 3) (by first | (simp <;> omega) | exact cell_lt' (a := ⟨w.heap.size + 1 + 1, 3, none⟩) (by assumption) | (simp; exact cell_lt' (a := ⟨w.heap.size + 1 + 1, 3, none⟩) (by assumption))) (by first | assumption | go_simp)
  have g4 := keepf H2.out.1 (b := w.heap.size + 1 + 1) (o := 4) (by first | (simp <;> omega) | exact cell_lt' (a := ⟨w.heap.size + 1 + 1, 4, none⟩) (by assumption) | (simp; exact cell_lt' (a := ⟨w.heap.size + 1 + 1, 4, none⟩) (by assumption))) (by first | assumption | go_simp)
  refine hK.out _ _ ⟨j0, j1⟩ (fun hHeld => ?_)
  clear hK K
  refine By.hk 4 ?_
  refine wpAnyH_ready (rs := [5]) (by kernel_rfl) (by simp) ?_
  refine AllReadyH.cons rfl (fun K hK => ?_) AllReadyH.nil
  go_simp
  refine hK.out _ _ ⟨by go_simp, by go_simp⟩ (fun hHeld => ?_)
  clear hK K
  refine By.hk 6 ?_
  refine wpAnyH_done (by kernel_rfl) ?_ _
  go_wp2_with fail
  refine bodyPost_ret (v := .tuple #[.agg #[.int .i64 b1, .int .i64 b2, .int .i64 b1, .int .i64 b2, .slice y vn cy], .bool true]) ?_ rfl ⟨y, cy, rfl, Vl.turns B2 H2.out ?_⟩
  · rw [results_cell2 rfl]
    go_simp
  · exact (Turns.refl _ w2).set5 (w.heap.size + 1 + 1) ⟨by omega, by omega⟩ _ _ _ _ _

end Go.Proofs.Ytfgfjfemaniaiaa.Ba
