/-
  The document's own answers on ballots and acceptors.
  Conditions: none.
-/
import Derived.Test.YtlfeafbpknbbfaaBaNext
namespace Go.Proofs.Ytlfeafbpknbbfaa.Ba
open Go.RowKit By Fl
set_option linter.unusedVariables false
set_option linter.unusedSimpArgs false
set_option maxRecDepth 100000

theorem neq_bt (a b c d : Int) (w : World) : (binOp .neq 23 (.agg #[.int .i64 a, .int .i64 b]) (.agg #[.int .i64 c, .int .i64 d])).run Try.prog w = .ok (.bool (!(decide (a = c) && decide (b = d)))) w := by
  go_simp
  by_cases e1 : a = c <;> by_cases e2 : b = d <;> simp [e1, e2]

theorem rless_any (a b : Bt) (w : World) : Calls Try.prog 9 #[bt a, bt b] w fun e w' => e = .returned (.bool (ltb a b)) ∧ Below w.heap.size w w' := by
  obtain ⟨r, m⟩ := a
  obtain ⟨s, n⟩ := b
  unfold ltb bt
  have hB : ∀ x y, Below w.heap.size w ((w.alloc x).alloc y) := fun x y => ((Below.refl _ w).alloc (Nat.le_refl _) _).alloc (by simp) _
  by_cases h : r = s
  · subst h
    go_enter Try.func9, Try.ntmps9
    go_wp2_with fail
    go_ret
    exact ⟨by simp, hB _ _⟩
  · have h2 : r ≠ s := h
    go_enter Try.func9, Try.ntmps9
    go_wp2_with fail
    go_ret
    exact ⟨by simp [h], hB _ _⟩

theorem rballot_any (b : Bt) (w : World) : Calls Try.prog 22 #[bt b] w fun e w' => e = .returned (.bool (mayb b)) ∧ Below w.heap.size w w' := by
  obtain ⟨r, m⟩ := b
  unfold mayb bt
  dsimp only
  have hB : ∀ x, Below w.heap.size w (w.alloc x) := fun x => (Below.refl _ w).alloc (Nat.le_refl _) _
  by_cases h1 : 1 ≤ r
  · by_cases h2 : r ≤ 2147483647
    · by_cases h3 : 0 ≤ m
      · go_enter Try.func22, Try.ntmps22
        go_wp2_with fail
        go_ret
        exact ⟨by simp [h1, h2, h3], hB _⟩
      · go_enter Try.func22, Try.ntmps22
        go_wp2_with fail
        go_ret
        exact ⟨by simp [h1, h2, h3]; omega, hB _⟩
    · go_enter Try.func22, Try.ntmps22
      go_wp2_with fail
      go_ret
      exact ⟨by simp [h1, h2]; omega, hB _⟩
  · go_enter Try.func22, Try.ntmps22
    go_wp2_with fail
    go_ret
    exact ⟨by simp [h1]; omega, hB _⟩

theorem rmay_1 (p a : Bt) (x : Option Addr) (n c : Nat) (w : World) (ezp : zb p = true) (eza : zb a = false) : Calls Try.prog 11 #[ac p a x n c] w fun e w' => e = .returned (.bool (mayA p a n)) ∧ Below w.heap.size w w' := by
  obtain ⟨p1, p2⟩ := p
  obtain ⟨a1, a2⟩ := a
  have hP := fun W => rballot_any (p1, p2) W
  have hA := fun W => rballot_any (a1, a2) W
  have hL := fun W => rless_any (p1, p2) (a1, a2) W
  have hzp := fun W => neq_bt p1 p2 0 0 W
  have hza := fun W => neq_bt a1 a2 0 0 W
  have ezp2 : (decide (p1 = 0) && decide (p2 = 0)) = zb (p1, p2) := rfl
  have eza2 : (decide (a1 = 0) && decide (a2 = 0)) = zb (a1, a2) := rfl
  rw [ezp2] at hzp
  rw [eza2] at hza
  clear ezp2 eza2
  unfold mayA mzb
  generalize zb (p1, p2) = zp at *
  subst ezp
  generalize zb (a1, a2) = za at *
  subst eza
  generalize mayb (p1, p2) = mp at *
  generalize mayb (a1, a2) = ma at *
  generalize ltb (p1, p2) (a1, a2) = tl at *
  dsimp only [bt, ac] at *
  have b0 : ∀ x y, Below w.heap.size w ((w.alloc x).alloc y) := fun x y => on (al _ _) (al _ _)
  cases ma with
  | false =>
    go_enter Try.func11, Try.ntmps11
    go_wp2_with (first
        | (
           go_at_call 22; refine (hA _).mono ?_; rintro e w2 ⟨rfl, hb2⟩; clear hA
           have k0 := keep hb2 (b := w.heap.size) (o := 0) (x := .int .i64 p1) (by first | assumption | go_simp)
           have k1 := keep hb2 (b := w.heap.size) (o := 1) (x := .int .i64 p2) (by first | assumption | go_simp)
           have k2 := keep hb2 (b := w.heap.size) (o := 2) (x := .int .i64 a1) (by first | assumption | go_simp)
           have k3 := keep hb2 (b := w.heap.size) (o := 3) (x := .int .i64 a2) (by first | assumption | go_simp)
           have k4 := keep hb2 (b := w.heap.size) (o := 4) (x := .slice x n c) (by first | assumption | go_simp)
           have r0 := keep hb2 (b := w.heap.size + 1) (o := 0) (x := .int .i64 0) (by first | assumption | go_simp)
           have r1 := keep hb2 (b := w.heap.size + 1) (o := 1) (x := .int .i64 0) (by first | assumption | go_simp)
           have B2 := on (b0 _ _) hb2; clear hb2))
    go_ret
    exact ⟨by simp, B2⟩
  | true =>
    cases tl with
    | true =>
      go_enter Try.func11, Try.ntmps11
      go_wp2_with (first
          | (
             go_at_call 22; refine (hA _).mono ?_; rintro e w2 ⟨rfl, hb2⟩; clear hA
             have k0 := keep hb2 (b := w.heap.size) (o := 0) (x := .int .i64 p1) (by first | assumption | go_simp)
             have k1 := keep hb2 (b := w.heap.size) (o := 1) (x := .int .i64 p2) (by first | assumption | go_simp)
             have k2 := keep hb2 (b := w.heap.size) (o := 2) (x := .int .i64 a1) (by first | assumption | go_simp)
             have k3 := keep hb2 (b := w.heap.size) (o := 3) (x := .int .i64 a2) (by first | assumption | go_simp)
             have k4 := keep hb2 (b := w.heap.size) (o := 4) (x := .slice x n c) (by first | assumption | go_simp)
             have r0 := keep hb2 (b := w.heap.size + 1) (o := 0) (x := .int .i64 0) (by first | assumption | go_simp)
             have r1 := keep hb2 (b := w.heap.size + 1) (o := 1) (x := .int .i64 0) (by first | assumption | go_simp)
             have B2 := on (b0 _ _) hb2; clear hb2)
          | (
             go_at_call 9; refine (hL _).mono ?_; rintro e w3 ⟨rfl, hb3⟩; clear hL
             have k0 := keep hb3 (b := w.heap.size) (o := 0) (x := .int .i64 p1) (by first | assumption | go_simp)
             have k1 := keep hb3 (b := w.heap.size) (o := 1) (x := .int .i64 p2) (by first | assumption | go_simp)
             have k2 := keep hb3 (b := w.heap.size) (o := 2) (x := .int .i64 a1) (by first | assumption | go_simp)
             have k3 := keep hb3 (b := w.heap.size) (o := 3) (x := .int .i64 a2) (by first | assumption | go_simp)
             have k4 := keep hb3 (b := w.heap.size) (o := 4) (x := .slice x n c) (by first | assumption | go_simp)
             have r0 := keep hb3 (b := w.heap.size + 1) (o := 0) (x := .int .i64 0) (by first | assumption | go_simp)
             have r1 := keep hb3 (b := w.heap.size + 1) (o := 1) (x := .int .i64 0) (by first | assumption | go_simp)
             have B3 := on B2 hb3; clear hb3))
      go_ret
      exact ⟨by simp, B3⟩
    | false =>
      go_enter Try.func11, Try.ntmps11
      go_wp2_with (first
          | (
             go_at_call 22; refine (hA _).mono ?_; rintro e w2 ⟨rfl, hb2⟩; clear hA
             have k0 := keep hb2 (b := w.heap.size) (o := 0) (x := .int .i64 p1) (by first | assumption | go_simp)
             have k1 := keep hb2 (b := w.heap.size) (o := 1) (x := .int .i64 p2) (by first | assumption | go_simp)
             have k2 := keep hb2 (b := w.heap.size) (o := 2) (x := .int .i64 a1) (by first | assumption | go_simp)
             have k3 := keep hb2 (b := w.heap.size) (o := 3) (x := .int .i64 a2) (by first | assumption | go_simp)
             have k4 := keep hb2 (b := w.heap.size) (o := 4) (x := .slice x n c) (by first | assumption | go_simp)
             have r0 := keep hb2 (b := w.heap.size + 1) (o := 0) (x := .int .i64 0) (by first | assumption | go_simp)
             have r1 := keep hb2 (b := w.heap.size + 1) (o := 1) (x := .int .i64 0) (by first | assumption | go_simp)
             have B2 := on (b0 _ _) hb2; clear hb2)
          | (
             go_at_call 9; refine (hL _).mono ?_; rintro e w3 ⟨rfl, hb3⟩; clear hL
             have k0 := keep hb3 (b := w.heap.size) (o := 0) (x := .int .i64 p1) (by first | assumption | go_simp)
             have k1 := keep hb3 (b := w.heap.size) (o := 1) (x := .int .i64 p2) (by first | assumption | go_simp)
             have k2 := keep hb3 (b := w.heap.size) (o := 2) (x := .int .i64 a1) (by first | assumption | go_simp)
             have k3 := keep hb3 (b := w.heap.size) (o := 3) (x := .int .i64 a2) (by first | assumption | go_simp)
             have k4 := keep hb3 (b := w.heap.size) (o := 4) (x := .slice x n c) (by first | assumption | go_simp)
             have r0 := keep hb3 (b := w.heap.size + 1) (o := 0) (x := .int .i64 0) (by first | assumption | go_simp)
             have r1 := keep hb3 (b := w.heap.size + 1) (o := 1) (x := .int .i64 0) (by first | assumption | go_simp)
             have B3 := on B2 hb3; clear hb3))
      go_ret
      exact ⟨by simp, B3⟩

theorem rmay_2 (p a : Bt) (x : Option Addr) (n c : Nat) (w : World) (ezp : zb p = true) (eza : zb a = true) : Calls Try.prog 11 #[ac p a x n c] w fun e w' => e = .returned (.bool (mayA p a n)) ∧ Below w.heap.size w w' := by
  obtain ⟨p1, p2⟩ := p
  obtain ⟨a1, a2⟩ := a
  have hP := fun W => rballot_any (p1, p2) W
  have hA := fun W => rballot_any (a1, a2) W
  have hL := fun W => rless_any (p1, p2) (a1, a2) W
  have hzp := fun W => neq_bt p1 p2 0 0 W
  have hza := fun W => neq_bt a1 a2 0 0 W
  have ezp2 : (decide (p1 = 0) && decide (p2 = 0)) = zb (p1, p2) := rfl
  have eza2 : (decide (a1 = 0) && decide (a2 = 0)) = zb (a1, a2) := rfl
  rw [ezp2] at hzp
  rw [eza2] at hza
  clear ezp2 eza2
  unfold mayA mzb
  generalize zb (p1, p2) = zp at *
  subst ezp
  generalize zb (a1, a2) = za at *
  subst eza
  generalize mayb (p1, p2) = mp at *
  generalize mayb (a1, a2) = ma at *
  generalize ltb (p1, p2) (a1, a2) = tl at *
  dsimp only [bt, ac] at *
  have b0 : ∀ x y, Below w.heap.size w ((w.alloc x).alloc y) := fun x y => on (al _ _) (al _ _)
  cases tl with
  | true =>
    go_enter Try.func11, Try.ntmps11
    go_wp2_with (first
        | (
           go_at_call 9; refine (hL _).mono ?_; rintro e w3 ⟨rfl, hb3⟩; clear hL
           have k0 := keep hb3 (b := w.heap.size) (o := 0) (x := .int .i64 p1) (by first | assumption | go_simp)
           have k1 := keep hb3 (b := w.heap.size) (o := 1) (x := .int .i64 p2) (by first | assumption | go_simp)
           have k2 := keep hb3 (b := w.heap.size) (o := 2) (x := .int .i64 a1) (by first | assumption | go_simp)
           have k3 := keep hb3 (b := w.heap.size) (o := 3) (x := .int .i64 a2) (by first | assumption | go_simp)
           have k4 := keep hb3 (b := w.heap.size) (o := 4) (x := .slice x n c) (by first | assumption | go_simp)
           have r0 := keep hb3 (b := w.heap.size + 1) (o := 0) (x := .int .i64 0) (by first | assumption | go_simp)
           have r1 := keep hb3 (b := w.heap.size + 1) (o := 1) (x := .int .i64 0) (by first | assumption | go_simp)
           have B3 := on (b0 _ _) hb3; clear hb3))
    go_ret
    exact ⟨by simp, B3⟩
  | false =>
    go_enter Try.func11, Try.ntmps11
    go_wp2_with (first
        | (
           go_at_call 9; refine (hL _).mono ?_; rintro e w3 ⟨rfl, hb3⟩; clear hL
           have k0 := keep hb3 (b := w.heap.size) (o := 0) (x := .int .i64 p1) (by first | assumption | go_simp)
           have k1 := keep hb3 (b := w.heap.size) (o := 1) (x := .int .i64 p2) (by first | assumption | go_simp)
           have k2 := keep hb3 (b := w.heap.size) (o := 2) (x := .int .i64 a1) (by first | assumption | go_simp)
           have k3 := keep hb3 (b := w.heap.size) (o := 3) (x := .int .i64 a2) (by first | assumption | go_simp)
           have k4 := keep hb3 (b := w.heap.size) (o := 4) (x := .slice x n c) (by first | assumption | go_simp)
           have r0 := keep hb3 (b := w.heap.size + 1) (o := 0) (x := .int .i64 0) (by first | assumption | go_simp)
           have r1 := keep hb3 (b := w.heap.size + 1) (o := 1) (x := .int .i64 0) (by first | assumption | go_simp)
           have B3 := on (b0 _ _) hb3; clear hb3))
    go_ret
    exact ⟨by simp [nz], B3⟩

theorem rmay_3 (p a : Bt) (x : Option Addr) (n c : Nat) (w : World) (ezp : zb p = false) (emp : mayb p = true) (eza : zb a = false) : Calls Try.prog 11 #[ac p a x n c] w fun e w' => e = .returned (.bool (mayA p a n)) ∧ Below w.heap.size w w' := by
  obtain ⟨p1, p2⟩ := p
  obtain ⟨a1, a2⟩ := a
  have hP := fun W => rballot_any (p1, p2) W
  have hA := fun W => rballot_any (a1, a2) W
  have hL := fun W => rless_any (p1, p2) (a1, a2) W
  have hzp := fun W => neq_bt p1 p2 0 0 W
  have hza := fun W => neq_bt a1 a2 0 0 W
  have ezp2 : (decide (p1 = 0) && decide (p2 = 0)) = zb (p1, p2) := rfl
  have eza2 : (decide (a1 = 0) && decide (a2 = 0)) = zb (a1, a2) := rfl
  rw [ezp2] at hzp
  rw [eza2] at hza
  clear ezp2 eza2
  unfold mayA mzb
  generalize zb (p1, p2) = zp at *
  subst ezp
  generalize zb (a1, a2) = za at *
  subst eza
  generalize mayb (p1, p2) = mp at *
  subst emp
  generalize mayb (a1, a2) = ma at *
  generalize ltb (p1, p2) (a1, a2) = tl at *
  dsimp only [bt, ac] at *
  have b0 : ∀ x y, Below w.heap.size w ((w.alloc x).alloc y) := fun x y => on (al _ _) (al _ _)
  cases ma with
  | false =>
    go_enter Try.func11, Try.ntmps11
    go_wp2_with (first
        | (
           go_at_call 22; refine (hP _).mono ?_; rintro e w1 ⟨rfl, hb1⟩; clear hP
           have k0 := keep hb1 (b := w.heap.size) (o := 0) (x := .int .i64 p1) (by first | assumption | go_simp)
           have k1 := keep hb1 (b := w.heap.size) (o := 1) (x := .int .i64 p2) (by first | assumption | go_simp)
           have k2 := keep hb1 (b := w.heap.size) (o := 2) (x := .int .i64 a1) (by first | assumption | go_simp)
           have k3 := keep hb1 (b := w.heap.size) (o := 3) (x := .int .i64 a2) (by first | assumption | go_simp)
           have k4 := keep hb1 (b := w.heap.size) (o := 4) (x := .slice x n c) (by first | assumption | go_simp)
           have r0 := keep hb1 (b := w.heap.size + 1) (o := 0) (x := .int .i64 0) (by first | assumption | go_simp)
           have r1 := keep hb1 (b := w.heap.size + 1) (o := 1) (x := .int .i64 0) (by first | assumption | go_simp)
           have B1 := on (b0 _ _) hb1; clear hb1)
        | (
           go_at_call 22; refine (hA _).mono ?_; rintro e w2 ⟨rfl, hb2⟩; clear hA
           have k0 := keep hb2 (b := w.heap.size) (o := 0) (x := .int .i64 p1) (by first | assumption | go_simp)
           have k1 := keep hb2 (b := w.heap.size) (o := 1) (x := .int .i64 p2) (by first | assumption | go_simp)
           have k2 := keep hb2 (b := w.heap.size) (o := 2) (x := .int .i64 a1) (by first | assumption | go_simp)
           have k3 := keep hb2 (b := w.heap.size) (o := 3) (x := .int .i64 a2) (by first | assumption | go_simp)
           have k4 := keep hb2 (b := w.heap.size) (o := 4) (x := .slice x n c) (by first | assumption | go_simp)
           have r0 := keep hb2 (b := w.heap.size + 1) (o := 0) (x := .int .i64 0) (by first | assumption | go_simp)
           have r1 := keep hb2 (b := w.heap.size + 1) (o := 1) (x := .int .i64 0) (by first | assumption | go_simp)
           have B2 := on B1 hb2; clear hb2))
    go_ret
    exact ⟨by simp, B2⟩
  | true =>
    cases tl with
    | true =>
      go_enter Try.func11, Try.ntmps11
      go_wp2_with (first
          | (
             go_at_call 22; refine (hP _).mono ?_; rintro e w1 ⟨rfl, hb1⟩; clear hP
             have k0 := keep hb1 (b := w.heap.size) (o := 0) (x := .int .i64 p1) (by first | assumption | go_simp)
             have k1 := keep hb1 (b := w.heap.size) (o := 1) (x := .int .i64 p2) (by first | assumption | go_simp)
             have k2 := keep hb1 (b := w.heap.size) (o := 2) (x := .int .i64 a1) (by first | assumption | go_simp)
             have k3 := keep hb1 (b := w.heap.size) (o := 3) (x := .int .i64 a2) (by first | assumption | go_simp)
             have k4 := keep hb1 (b := w.heap.size) (o := 4) (x := .slice x n c) (by first | assumption | go_simp)
             have r0 := keep hb1 (b := w.heap.size + 1) (o := 0) (x := .int .i64 0) (by first | assumption | go_simp)
             have r1 := keep hb1 (b := w.heap.size + 1) (o := 1) (x := .int .i64 0) (by first | assumption | go_simp)
             have B1 := on (b0 _ _) hb1; clear hb1)
          | (
             go_at_call 22; refine (hA _).mono ?_; rintro e w2 ⟨rfl, hb2⟩; clear hA
             have k0 := keep hb2 (b := w.heap.size) (o := 0) (x := .int .i64 p1) (by first | assumption | go_simp)
             have k1 := keep hb2 (b := w.heap.size) (o := 1) (x := .int .i64 p2) (by first | assumption | go_simp)
             have k2 := keep hb2 (b := w.heap.size) (o := 2) (x := .int .i64 a1) (by first | assumption | go_simp)
             have k3 := keep hb2 (b := w.heap.size) (o := 3) (x := .int .i64 a2) (by first | assumption | go_simp)
             have k4 := keep hb2 (b := w.heap.size) (o := 4) (x := .slice x n c) (by first | assumption | go_simp)
             have r0 := keep hb2 (b := w.heap.size + 1) (o := 0) (x := .int .i64 0) (by first | assumption | go_simp)
             have r1 := keep hb2 (b := w.heap.size + 1) (o := 1) (x := .int .i64 0) (by first | assumption | go_simp)
             have B2 := on B1 hb2; clear hb2)
          | (
             go_at_call 9; refine (hL _).mono ?_; rintro e w3 ⟨rfl, hb3⟩; clear hL
             have k0 := keep hb3 (b := w.heap.size) (o := 0) (x := .int .i64 p1) (by first | assumption | go_simp)
             have k1 := keep hb3 (b := w.heap.size) (o := 1) (x := .int .i64 p2) (by first | assumption | go_simp)
             have k2 := keep hb3 (b := w.heap.size) (o := 2) (x := .int .i64 a1) (by first | assumption | go_simp)
             have k3 := keep hb3 (b := w.heap.size) (o := 3) (x := .int .i64 a2) (by first | assumption | go_simp)
             have k4 := keep hb3 (b := w.heap.size) (o := 4) (x := .slice x n c) (by first | assumption | go_simp)
             have r0 := keep hb3 (b := w.heap.size + 1) (o := 0) (x := .int .i64 0) (by first | assumption | go_simp)
             have r1 := keep hb3 (b := w.heap.size + 1) (o := 1) (x := .int .i64 0) (by first | assumption | go_simp)
             have B3 := on B2 hb3; clear hb3))
      go_ret
      exact ⟨by simp, B3⟩
    | false =>
      go_enter Try.func11, Try.ntmps11
      go_wp2_with (first
          | (
             go_at_call 22; refine (hP _).mono ?_; rintro e w1 ⟨rfl, hb1⟩; clear hP
             have k0 := keep hb1 (b := w.heap.size) (o := 0) (x := .int .i64 p1) (by first | assumption | go_simp)
             have k1 := keep hb1 (b := w.heap.size) (o := 1) (x := .int .i64 p2) (by first | assumption | go_simp)
             have k2 := keep hb1 (b := w.heap.size) (o := 2) (x := .int .i64 a1) (by first | assumption | go_simp)
             have k3 := keep hb1 (b := w.heap.size) (o := 3) (x := .int .i64 a2) (by first | assumption | go_simp)
             have k4 := keep hb1 (b := w.heap.size) (o := 4) (x := .slice x n c) (by first | assumption | go_simp)
             have r0 := keep hb1 (b := w.heap.size + 1) (o := 0) (x := .int .i64 0) (by first | assumption | go_simp)
             have r1 := keep hb1 (b := w.heap.size + 1) (o := 1) (x := .int .i64 0) (by first | assumption | go_simp)
             have B1 := on (b0 _ _) hb1; clear hb1)
          | (
             go_at_call 22; refine (hA _).mono ?_; rintro e w2 ⟨rfl, hb2⟩; clear hA
             have k0 := keep hb2 (b := w.heap.size) (o := 0) (x := .int .i64 p1) (by first | assumption | go_simp)
             have k1 := keep hb2 (b := w.heap.size) (o := 1) (x := .int .i64 p2) (by first | assumption | go_simp)
             have k2 := keep hb2 (b := w.heap.size) (o := 2) (x := .int .i64 a1) (by first | assumption | go_simp)
             have k3 := keep hb2 (b := w.heap.size) (o := 3) (x := .int .i64 a2) (by first | assumption | go_simp)
             have k4 := keep hb2 (b := w.heap.size) (o := 4) (x := .slice x n c) (by first | assumption | go_simp)
             have r0 := keep hb2 (b := w.heap.size + 1) (o := 0) (x := .int .i64 0) (by first | assumption | go_simp)
             have r1 := keep hb2 (b := w.heap.size + 1) (o := 1) (x := .int .i64 0) (by first | assumption | go_simp)
             have B2 := on B1 hb2; clear hb2)
          | (
             go_at_call 9; refine (hL _).mono ?_; rintro e w3 ⟨rfl, hb3⟩; clear hL
             have k0 := keep hb3 (b := w.heap.size) (o := 0) (x := .int .i64 p1) (by first | assumption | go_simp)
             have k1 := keep hb3 (b := w.heap.size) (o := 1) (x := .int .i64 p2) (by first | assumption | go_simp)
             have k2 := keep hb3 (b := w.heap.size) (o := 2) (x := .int .i64 a1) (by first | assumption | go_simp)
             have k3 := keep hb3 (b := w.heap.size) (o := 3) (x := .int .i64 a2) (by first | assumption | go_simp)
             have k4 := keep hb3 (b := w.heap.size) (o := 4) (x := .slice x n c) (by first | assumption | go_simp)
             have r0 := keep hb3 (b := w.heap.size + 1) (o := 0) (x := .int .i64 0) (by first | assumption | go_simp)
             have r1 := keep hb3 (b := w.heap.size + 1) (o := 1) (x := .int .i64 0) (by first | assumption | go_simp)
             have B3 := on B2 hb3; clear hb3))
      go_ret
      exact ⟨by simp, B3⟩

theorem rmay_4 (p a : Bt) (x : Option Addr) (n c : Nat) (w : World) (ezp : zb p = false) (emp : mayb p = true) (eza : zb a = true) : Calls Try.prog 11 #[ac p a x n c] w fun e w' => e = .returned (.bool (mayA p a n)) ∧ Below w.heap.size w w' := by
  obtain ⟨p1, p2⟩ := p
  obtain ⟨a1, a2⟩ := a
  have hP := fun W => rballot_any (p1, p2) W
  have hA := fun W => rballot_any (a1, a2) W
  have hL := fun W => rless_any (p1, p2) (a1, a2) W
  have hzp := fun W => neq_bt p1 p2 0 0 W
  have hza := fun W => neq_bt a1 a2 0 0 W
  have ezp2 : (decide (p1 = 0) && decide (p2 = 0)) = zb (p1, p2) := rfl
  have eza2 : (decide (a1 = 0) && decide (a2 = 0)) = zb (a1, a2) := rfl
  rw [ezp2] at hzp
  rw [eza2] at hza
  clear ezp2 eza2
  unfold mayA mzb
  generalize zb (p1, p2) = zp at *
  subst ezp
  generalize zb (a1, a2) = za at *
  subst eza
  generalize mayb (p1, p2) = mp at *
  subst emp
  generalize mayb (a1, a2) = ma at *
  generalize ltb (p1, p2) (a1, a2) = tl at *
  dsimp only [bt, ac] at *
  have b0 : ∀ x y, Below w.heap.size w ((w.alloc x).alloc y) := fun x y => on (al _ _) (al _ _)
  cases tl with
  | true =>
    go_enter Try.func11, Try.ntmps11
    go_wp2_with (first
        | (
           go_at_call 22; refine (hP _).mono ?_; rintro e w1 ⟨rfl, hb1⟩; clear hP
           have k0 := keep hb1 (b := w.heap.size) (o := 0) (x := .int .i64 p1) (by first | assumption | go_simp)
           have k1 := keep hb1 (b := w.heap.size) (o := 1) (x := .int .i64 p2) (by first | assumption | go_simp)
           have k2 := keep hb1 (b := w.heap.size) (o := 2) (x := .int .i64 a1) (by first | assumption | go_simp)
           have k3 := keep hb1 (b := w.heap.size) (o := 3) (x := .int .i64 a2) (by first | assumption | go_simp)
           have k4 := keep hb1 (b := w.heap.size) (o := 4) (x := .slice x n c) (by first | assumption | go_simp)
           have r0 := keep hb1 (b := w.heap.size + 1) (o := 0) (x := .int .i64 0) (by first | assumption | go_simp)
           have r1 := keep hb1 (b := w.heap.size + 1) (o := 1) (x := .int .i64 0) (by first | assumption | go_simp)
           have B1 := on (b0 _ _) hb1; clear hb1)
        | (
           go_at_call 9; refine (hL _).mono ?_; rintro e w3 ⟨rfl, hb3⟩; clear hL
           have k0 := keep hb3 (b := w.heap.size) (o := 0) (x := .int .i64 p1) (by first | assumption | go_simp)
           have k1 := keep hb3 (b := w.heap.size) (o := 1) (x := .int .i64 p2) (by first | assumption | go_simp)
           have k2 := keep hb3 (b := w.heap.size) (o := 2) (x := .int .i64 a1) (by first | assumption | go_simp)
           have k3 := keep hb3 (b := w.heap.size) (o := 3) (x := .int .i64 a2) (by first | assumption | go_simp)
           have k4 := keep hb3 (b := w.heap.size) (o := 4) (x := .slice x n c) (by first | assumption | go_simp)
           have r0 := keep hb3 (b := w.heap.size + 1) (o := 0) (x := .int .i64 0) (by first | assumption | go_simp)
           have r1 := keep hb3 (b := w.heap.size + 1) (o := 1) (x := .int .i64 0) (by first | assumption | go_simp)
           have B3 := on B1 hb3; clear hb3))
    go_ret
    exact ⟨by simp, B3⟩
  | false =>
    go_enter Try.func11, Try.ntmps11
    go_wp2_with (first
        | (
           go_at_call 22; refine (hP _).mono ?_; rintro e w1 ⟨rfl, hb1⟩; clear hP
           have k0 := keep hb1 (b := w.heap.size) (o := 0) (x := .int .i64 p1) (by first | assumption | go_simp)
           have k1 := keep hb1 (b := w.heap.size) (o := 1) (x := .int .i64 p2) (by first | assumption | go_simp)
           have k2 := keep hb1 (b := w.heap.size) (o := 2) (x := .int .i64 a1) (by first | assumption | go_simp)
           have k3 := keep hb1 (b := w.heap.size) (o := 3) (x := .int .i64 a2) (by first | assumption | go_simp)
           have k4 := keep hb1 (b := w.heap.size) (o := 4) (x := .slice x n c) (by first | assumption | go_simp)
           have r0 := keep hb1 (b := w.heap.size + 1) (o := 0) (x := .int .i64 0) (by first | assumption | go_simp)
           have r1 := keep hb1 (b := w.heap.size + 1) (o := 1) (x := .int .i64 0) (by first | assumption | go_simp)
           have B1 := on (b0 _ _) hb1; clear hb1)
        | (
           go_at_call 9; refine (hL _).mono ?_; rintro e w3 ⟨rfl, hb3⟩; clear hL
           have k0 := keep hb3 (b := w.heap.size) (o := 0) (x := .int .i64 p1) (by first | assumption | go_simp)
           have k1 := keep hb3 (b := w.heap.size) (o := 1) (x := .int .i64 p2) (by first | assumption | go_simp)
           have k2 := keep hb3 (b := w.heap.size) (o := 2) (x := .int .i64 a1) (by first | assumption | go_simp)
           have k3 := keep hb3 (b := w.heap.size) (o := 3) (x := .int .i64 a2) (by first | assumption | go_simp)
           have k4 := keep hb3 (b := w.heap.size) (o := 4) (x := .slice x n c) (by first | assumption | go_simp)
           have r0 := keep hb3 (b := w.heap.size + 1) (o := 0) (x := .int .i64 0) (by first | assumption | go_simp)
           have r1 := keep hb3 (b := w.heap.size + 1) (o := 1) (x := .int .i64 0) (by first | assumption | go_simp)
           have B3 := on B1 hb3; clear hb3))
    go_ret
    exact ⟨by simp [nz], B3⟩

theorem rmay_5 (p a : Bt) (x : Option Addr) (n c : Nat) (w : World) (ezp : zb p = false) (emp : mayb p = false) : Calls Try.prog 11 #[ac p a x n c] w fun e w' => e = .returned (.bool (mayA p a n)) ∧ Below w.heap.size w w' := by
  obtain ⟨p1, p2⟩ := p
  obtain ⟨a1, a2⟩ := a
  have hP := fun W => rballot_any (p1, p2) W
  have hA := fun W => rballot_any (a1, a2) W
  have hL := fun W => rless_any (p1, p2) (a1, a2) W
  have hzp := fun W => neq_bt p1 p2 0 0 W
  have hza := fun W => neq_bt a1 a2 0 0 W
  have ezp2 : (decide (p1 = 0) && decide (p2 = 0)) = zb (p1, p2) := rfl
  have eza2 : (decide (a1 = 0) && decide (a2 = 0)) = zb (a1, a2) := rfl
  rw [ezp2] at hzp
  rw [eza2] at hza
  clear ezp2 eza2
  unfold mayA mzb
  generalize zb (p1, p2) = zp at *
  subst ezp
  generalize zb (a1, a2) = za at *
  generalize mayb (p1, p2) = mp at *
  subst emp
  generalize mayb (a1, a2) = ma at *
  generalize ltb (p1, p2) (a1, a2) = tl at *
  dsimp only [bt, ac] at *
  have b0 : ∀ x y, Below w.heap.size w ((w.alloc x).alloc y) := fun x y => on (al _ _) (al _ _)
  go_enter Try.func11, Try.ntmps11
  go_wp2_with (first
      | (
         go_at_call 22; refine (hP _).mono ?_; rintro e w1 ⟨rfl, hb1⟩; clear hP
         have k0 := keep hb1 (b := w.heap.size) (o := 0) (x := .int .i64 p1) (by first | assumption | go_simp)
         have k1 := keep hb1 (b := w.heap.size) (o := 1) (x := .int .i64 p2) (by first | assumption | go_simp)
         have k2 := keep hb1 (b := w.heap.size) (o := 2) (x := .int .i64 a1) (by first | assumption | go_simp)
         have k3 := keep hb1 (b := w.heap.size) (o := 3) (x := .int .i64 a2) (by first | assumption | go_simp)
         have k4 := keep hb1 (b := w.heap.size) (o := 4) (x := .slice x n c) (by first | assumption | go_simp)
         have r0 := keep hb1 (b := w.heap.size + 1) (o := 0) (x := .int .i64 0) (by first | assumption | go_simp)
         have r1 := keep hb1 (b := w.heap.size + 1) (o := 1) (x := .int .i64 0) (by first | assumption | go_simp)
         have B1 := on (b0 _ _) hb1; clear hb1))
  go_ret
  exact ⟨by simp, B1⟩

theorem rmay_any (p a : Bt) (x : Option Addr) (n c : Nat) (w : World) : Calls Try.prog 11 #[ac p a x n c] w fun e w' => e = .returned (.bool (mayA p a n)) ∧ Below w.heap.size w w' := by
  cases h1 : zb p with
  | true =>
    cases h2 : zb a with
    | false => exact rmay_1 p a x n c w h1 h2
    | true => exact rmay_2 p a x n c w h1 h2
  | false =>
    cases h3 : mayb p with
    | false => exact rmay_5 p a x n c w h1 h3
    | true =>
      cases h2 : zb a with
      | false => exact rmay_3 p a x n c w h1 h3 h2
      | true => exact rmay_4 p a x n c w h1 h3 h2

theorem rprep_a (p a : Bt) (x : Option Addr) (n c : Nat) (b : Bt) (w : World) (h1 : mayA p a n = false) :
    Calls Try.prog 14 #[ac p a x n c, bt b] w fun e w' => e = .returned (.tuple #[ac p a x n c, .bool false]) ∧ Below w.heap.size w w' := by
  have hM := fun W => rmay_any p a x n c W
  rw [h1] at hM
  clear h1
  obtain ⟨p1, p2⟩ := p
  obtain ⟨a1, a2⟩ := a
  obtain ⟨b1, b2⟩ := b
  dsimp only [bt, ac] at *
  have b0 : ∀ x y z, Below w.heap.size w (((w.alloc x).alloc y).alloc z) := fun x y z => on (on (al _ _) (al _ _)) (al _ _)
  go_enter Try.func14, Try.ntmps14
  go_wp2_with (first
    | (
       go_at_call 11; refine (hM _).mono ?_; rintro e w1 ⟨rfl, hb1⟩; clear hM
       have k0 := keep hb1 (b := w.heap.size) (o := 0) (x := .int .i64 p1) (by first | assumption | go_simp)
       have k1 := keep hb1 (b := w.heap.size) (o := 1) (x := .int .i64 p2) (by first | assumption | go_simp)
       have k2 := keep hb1 (b := w.heap.size) (o := 2) (x := .int .i64 a1) (by first | assumption | go_simp)
       have k3 := keep hb1 (b := w.heap.size) (o := 3) (x := .int .i64 a2) (by first | assumption | go_simp)
       have k4 := keep hb1 (b := w.heap.size) (o := 4) (x := .slice x n c) (by first | assumption | go_simp)
       have j0 := keep hb1 (b := w.heap.size + 1) (o := 0) (x := .int .i64 b1) (by first | assumption | go_simp)
       have j1 := keep hb1 (b := w.heap.size + 1) (o := 1) (x := .int .i64 b2) (by first | assumption | go_simp)
       have r0 := keep hb1 (b := w.heap.size + 1 + 1) (o := 0) (x := .int .i64 0) (by first | assumption | go_simp)
       have r1 := keep hb1 (b := w.heap.size + 1 + 1) (o := 1) (x := .int .i64 0) (by first | assumption | go_simp)
       have r2 := keep hb1 (b := w.heap.size + 1 + 1) (o := 2) (x := .int .i64 0) (by first | assumption | go_simp)
       have r3 := keep hb1 (b := w.heap.size + 1 + 1) (o := 3) (x := .int .i64 0) (by first | assumption | go_simp)
       have r4 := keep hb1 (b := w.heap.size + 1 + 1) (o := 4) (x := .slice none 0 0) (by first | assumption | go_simp)
       have g0 := keepf hb1 (b := w.heap.size + 1 + 1) (o := 0) (by first | (simp <;> omega) | exact cell_lt' (a := ⟨w.heap.size + 1 + 1, 0, none⟩) (by assumption) | (simp; exact cell_lt' (a := ⟨w.heap.size + 1 + 1, 0, none⟩) (by assumption))) (by first | assumption | go_simp)
       have g1 := keepf hb1 (b := w.heap.size + 1 + 1) (o := 1) (by first | (simp <;> omega) | exact cell_lt' (a := ⟨w.heap.size + 1 + 1, 1, none⟩) (by assumption) | (simp; exact cell_lt' (a := ⟨w.heap.size + 1 + 1, 1, none⟩) (by assumption))) (by first | assumption | go_simp)
       have g2 := keepf hb1 (b := w.heap.size + 1 + 1) (o := 2) (by first | (simp <;> omega) | exact cell_lt' (a := ⟨w.heap.size + 1 + 1, 2, none⟩) (by assumption) | (simp; exact cell_lt' (a := ⟨w.heap.size + 1 + 1, 2, none⟩) (by assumption))) (by first | assumption | go_simp)
       have g3 := keepf hb1 (b := w.heap.size + 1 + 1) (o := 3) (by first | (simp <;> omega) | exact cell_lt' (a := ⟨w.heap.size + 1 + 1, 3, none⟩) (by assumption) | (simp; exact cell_lt' (a := ⟨w.heap.size + 1 + 1, 3, none⟩) (by assumption))) (by first | assumption | go_simp)
       have g4 := keepf hb1 (b := w.heap.size + 1 + 1) (o := 4) (by first | (simp <;> omega) | exact cell_lt' (a := ⟨w.heap.size + 1 + 1, 4, none⟩) (by assumption) | (simp; exact cell_lt' (a := ⟨w.heap.size + 1 + 1, 4, none⟩) (by assumption))) (by first | assumption | go_simp)
       have f0 := keepf hb1 (b := w.heap.size) (o := 0) (by first | (simp <;> omega) | exact cell_lt' (a := ⟨w.heap.size, 0, none⟩) (by assumption) | (simp; exact cell_lt' (a := ⟨w.heap.size, 0, none⟩) (by assumption))) (by first | assumption | go_simp)
       have f1 := keepf hb1 (b := w.heap.size) (o := 1) (by first | (simp <;> omega) | exact cell_lt' (a := ⟨w.heap.size, 1, none⟩) (by assumption) | (simp; exact cell_lt' (a := ⟨w.heap.size, 1, none⟩) (by assumption))) (by first | assumption | go_simp)
       have B1 := on (b0 _ _ _) hb1; clear hb1))
  refine bodyPost_ret (v := .tuple #[.agg #[.int .i64 p1, .int .i64 p2, .int .i64 a1, .int .i64 a2, .slice x n c], .bool false]) ?_ rfl ⟨rfl, B1.trans (Turns.below (F := fun k => w.heap.size ≤ k) ?_ (fun _ h => h) B1.size)⟩
  · rw [results_cell2 rfl]
    go_simp
  · exact (Turns.refl (fun k => w.heap.size ≤ k) w1).set5 (w.heap.size + 1 + 1) (by omega) _ _ _ _ _

theorem rprep_b (p a : Bt) (x : Option Addr) (n c : Nat) (b : Bt) (w : World) (h1 : mayA p a n = true) (h2 : mayb b = false) :
    Calls Try.prog 14 #[ac p a x n c, bt b] w fun e w' => e = .returned (.tuple #[ac p a x n c, .bool false]) ∧ Below w.heap.size w w' := by
  have hM := fun W => rmay_any p a x n c W
  rw [h1] at hM
  have hB := fun W => rballot_any b W
  rw [h2] at hB
  clear h2
  clear h1
  obtain ⟨p1, p2⟩ := p
  obtain ⟨a1, a2⟩ := a
  obtain ⟨b1, b2⟩ := b
  dsimp only [bt, ac] at *
  have b0 : ∀ x y z, Below w.heap.size w (((w.alloc x).alloc y).alloc z) := fun x y z => on (on (al _ _) (al _ _)) (al _ _)
  go_enter Try.func14, Try.ntmps14
  go_wp2_with (first
    | (
       go_at_call 11; refine (hM _).mono ?_; rintro e w1 ⟨rfl, hb1⟩; clear hM
       have k0 := keep hb1 (b := w.heap.size) (o := 0) (x := .int .i64 p1) (by first | assumption | go_simp)
       have k1 := keep hb1 (b := w.heap.size) (o := 1) (x := .int .i64 p2) (by first | assumption | go_simp)
       have k2 := keep hb1 (b := w.heap.size) (o := 2) (x := .int .i64 a1) (by first | assumption | go_simp)
       have k3 := keep hb1 (b := w.heap.size) (o := 3) (x := .int .i64 a2) (by first | assumption | go_simp)
       have k4 := keep hb1 (b := w.heap.size) (o := 4) (x := .slice x n c) (by first | assumption | go_simp)
       have j0 := keep hb1 (b := w.heap.size + 1) (o := 0) (x := .int .i64 b1) (by first | assumption | go_simp)
       have j1 := keep hb1 (b := w.heap.size + 1) (o := 1) (x := .int .i64 b2) (by first | assumption | go_simp)
       have r0 := keep hb1 (b := w.heap.size + 1 + 1) (o := 0) (x := .int .i64 0) (by first | assumption | go_simp)
       have r1 := keep hb1 (b := w.heap.size + 1 + 1) (o := 1) (x := .int .i64 0) (by first | assumption | go_simp)
       have r2 := keep hb1 (b := w.heap.size + 1 + 1) (o := 2) (x := .int .i64 0) (by first | assumption | go_simp)
       have r3 := keep hb1 (b := w.heap.size + 1 + 1) (o := 3) (x := .int .i64 0) (by first | assumption | go_simp)
       have r4 := keep hb1 (b := w.heap.size + 1 + 1) (o := 4) (x := .slice none 0 0) (by first | assumption | go_simp)
       have g0 := keepf hb1 (b := w.heap.size + 1 + 1) (o := 0) (by first | (simp <;> omega) | exact cell_lt' (a := ⟨w.heap.size + 1 + 1, 0, none⟩) (by assumption) | (simp; exact cell_lt' (a := ⟨w.heap.size + 1 + 1, 0, none⟩) (by assumption))) (by first | assumption | go_simp)
       have g1 := keepf hb1 (b := w.heap.size + 1 + 1) (o := 1) (by first | (simp <;> omega) | exact cell_lt' (a := ⟨w.heap.size + 1 + 1, 1, none⟩) (by assumption) | (simp; exact cell_lt' (a := ⟨w.heap.size + 1 + 1, 1, none⟩) (by assumption))) (by first | assumption | go_simp)
       have g2 := keepf hb1 (b := w.heap.size + 1 + 1) (o := 2) (by first | (simp <;> omega) | exact cell_lt' (a := ⟨w.heap.size + 1 + 1, 2, none⟩) (by assumption) | (simp; exact cell_lt' (a := ⟨w.heap.size + 1 + 1, 2, none⟩) (by assumption))) (by first | assumption | go_simp)
       have g3 := keepf hb1 (b := w.heap.size + 1 + 1) (o := 3) (by first | (simp <;> omega) | exact cell_lt' (a := ⟨w.heap.size + 1 + 1, 3, none⟩) (by assumption) | (simp; exact cell_lt' (a := ⟨w.heap.size + 1 + 1, 3, none⟩) (by assumption))) (by first | assumption | go_simp)
       have g4 := keepf hb1 (b := w.heap.size + 1 + 1) (o := 4) (by first | (simp <;> omega) | exact cell_lt' (a := ⟨w.heap.size + 1 + 1, 4, none⟩) (by assumption) | (simp; exact cell_lt' (a := ⟨w.heap.size + 1 + 1, 4, none⟩) (by assumption))) (by first | assumption | go_simp)
       have f0 := keepf hb1 (b := w.heap.size) (o := 0) (by first | (simp <;> omega) | exact cell_lt' (a := ⟨w.heap.size, 0, none⟩) (by assumption) | (simp; exact cell_lt' (a := ⟨w.heap.size, 0, none⟩) (by assumption))) (by first | assumption | go_simp)
       have f1 := keepf hb1 (b := w.heap.size) (o := 1) (by first | (simp <;> omega) | exact cell_lt' (a := ⟨w.heap.size, 1, none⟩) (by assumption) | (simp; exact cell_lt' (a := ⟨w.heap.size, 1, none⟩) (by assumption))) (by first | assumption | go_simp)
       have B1 := on (b0 _ _ _) hb1; clear hb1)
    | (
       go_at_call 22; refine (hB _).mono ?_; rintro e w2 ⟨rfl, hb2⟩; clear hB
       have k0 := keep hb2 (b := w.heap.size) (o := 0) (x := .int .i64 p1) (by first | assumption | go_simp)
       have k1 := keep hb2 (b := w.heap.size) (o := 1) (x := .int .i64 p2) (by first | assumption | go_simp)
       have k2 := keep hb2 (b := w.heap.size) (o := 2) (x := .int .i64 a1) (by first | assumption | go_simp)
       have k3 := keep hb2 (b := w.heap.size) (o := 3) (x := .int .i64 a2) (by first | assumption | go_simp)
       have k4 := keep hb2 (b := w.heap.size) (o := 4) (x := .slice x n c) (by first | assumption | go_simp)
       have j0 := keep hb2 (b := w.heap.size + 1) (o := 0) (x := .int .i64 b1) (by first | assumption | go_simp)
       have j1 := keep hb2 (b := w.heap.size + 1) (o := 1) (x := .int .i64 b2) (by first | assumption | go_simp)
       have r0 := keep hb2 (b := w.heap.size + 1 + 1) (o := 0) (x := .int .i64 0) (by first | assumption | go_simp)
       have r1 := keep hb2 (b := w.heap.size + 1 + 1) (o := 1) (x := .int .i64 0) (by first | assumption | go_simp)
       have r2 := keep hb2 (b := w.heap.size + 1 + 1) (o := 2) (x := .int .i64 0) (by first | assumption | go_simp)
       have r3 := keep hb2 (b := w.heap.size + 1 + 1) (o := 3) (x := .int .i64 0) (by first | assumption | go_simp)
       have r4 := keep hb2 (b := w.heap.size + 1 + 1) (o := 4) (x := .slice none 0 0) (by first | assumption | go_simp)
       have g0 := keepf hb2 (b := w.heap.size + 1 + 1) (o := 0) (by first | (simp <;> omega) | exact cell_lt' (a := ⟨w.heap.size + 1 + 1, 0, none⟩) (by assumption) | (simp; exact cell_lt' (a := ⟨w.heap.size + 1 + 1, 0, none⟩) (by assumption))) (by first | assumption | go_simp)
       have g1 := keepf hb2 (b := w.heap.size + 1 + 1) (o := 1) (by first | (simp <;> omega) | exact cell_lt' (a := ⟨w.heap.size + 1 + 1, 1, none⟩) (by assumption) | (simp; exact cell_lt' (a := ⟨w.heap.size + 1 + 1, 1, none⟩) (by assumption))) (by first | assumption | go_simp)
       have g2 := keepf hb2 (b := w.heap.size + 1 + 1) (o := 2) (by first | (simp <;> omega) | exact cell_lt' (a := ⟨w.heap.size + 1 + 1, 2, none⟩) (by assumption) | (simp; exact cell_lt' (a := ⟨w.heap.size + 1 + 1, 2, none⟩) (by assumption))) (by first | assumption | go_simp)
       have g3 := keepf hb2 (b := w.heap.size + 1 + 1) (o := 3) (by first | (simp <;> omega) | exact cell_lt' (a := ⟨w.heap.size + 1 + 1, 3, none⟩) (by assumption) | (simp; exact cell_lt' (a := ⟨w.heap.size + 1 + 1, 3, none⟩) (by assumption))) (by first | assumption | go_simp)
       have g4 := keepf hb2 (b := w.heap.size + 1 + 1) (o := 4) (by first | (simp <;> omega) | exact cell_lt' (a := ⟨w.heap.size + 1 + 1, 4, none⟩) (by assumption) | (simp; exact cell_lt' (a := ⟨w.heap.size + 1 + 1, 4, none⟩) (by assumption))) (by first | assumption | go_simp)
       have f0 := keepf hb2 (b := w.heap.size) (o := 0) (by first | (simp <;> omega) | exact cell_lt' (a := ⟨w.heap.size, 0, none⟩) (by assumption) | (simp; exact cell_lt' (a := ⟨w.heap.size, 0, none⟩) (by assumption))) (by first | assumption | go_simp)
       have f1 := keepf hb2 (b := w.heap.size) (o := 1) (by first | (simp <;> omega) | exact cell_lt' (a := ⟨w.heap.size, 1, none⟩) (by assumption) | (simp; exact cell_lt' (a := ⟨w.heap.size, 1, none⟩) (by assumption))) (by first | assumption | go_simp)
       have B2 := on B1 hb2; clear hb2))
  refine bodyPost_ret (v := .tuple #[.agg #[.int .i64 p1, .int .i64 p2, .int .i64 a1, .int .i64 a2, .slice x n c], .bool false]) ?_ rfl ⟨rfl, B2.trans (Turns.below (F := fun k => w.heap.size ≤ k) ?_ (fun _ h => h) B2.size)⟩
  · rw [results_cell2 rfl]
    go_simp
  · exact (Turns.refl (fun k => w.heap.size ≤ k) w2).set5 (w.heap.size + 1 + 1) (by omega) _ _ _ _ _

theorem rprep_c (p a : Bt) (x : Option Addr) (n c : Nat) (b : Bt) (w : World) (h1 : mayA p a n = true) (h2 : mayb b = true) (h3 : ltb b p = true) :
    Calls Try.prog 14 #[ac p a x n c, bt b] w fun e w' => e = .returned (.tuple #[ac p a x n c, .bool false]) ∧ Below w.heap.size w w' := by
  have hM := fun W => rmay_any p a x n c W
  rw [h1] at hM
  have hB := fun W => rballot_any b W
  rw [h2] at hB
  clear h2
  have hL := fun W => rless_any b p W
  rw [h3] at hL
  clear h3
  clear h1
  obtain ⟨p1, p2⟩ := p
  obtain ⟨a1, a2⟩ := a
  obtain ⟨b1, b2⟩ := b
  dsimp only [bt, ac] at *
  have b0 : ∀ x y z, Below w.heap.size w (((w.alloc x).alloc y).alloc z) := fun x y z => on (on (al _ _) (al _ _)) (al _ _)
  go_enter Try.func14, Try.ntmps14
  go_wp2_with (first
    | (
       go_at_call 11; refine (hM _).mono ?_; rintro e w1 ⟨rfl, hb1⟩; clear hM
       have k0 := keep hb1 (b := w.heap.size) (o := 0) (x := .int .i64 p1) (by first | assumption | go_simp)
       have k1 := keep hb1 (b := w.heap.size) (o := 1) (x := .int .i64 p2) (by first | assumption | go_simp)
       have k2 := keep hb1 (b := w.heap.size) (o := 2) (x := .int .i64 a1) (by first | assumption | go_simp)
       have k3 := keep hb1 (b := w.heap.size) (o := 3) (x := .int .i64 a2) (by first | assumption | go_simp)
       have k4 := keep hb1 (b := w.heap.size) (o := 4) (x := .slice x n c) (by first | assumption | go_simp)
       have j0 := keep hb1 (b := w.heap.size + 1) (o := 0) (x := .int .i64 b1) (by first | assumption | go_simp)
       have j1 := keep hb1 (b := w.heap.size + 1) (o := 1) (x := .int .i64 b2) (by first | assumption | go_simp)
       have r0 := keep hb1 (b := w.heap.size + 1 + 1) (o := 0) (x := .int .i64 0) (by first | assumption | go_simp)
       have r1 := keep hb1 (b := w.heap.size + 1 + 1) (o := 1) (x := .int .i64 0) (by first | assumption | go_simp)
       have r2 := keep hb1 (b := w.heap.size + 1 + 1) (o := 2) (x := .int .i64 0) (by first | assumption | go_simp)
       have r3 := keep hb1 (b := w.heap.size + 1 + 1) (o := 3) (x := .int .i64 0) (by first | assumption | go_simp)
       have r4 := keep hb1 (b := w.heap.size + 1 + 1) (o := 4) (x := .slice none 0 0) (by first | assumption | go_simp)
       have g0 := keepf hb1 (b := w.heap.size + 1 + 1) (o := 0) (by first | (simp <;> omega) | exact cell_lt' (a := ⟨w.heap.size + 1 + 1, 0, none⟩) (by assumption) | (simp; exact cell_lt' (a := ⟨w.heap.size + 1 + 1, 0, none⟩) (by assumption))) (by first | assumption | go_simp)
       have g1 := keepf hb1 (b := w.heap.size + 1 + 1) (o := 1) (by first | (simp <;> omega) | exact cell_lt' (a := ⟨w.heap.size + 1 + 1, 1, none⟩) (by assumption) | (simp; exact cell_lt' (a := ⟨w.heap.size + 1 + 1, 1, none⟩) (by assumption))) (by first | assumption | go_simp)
       have g2 := keepf hb1 (b := w.heap.size + 1 + 1) (o := 2) (by first | (simp <;> omega) | exact cell_lt' (a := ⟨w.heap.size + 1 + 1, 2, none⟩) (by assumption) | (simp; exact cell_lt' (a := ⟨w.heap.size + 1 + 1, 2, none⟩) (by assumption))) (by first | assumption | go_simp)
       have g3 := keepf hb1 (b := w.heap.size + 1 + 1) (o := 3) (by first | (simp <;> omega) | exact cell_lt' (a := ⟨w.heap.size + 1 + 1, 3, none⟩) (by assumption) | (simp; exact cell_lt' (a := ⟨w.heap.size + 1 + 1, 3, none⟩) (by assumption))) (by first | assumption | go_simp)
       have g4 := keepf hb1 (b := w.heap.size + 1 + 1) (o := 4) (by first | (simp <;> omega) | exact cell_lt' (a := ⟨w.heap.size + 1 + 1, 4, none⟩) (by assumption) | (simp; exact cell_lt' (a := ⟨w.heap.size + 1 + 1, 4, none⟩) (by assumption))) (by first | assumption | go_simp)
       have f0 := keepf hb1 (b := w.heap.size) (o := 0) (by first | (simp <;> omega) | exact cell_lt' (a := ⟨w.heap.size, 0, none⟩) (by assumption) | (simp; exact cell_lt' (a := ⟨w.heap.size, 0, none⟩) (by assumption))) (by first | assumption | go_simp)
       have f1 := keepf hb1 (b := w.heap.size) (o := 1) (by first | (simp <;> omega) | exact cell_lt' (a := ⟨w.heap.size, 1, none⟩) (by assumption) | (simp; exact cell_lt' (a := ⟨w.heap.size, 1, none⟩) (by assumption))) (by first | assumption | go_simp)
       have B1 := on (b0 _ _ _) hb1; clear hb1)
    | (
       go_at_call 22; refine (hB _).mono ?_; rintro e w2 ⟨rfl, hb2⟩; clear hB
       have k0 := keep hb2 (b := w.heap.size) (o := 0) (x := .int .i64 p1) (by first | assumption | go_simp)
       have k1 := keep hb2 (b := w.heap.size) (o := 1) (x := .int .i64 p2) (by first | assumption | go_simp)
       have k2 := keep hb2 (b := w.heap.size) (o := 2) (x := .int .i64 a1) (by first | assumption | go_simp)
       have k3 := keep hb2 (b := w.heap.size) (o := 3) (x := .int .i64 a2) (by first | assumption | go_simp)
       have k4 := keep hb2 (b := w.heap.size) (o := 4) (x := .slice x n c) (by first | assumption | go_simp)
       have j0 := keep hb2 (b := w.heap.size + 1) (o := 0) (x := .int .i64 b1) (by first | assumption | go_simp)
       have j1 := keep hb2 (b := w.heap.size + 1) (o := 1) (x := .int .i64 b2) (by first | assumption | go_simp)
       have r0 := keep hb2 (b := w.heap.size + 1 + 1) (o := 0) (x := .int .i64 0) (by first | assumption | go_simp)
       have r1 := keep hb2 (b := w.heap.size + 1 + 1) (o := 1) (x := .int .i64 0) (by first | assumption | go_simp)
       have r2 := keep hb2 (b := w.heap.size + 1 + 1) (o := 2) (x := .int .i64 0) (by first | assumption | go_simp)
       have r3 := keep hb2 (b := w.heap.size + 1 + 1) (o := 3) (x := .int .i64 0) (by first | assumption | go_simp)
       have r4 := keep hb2 (b := w.heap.size + 1 + 1) (o := 4) (x := .slice none 0 0) (by first | assumption | go_simp)
       have g0 := keepf hb2 (b := w.heap.size + 1 + 1) (o := 0) (by first | (simp <;> omega) | exact cell_lt' (a := ⟨w.heap.size + 1 + 1, 0, none⟩) (by assumption) | (simp; exact cell_lt' (a := ⟨w.heap.size + 1 + 1, 0, none⟩) (by assumption))) (by first | assumption | go_simp)
       have g1 := keepf hb2 (b := w.heap.size + 1 + 1) (o := 1) (by first | (simp <;> omega) | exact cell_lt' (a := ⟨w.heap.size + 1 + 1, 1, none⟩) (by assumption) | (simp; exact cell_lt' (a := ⟨w.heap.size + 1 + 1, 1, none⟩) (by assumption))) (by first | assumption | go_simp)
       have g2 := keepf hb2 (b := w.heap.size + 1 + 1) (o := 2) (by first | (simp <;> omega) | exact cell_lt' (a := ⟨w.heap.size + 1 + 1, 2, none⟩) (by assumption) | (simp; exact cell_lt' (a := ⟨w.heap.size + 1 + 1, 2, none⟩) (by assumption))) (by first | assumption | go_simp)
       have g3 := keepf hb2 (b := w.heap.size + 1 + 1) (o := 3) (by first | (simp <;> omega) | exact cell_lt' (a := ⟨w.heap.size + 1 + 1, 3, none⟩) (by assumption) | (simp; exact cell_lt' (a := ⟨w.heap.size + 1 + 1, 3, none⟩) (by assumption))) (by first | assumption | go_simp)
       have g4 := keepf hb2 (b := w.heap.size + 1 + 1) (o := 4) (by first | (simp <;> omega) | exact cell_lt' (a := ⟨w.heap.size + 1 + 1, 4, none⟩) (by assumption) | (simp; exact cell_lt' (a := ⟨w.heap.size + 1 + 1, 4, none⟩) (by assumption))) (by first | assumption | go_simp)
       have f0 := keepf hb2 (b := w.heap.size) (o := 0) (by first | (simp <;> omega) | exact cell_lt' (a := ⟨w.heap.size, 0, none⟩) (by assumption) | (simp; exact cell_lt' (a := ⟨w.heap.size, 0, none⟩) (by assumption))) (by first | assumption | go_simp)
       have f1 := keepf hb2 (b := w.heap.size) (o := 1) (by first | (simp <;> omega) | exact cell_lt' (a := ⟨w.heap.size, 1, none⟩) (by assumption) | (simp; exact cell_lt' (a := ⟨w.heap.size, 1, none⟩) (by assumption))) (by first | assumption | go_simp)
       have B2 := on B1 hb2; clear hb2)
    | (
       go_at_call 9; refine (hL _).mono ?_; rintro e w3 ⟨rfl, hb3⟩; clear hL
       have k0 := keep hb3 (b := w.heap.size) (o := 0) (x := .int .i64 p1) (by first | assumption | go_simp)
       have k1 := keep hb3 (b := w.heap.size) (o := 1) (x := .int .i64 p2) (by first | assumption | go_simp)
       have k2 := keep hb3 (b := w.heap.size) (o := 2) (x := .int .i64 a1) (by first | assumption | go_simp)
       have k3 := keep hb3 (b := w.heap.size) (o := 3) (x := .int .i64 a2) (by first | assumption | go_simp)
       have k4 := keep hb3 (b := w.heap.size) (o := 4) (x := .slice x n c) (by first | assumption | go_simp)
       have j0 := keep hb3 (b := w.heap.size + 1) (o := 0) (x := .int .i64 b1) (by first | assumption | go_simp)
       have j1 := keep hb3 (b := w.heap.size + 1) (o := 1) (x := .int .i64 b2) (by first | assumption | go_simp)
       have r0 := keep hb3 (b := w.heap.size + 1 + 1) (o := 0) (x := .int .i64 0) (by first | assumption | go_simp)
       have r1 := keep hb3 (b := w.heap.size + 1 + 1) (o := 1) (x := .int .i64 0) (by first | assumption | go_simp)
       have r2 := keep hb3 (b := w.heap.size + 1 + 1) (o := 2) (x := .int .i64 0) (by first | assumption | go_simp)
       have r3 := keep hb3 (b := w.heap.size + 1 + 1) (o := 3) (x := .int .i64 0) (by first | assumption | go_simp)
       have r4 := keep hb3 (b := w.heap.size + 1 + 1) (o := 4) (x := .slice none 0 0) (by first | assumption | go_simp)
       have g0 := keepf hb3 (b := w.heap.size + 1 + 1) (o := 0) (by first | (simp <;> omega) | exact cell_lt' (a := ⟨w.heap.size + 1 + 1, 0, none⟩) (by assumption) | (simp; exact cell_lt' (a := ⟨w.heap.size + 1 + 1, 0, none⟩) (by assumption))) (by first | assumption | go_simp)
       have g1 := keepf hb3 (b := w.heap.size + 1 + 1) (o := 1) (by first | (simp <;> omega) | exact cell_lt' (a := ⟨w.heap.size + 1 + 1, 1, none⟩) (by assumption) | (simp; exact cell_lt' (a := ⟨w.heap.size + 1 + 1, 1, none⟩) (by assumption))) (by first | assumption | go_simp)
       have g2 := keepf hb3 (b := w.heap.size + 1 + 1) (o := 2) (by first | (simp <;> omega) | exact cell_lt' (a := ⟨w.heap.size + 1 + 1, 2, none⟩) (by assumption) | (simp; exact cell_lt' (a := ⟨w.heap.size + 1 + 1, 2, none⟩) (by assumption))) (by first | assumption | go_simp)
       have g3 := keepf hb3 (b := w.heap.size + 1 + 1) (o := 3) (by first | (simp <;> omega) | exact cell_lt' (a := ⟨w.heap.size + 1 + 1, 3, none⟩) (by assumption) | (simp; exact cell_lt' (a := ⟨w.heap.size + 1 + 1, 3, none⟩) (by assumption))) (by first | assumption | go_simp)
       have g4 := keepf hb3 (b := w.heap.size + 1 + 1) (o := 4) (by first | (simp <;> omega) | exact cell_lt' (a := ⟨w.heap.size + 1 + 1, 4, none⟩) (by assumption) | (simp; exact cell_lt' (a := ⟨w.heap.size + 1 + 1, 4, none⟩) (by assumption))) (by first | assumption | go_simp)
       have f0 := keepf hb3 (b := w.heap.size) (o := 0) (by first | (simp <;> omega) | exact cell_lt' (a := ⟨w.heap.size, 0, none⟩) (by assumption) | (simp; exact cell_lt' (a := ⟨w.heap.size, 0, none⟩) (by assumption))) (by first | assumption | go_simp)
       have f1 := keepf hb3 (b := w.heap.size) (o := 1) (by first | (simp <;> omega) | exact cell_lt' (a := ⟨w.heap.size, 1, none⟩) (by assumption) | (simp; exact cell_lt' (a := ⟨w.heap.size, 1, none⟩) (by assumption))) (by first | assumption | go_simp)
       have B3 := on B2 hb3; clear hb3))
  refine bodyPost_ret (v := .tuple #[.agg #[.int .i64 p1, .int .i64 p2, .int .i64 a1, .int .i64 a2, .slice x n c], .bool false]) ?_ rfl ⟨rfl, B3.trans (Turns.below (F := fun k => w.heap.size ≤ k) ?_ (fun _ h => h) B3.size)⟩
  · rw [results_cell2 rfl]
    go_simp
  · exact (Turns.refl (fun k => w.heap.size ≤ k) w3).set5 (w.heap.size + 1 + 1) (by omega) _ _ _ _ _

theorem rprep_d (p a : Bt) (x : Option Addr) (n c : Nat) (b : Bt) (w : World) (h1 : mayA p a n = true) (h2 : mayb b = true) (h3 : ltb b p = false) :
    Calls Try.prog 14 #[ac p a x n c, bt b] w fun e w' => e = .returned (.tuple #[ac b a x n c, .bool true]) ∧ Below w.heap.size w w' := by
  have hM := fun W => rmay_any p a x n c W
  rw [h1] at hM
  have hB := fun W => rballot_any b W
  rw [h2] at hB
  clear h2
  have hL := fun W => rless_any b p W
  rw [h3] at hL
  clear h3
  clear h1
  obtain ⟨p1, p2⟩ := p
  obtain ⟨a1, a2⟩ := a
  obtain ⟨b1, b2⟩ := b
  dsimp only [bt, ac] at *
  have b0 : ∀ x y z, Below w.heap.size w (((w.alloc x).alloc y).alloc z) := fun x y z => on (on (al _ _) (al _ _)) (al _ _)
  go_enter Try.func14, Try.ntmps14
  go_wp2_with (first
    | (
       go_at_call 11; refine (hM _).mono ?_; rintro e w1 ⟨rfl, hb1⟩; clear hM
       have k0 := keep hb1 (b := w.heap.size) (o := 0) (x := .int .i64 p1) (by first | assumption | go_simp)
       have k1 := keep hb1 (b := w.heap.size) (o := 1) (x := .int .i64 p2) (by first | assumption | go_simp)
       have k2 := keep hb1 (b := w.heap.size) (o := 2) (x := .int .i64 a1) (by first | assumption | go_simp)
       have k3 := keep hb1 (b := w.heap.size) (o := 3) (x := .int .i64 a2) (by first | assumption | go_simp)
       have k4 := keep hb1 (b := w.heap.size) (o := 4) (x := .slice x n c) (by first | assumption | go_simp)
       have j0 := keep hb1 (b := w.heap.size + 1) (o := 0) (x := .int .i64 b1) (by first | assumption | go_simp)
       have j1 := keep hb1 (b := w.heap.size + 1) (o := 1) (x := .int .i64 b2) (by first | assumption | go_simp)
       have r0 := keep hb1 (b := w.heap.size + 1 + 1) (o := 0) (x := .int .i64 0) (by first | assumption | go_simp)
       have r1 := keep hb1 (b := w.heap.size + 1 + 1) (o := 1) (x := .int .i64 0) (by first | assumption | go_simp)
       have r2 := keep hb1 (b := w.heap.size + 1 + 1) (o := 2) (x := .int .i64 0) (by first | assumption | go_simp)
       have r3 := keep hb1 (b := w.heap.size + 1 + 1) (o := 3) (x := .int .i64 0) (by first | assumption | go_simp)
       have r4 := keep hb1 (b := w.heap.size + 1 + 1) (o := 4) (x := .slice none 0 0) (by first | assumption | go_simp)
       have g0 := keepf hb1 (b := w.heap.size + 1 + 1) (o := 0) (by first | (simp <;> omega) | exact cell_lt' (a := ⟨w.heap.size + 1 + 1, 0, none⟩) (by assumption) | (simp; exact cell_lt' (a := ⟨w.heap.size + 1 + 1, 0, none⟩) (by assumption))) (by first | assumption | go_simp)
       have g1 := keepf hb1 (b := w.heap.size + 1 + 1) (o := 1) (by first | (simp <;> omega) | exact cell_lt' (a := ⟨w.heap.size + 1 + 1, 1, none⟩) (by assumption) | (simp; exact cell_lt' (a := ⟨w.heap.size + 1 + 1, 1, none⟩) (by assumption))) (by first | assumption | go_simp)
       have g2 := keepf hb1 (b := w.heap.size + 1 + 1) (o := 2) (by first | (simp <;> omega) | exact cell_lt' (a := ⟨w.heap.size + 1 + 1, 2, none⟩) (by assumption) | (simp; exact cell_lt' (a := ⟨w.heap.size + 1 + 1, 2, none⟩) (by assumption))) (by first | assumption | go_simp)
       have g3 := keepf hb1 (b := w.heap.size + 1 + 1) (o := 3) (by first | (simp <;> omega) | exact cell_lt' (a := ⟨w.heap.size + 1 + 1, 3, none⟩) (by assumption) | (simp; exact cell_lt' (a := ⟨w.heap.size + 1 + 1, 3, none⟩) (by assumption))) (by first | assumption | go_simp)
       have g4 := keepf hb1 (b := w.heap.size + 1 + 1) (o := 4) (by first | (simp <;> omega) | exact cell_lt' (a := ⟨w.heap.size + 1 + 1, 4, none⟩) (by assumption) | (simp; exact cell_lt' (a := ⟨w.heap.size + 1 + 1, 4, none⟩) (by assumption))) (by first | assumption | go_simp)
       have f0 := keepf hb1 (b := w.heap.size) (o := 0) (by first | (simp <;> omega) | exact cell_lt' (a := ⟨w.heap.size, 0, none⟩) (by assumption) | (simp; exact cell_lt' (a := ⟨w.heap.size, 0, none⟩) (by assumption))) (by first | assumption | go_simp)
       have f1 := keepf hb1 (b := w.heap.size) (o := 1) (by first | (simp <;> omega) | exact cell_lt' (a := ⟨w.heap.size, 1, none⟩) (by assumption) | (simp; exact cell_lt' (a := ⟨w.heap.size, 1, none⟩) (by assumption))) (by first | assumption | go_simp)
       have B1 := on (b0 _ _ _) hb1; clear hb1)
    | (
       go_at_call 22; refine (hB _).mono ?_; rintro e w2 ⟨rfl, hb2⟩; clear hB
       have k0 := keep hb2 (b := w.heap.size) (o := 0) (x := .int .i64 p1) (by first | assumption | go_simp)
       have k1 := keep hb2 (b := w.heap.size) (o := 1) (x := .int .i64 p2) (by first | assumption | go_simp)
       have k2 := keep hb2 (b := w.heap.size) (o := 2) (x := .int .i64 a1) (by first | assumption | go_simp)
       have k3 := keep hb2 (b := w.heap.size) (o := 3) (x := .int .i64 a2) (by first | assumption | go_simp)
       have k4 := keep hb2 (b := w.heap.size) (o := 4) (x := .slice x n c) (by first | assumption | go_simp)
       have j0 := keep hb2 (b := w.heap.size + 1) (o := 0) (x := .int .i64 b1) (by first | assumption | go_simp)
       have j1 := keep hb2 (b := w.heap.size + 1) (o := 1) (x := .int .i64 b2) (by first | assumption | go_simp)
       have r0 := keep hb2 (b := w.heap.size + 1 + 1) (o := 0) (x := .int .i64 0) (by first | assumption | go_simp)
       have r1 := keep hb2 (b := w.heap.size + 1 + 1) (o := 1) (x := .int .i64 0) (by first | assumption | go_simp)
       have r2 := keep hb2 (b := w.heap.size + 1 + 1) (o := 2) (x := .int .i64 0) (by first | assumption | go_simp)
       have r3 := keep hb2 (b := w.heap.size + 1 + 1) (o := 3) (x := .int .i64 0) (by first | assumption | go_simp)
       have r4 := keep hb2 (b := w.heap.size + 1 + 1) (o := 4) (x := .slice none 0 0) (by first | assumption | go_simp)
       have g0 := keepf hb2 (b := w.heap.size + 1 + 1) (o := 0) (by first | (simp <;> omega) | exact cell_lt' (a := ⟨w.heap.size + 1 + 1, 0, none⟩) (by assumption) | (simp; exact cell_lt' (a := ⟨w.heap.size + 1 + 1, 0, none⟩) (by assumption))) (by first | assumption | go_simp)
       have g1 := keepf hb2 (b := w.heap.size + 1 + 1) (o := 1) (by first | (simp <;> omega) | exact cell_lt' (a := ⟨w.heap.size + 1 + 1, 1, none⟩) (by assumption) | (simp; exact cell_lt' (a := ⟨w.heap.size + 1 + 1, 1, none⟩) (by assumption))) (by first | assumption | go_simp)
       have g2 := keepf hb2 (b := w.heap.size + 1 + 1) (o := 2) (by first | (simp <;> omega) | exact cell_lt' (a := ⟨w.heap.size + 1 + 1, 2, none⟩) (by assumption) | (simp; exact cell_lt' (a := ⟨w.heap.size + 1 + 1, 2, none⟩) (by assumption))) (by first | assumption | go_simp)
       have g3 := keepf hb2 (b := w.heap.size + 1 + 1) (o := 3) (by first | (simp <;> omega) | exact cell_lt' (a := ⟨w.heap.size + 1 + 1, 3, none⟩) (by assumption) | (simp; exact cell_lt' (a := ⟨w.heap.size + 1 + 1, 3, none⟩) (by assumption))) (by first | assumption | go_simp)
       have g4 := keepf hb2 (b := w.heap.size + 1 + 1) (o := 4) (by first | (simp <;> omega) | exact cell_lt' (a := ⟨w.heap.size + 1 + 1, 4, none⟩) (by assumption) | (simp; exact cell_lt' (a := ⟨w.heap.size + 1 + 1, 4, none⟩) (by assumption))) (by first | assumption | go_simp)
       have f0 := keepf hb2 (b := w.heap.size) (o := 0) (by first | (simp <;> omega) | exact cell_lt' (a := ⟨w.heap.size, 0, none⟩) (by assumption) | (simp; exact cell_lt' (a := ⟨w.heap.size, 0, none⟩) (by assumption))) (by first | assumption | go_simp)
       have f1 := keepf hb2 (b := w.heap.size) (o := 1) (by first | (simp <;> omega) | exact cell_lt' (a := ⟨w.heap.size, 1, none⟩) (by assumption) | (simp; exact cell_lt' (a := ⟨w.heap.size, 1, none⟩) (by assumption))) (by first | assumption | go_simp)
       have B2 := on B1 hb2; clear hb2)
    | (
       go_at_call 9; refine (hL _).mono ?_; rintro e w3 ⟨rfl, hb3⟩; clear hL
       have k0 := keep hb3 (b := w.heap.size) (o := 0) (x := .int .i64 p1) (by first | assumption | go_simp)
       have k1 := keep hb3 (b := w.heap.size) (o := 1) (x := .int .i64 p2) (by first | assumption | go_simp)
       have k2 := keep hb3 (b := w.heap.size) (o := 2) (x := .int .i64 a1) (by first | assumption | go_simp)
       have k3 := keep hb3 (b := w.heap.size) (o := 3) (x := .int .i64 a2) (by first | assumption | go_simp)
       have k4 := keep hb3 (b := w.heap.size) (o := 4) (x := .slice x n c) (by first | assumption | go_simp)
       have j0 := keep hb3 (b := w.heap.size + 1) (o := 0) (x := .int .i64 b1) (by first | assumption | go_simp)
       have j1 := keep hb3 (b := w.heap.size + 1) (o := 1) (x := .int .i64 b2) (by first | assumption | go_simp)
       have r0 := keep hb3 (b := w.heap.size + 1 + 1) (o := 0) (x := .int .i64 0) (by first | assumption | go_simp)
       have r1 := keep hb3 (b := w.heap.size + 1 + 1) (o := 1) (x := .int .i64 0) (by first | assumption | go_simp)
       have r2 := keep hb3 (b := w.heap.size + 1 + 1) (o := 2) (x := .int .i64 0) (by first | assumption | go_simp)
       have r3 := keep hb3 (b := w.heap.size + 1 + 1) (o := 3) (x := .int .i64 0) (by first | assumption | go_simp)
       have r4 := keep hb3 (b := w.heap.size + 1 + 1) (o := 4) (x := .slice none 0 0) (by first | assumption | go_simp)
       have g0 := keepf hb3 (b := w.heap.size + 1 + 1) (o := 0) (by first | (simp <;> omega) | exact cell_lt' (a := ⟨w.heap.size + 1 + 1, 0, none⟩) (by assumption) | (simp; exact cell_lt' (a := ⟨w.heap.size + 1 + 1, 0, none⟩) (by assumption))) (by first | assumption | go_simp)
       have g1 := keepf hb3 (b := w.heap.size + 1 + 1) (o := 1) (by first | (simp <;> omega) | exact cell_lt' (a := ⟨w.heap.size + 1 + 1, 1, none⟩) (by assumption) | (simp; exact cell_lt' (a := ⟨w.heap.size + 1 + 1, 1, none⟩) (by assumption))) (by first | assumption | go_simp)
       have g2 := keepf hb3 (b := w.heap.size + 1 + 1) (o := 2) (by first | (simp <;> omega) | exact cell_lt' (a := ⟨w.heap.size + 1 + 1, 2, none⟩) (by assumption) | (simp; exact cell_lt' (a := ⟨w.heap.size + 1 + 1, 2, none⟩) (by assumption))) (by first | assumption | go_simp)
       have g3 := keepf hb3 (b := w.heap.size + 1 + 1) (o := 3) (by first | (simp <;> omega) | exact cell_lt' (a := ⟨w.heap.size + 1 + 1, 3, none⟩) (by assumption) | (simp; exact cell_lt' (a := ⟨w.heap.size + 1 + 1, 3, none⟩) (by assumption))) (by first | assumption | go_simp)
       have g4 := keepf hb3 (b := w.heap.size + 1 + 1) (o := 4) (by first | (simp <;> omega) | exact cell_lt' (a := ⟨w.heap.size + 1 + 1, 4, none⟩) (by assumption) | (simp; exact cell_lt' (a := ⟨w.heap.size + 1 + 1, 4, none⟩) (by assumption))) (by first | assumption | go_simp)
       have f0 := keepf hb3 (b := w.heap.size) (o := 0) (by first | (simp <;> omega) | exact cell_lt' (a := ⟨w.heap.size, 0, none⟩) (by assumption) | (simp; exact cell_lt' (a := ⟨w.heap.size, 0, none⟩) (by assumption))) (by first | assumption | go_simp)
       have f1 := keepf hb3 (b := w.heap.size) (o := 1) (by first | (simp <;> omega) | exact cell_lt' (a := ⟨w.heap.size, 1, none⟩) (by assumption) | (simp; exact cell_lt' (a := ⟨w.heap.size, 1, none⟩) (by assumption))) (by first | assumption | go_simp)
       have B3 := on B2 hb3; clear hb3))
  refine bodyPost_ret (v := .tuple #[.agg #[.int .i64 b1, .int .i64 b2, .int .i64 a1, .int .i64 a2, .slice x n c], .bool true]) ?_ rfl ⟨rfl, B3.trans (Turns.below (F := fun k => w.heap.size ≤ k) ?_ (fun _ h => h) B3.size)⟩
  · rw [results_cell2 rfl]
    go_simp
  · exact ((Turns.refl (fun k => w.heap.size ≤ k) w3).set2 w.heap.size (Nat.le_refl _) _ _).set5 (w.heap.size + 1 + 1) (by omega) _ _ _ _ _

theorem rprep_no (p a : Bt) (x : Option Addr) (n c : Nat) (b : Bt) (w : World) (hf : freeb p a n b = false) :
    Calls Try.prog 14 #[ac p a x n c, bt b] w fun e w' => e = .returned (.tuple #[ac p a x n c, .bool false]) ∧ Below w.heap.size w w' := by
  unfold freeb at hf
  cases h1 : mayA p a n with
  | false => exact rprep_a p a x n c b w h1
  | true =>
    cases h2 : mayb b with
    | false => exact rprep_b p a x n c b w h1 h2
    | true =>
      cases h3 : ltb b p with
      | true => exact rprep_c p a x n c b w h1 h2 h3
      | false => simp [h1, h2, h3] at hf

theorem rprep_yes (p a : Bt) (x : Option Addr) (n c : Nat) (b : Bt) (w : World) (hf : freeb p a n b = true) :
    Calls Try.prog 14 #[ac p a x n c, bt b] w fun e w' => e = .returned (.tuple #[ac b a x n c, .bool true]) ∧ Below w.heap.size w w' := by
  unfold freeb at hf
  simp only [Bool.and_eq_true, Bool.not_eq_true'] at hf
  exact rprep_d p a x n c b w hf.1.1 hf.1.2 hf.2

end Go.Proofs.Ytlfeafbpknbbfaa.Ba
