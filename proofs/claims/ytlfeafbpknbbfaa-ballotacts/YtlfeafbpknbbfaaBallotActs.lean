/-
  What any acceptor promises and accepts: 'mooringlaw11.BallotActs' returns true and leaves its arguments as they were.
  Conditions: none.
-/
import Derived.Test.YtlfeafbpknbbfaaRows
import Derived.WalkKit
import Derived.ProofKit
import Derived.OpenShut
import Derived.SizedLaws
import Derived.ShutString
import Derived.ChangeOld
import Derived.Below
import Derived.Test.YtlfeafbpknbbfaaByRows
import Derived.Test.YtlfeafbpknbbfaaBaItem
import Derived.Test.YtlfeafbpknbbfaaBaBump
namespace Go.Proofs.Ytlfeafbpknbbfaa.ballotActs
open Go.ChangeShapes Go.WideShapes Go.ChangeAt Go.RowKit By
open Fl Ba
set_option linter.unusedVariables false
set_option linter.unusedSimpArgs false
set_option maxRecDepth 100000

theorem own : ownKnob Try.prog.godebug = none := by kernel_rfl
theorem laidOut : laidOutB Try.prog = true := by kernel_rfl

set_option maxHeartbeats 4000000 in
set_option maxRecDepth 100000 in
theorem acts_walk (p1 p2 a1 a2 b1 b2 P1 P2 Q1 Q2 A1 A2 : Int) (x : Option Addr) (n c : Nat) (l : List Nat) (vx : Option Addr) (vn vc : Nat) (vl : List Nat) (M : Nat) (L' : List Nat) (t : Bool) (w : World) (hl : Sl w x n c l) (hv : Sl w vx vn vc vl) (hvn : vn ≤ 140737488351232)
    (hPp : ∀ W, Sl W x n c l → Calls Try.prog 13 #[.agg #[.int .i64 p1, .int .i64 p2, .int .i64 a1, .int .i64 a2, .slice x n c], .agg #[.int .i64 b1, .int .i64 b2]] W fun e w' => ∃ y cy, e = .returned (.tuple #[.agg #[.int .i64 P1, .int .i64 P2, .int .i64 a1, .int .i64 a2, .slice y n cy], .bool t]) ∧ Hid (Vl W w' y n cy l))
    (hPr : ∀ W, Calls Try.prog 14 #[.agg #[.int .i64 p1, .int .i64 p2, .int .i64 a1, .int .i64 a2, .slice x n c], .agg #[.int .i64 b1, .int .i64 b2]] W fun e w' => e = .returned (.tuple #[.agg #[.int .i64 P1, .int .i64 P2, .int .i64 a1, .int .i64 a2, .slice x n c], .bool t]) ∧ Below W.heap.size W w')
    (hAp : ∀ W ox oc, Sl W x n c l → Sl W ox vn oc vl → Calls Try.prog 16 #[.agg #[.int .i64 p1, .int .i64 p2, .int .i64 a1, .int .i64 a2, .slice x n c], .agg #[.int .i64 b1, .int .i64 b2], .slice ox vn oc] W fun e w' => ∃ y cy, e = .returned (.tuple #[.agg #[.int .i64 Q1, .int .i64 Q2, .int .i64 A1, .int .i64 A2, .slice y M cy], .bool t]) ∧ Hid (Vl W w' y M cy L'))
    (hAr : ∀ W, Sl W x n c l → Sl W vx vn vc vl → Calls Try.prog 17 #[.agg #[.int .i64 p1, .int .i64 p2, .int .i64 a1, .int .i64 a2, .slice x n c], .agg #[.int .i64 b1, .int .i64 b2], .slice vx vn vc] W fun e w' => ∃ y cy, e = .returned (.tuple #[.agg #[.int .i64 Q1, .int .i64 Q2, .int .i64 A1, .int .i64 A2, .slice y M cy], .bool t]) ∧ Hid (Below W.heap.size W w' ∧ Sl w' y M cy L' ∧ (M ≠ 0 → ∀ a, y = some a → a.block < w.heap.size ∨ W.heap.size ≤ a.block))) :
    Calls Try.prog 4 #[.agg #[.int .i64 p1, .int .i64 p2, .int .i64 a1, .int .i64 a2, .slice x n c], .agg #[.int .i64 b1, .int .i64 b2], .slice vx vn vc] w fun e w' => e = .returned (.bool true) ∧ Below w.heap.size w w' := by
  have hS := fun y cy W h1 h2 => same_yes (P1, P2) (a1, a2) y x n n cy c l W h1 h2
  have hS2 := fun y cy z cz W h1 h2 => same_yes (Q1, Q2) (A1, A2) y z M M cy cz L' W h1 h2
  have hW := fun W => awake_any W
  dsimp only [ac] at hS hS2
  have hvz : (vn : Int) ≤ 140737488351232 := by omega
  have b0 : ∀ x y, Below w.heap.size w ((w.alloc x).alloc y) := fun x y => on (al _ _) (al _ _)
  go_enter Try.func4, Try.ntmps4
  go_wp2_with (first
    | (
       go_at_call 13; refine (hPp _ (hl.below (b0 _ _))).mono ?_; rintro e w1 ⟨y, cy, rfl, H1⟩; clear hPp
       have k0 := keep H1.out.1 (b := w.heap.size) (o := 0) (x := .int .i64 p1) (by first | assumption | go_simp)
       have k1 := keep H1.out.1 (b := w.heap.size) (o := 1) (x := .int .i64 p2) (by first | assumption | go_simp)
       have k2 := keep H1.out.1 (b := w.heap.size) (o := 2) (x := .int .i64 a1) (by first | assumption | go_simp)
       have k3 := keep H1.out.1 (b := w.heap.size) (o := 3) (x := .int .i64 a2) (by first | assumption | go_simp)
       have k4 := keep H1.out.1 (b := w.heap.size) (o := 4) (x := .slice x n c) (by first | assumption | go_simp)
       have j0 := keep H1.out.1 (b := w.heap.size + 1) (o := 0) (x := .int .i64 b1) (by first | assumption | go_simp)
       have j1 := keep H1.out.1 (b := w.heap.size + 1) (o := 1) (x := .int .i64 b2) (by first | assumption | go_simp)
       have l0 : w.heap.size < w1.heap.size := cell_lt' k0
       have l1 : w.heap.size + 1 < w1.heap.size := cell_lt' j0
       have B1 := on (b0 _ _) H1.out.1
       have S1 := H1.out.2.1
       clear H1)
    | (
       go_at_call 14; refine (hPr _).mono ?_; rintro e w2 ⟨rfl, hb2⟩; clear hPr
       have k0 := keep hb2 (b := w.heap.size) (o := 0) (x := .int .i64 p1) (by first | assumption | go_simp)
       have k1 := keep hb2 (b := w.heap.size) (o := 1) (x := .int .i64 p2) (by first | assumption | go_simp)
       have k2 := keep hb2 (b := w.heap.size) (o := 2) (x := .int .i64 a1) (by first | assumption | go_simp)
       have k3 := keep hb2 (b := w.heap.size) (o := 3) (x := .int .i64 a2) (by first | assumption | go_simp)
       have k4 := keep hb2 (b := w.heap.size) (o := 4) (x := .slice x n c) (by first | assumption | go_simp)
       have j0 := keep hb2 (b := w.heap.size + 1) (o := 0) (x := .int .i64 b1) (by first | assumption | go_simp)
       have j1 := keep hb2 (b := w.heap.size + 1) (o := 1) (x := .int .i64 b2) (by first | assumption | go_simp)
       have m0 := keep hb2 (b := w1.heap.size) (o := 0) (x := .int .i64 P1) (by first | assumption | go_simp)
       have m1 := keep hb2 (b := w1.heap.size) (o := 1) (x := .int .i64 P2) (by first | assumption | go_simp)
       have m2 := keep hb2 (b := w1.heap.size) (o := 2) (x := .int .i64 a1) (by first | assumption | go_simp)
       have m3 := keep hb2 (b := w1.heap.size) (o := 3) (x := .int .i64 a2) (by first | assumption | go_simp)
       have m4 := keep hb2 (b := w1.heap.size) (o := 4) (x := .slice y n cy) (by first | assumption | go_simp)
       have f0 := keepf hb2 (b := w1.heap.size) (o := 0) (by first | (simp <;> omega) | exact cell_lt' (a := ⟨w1.heap.size, 0, none⟩) (by assumption) | (simp; exact cell_lt' (a := ⟨w1.heap.size, 0, none⟩) (by assumption))) (by first | assumption | go_simp)
       have f1 := keepf hb2 (b := w1.heap.size) (o := 1) (by first | (simp <;> omega) | exact cell_lt' (a := ⟨w1.heap.size, 1, none⟩) (by assumption) | (simp; exact cell_lt' (a := ⟨w1.heap.size, 1, none⟩) (by assumption))) (by first | assumption | go_simp)
       have f2 := keepf hb2 (b := w1.heap.size) (o := 2) (by first | (simp <;> omega) | exact cell_lt' (a := ⟨w1.heap.size, 2, none⟩) (by assumption) | (simp; exact cell_lt' (a := ⟨w1.heap.size, 2, none⟩) (by assumption))) (by first | assumption | go_simp)
       have f3 := keepf hb2 (b := w1.heap.size) (o := 3) (by first | (simp <;> omega) | exact cell_lt' (a := ⟨w1.heap.size, 3, none⟩) (by assumption) | (simp; exact cell_lt' (a := ⟨w1.heap.size, 3, none⟩) (by assumption))) (by first | assumption | go_simp)
       have f4 := keepf hb2 (b := w1.heap.size) (o := 4) (by first | (simp <;> omega) | exact cell_lt' (a := ⟨w1.heap.size, 4, none⟩) (by assumption) | (simp; exact cell_lt' (a := ⟨w1.heap.size, 4, none⟩) (by assumption))) (by first | assumption | go_simp)
       have l2 : w.heap.size < w2.heap.size := cell_lt' k0
       have l3 : w.heap.size + 1 < w2.heap.size := cell_lt' j0
       have l4 : w1.heap.size < w2.heap.size := cell_lt' m0
       have S2 := S1.below (on (al _ _) hb2)
       have B2 := on (on B1 (al _ _)) hb2
       clear S1 B1 hb2)
    | (
       go_at_call 15; refine (hS y cy _ (S2.below (al _ _)) (hl.below (on B2 (al _ _)))).mono ?_; rintro e w3 ⟨rfl, hb3⟩; clear hS
       have k0 := keep hb3 (b := w.heap.size) (o := 0) (x := .int .i64 p1) (by first | assumption | go_simp)
       have k1 := keep hb3 (b := w.heap.size) (o := 1) (x := .int .i64 p2) (by first | assumption | go_simp)
       have k2 := keep hb3 (b := w.heap.size) (o := 2) (x := .int .i64 a1) (by first | assumption | go_simp)
       have k3 := keep hb3 (b := w.heap.size) (o := 3) (x := .int .i64 a2) (by first | assumption | go_simp)
       have k4 := keep hb3 (b := w.heap.size) (o := 4) (x := .slice x n c) (by first | assumption | go_simp)
       have j0 := keep hb3 (b := w.heap.size + 1) (o := 0) (x := .int .i64 b1) (by first | assumption | go_simp)
       have j1 := keep hb3 (b := w.heap.size + 1) (o := 1) (x := .int .i64 b2) (by first | assumption | go_simp)
       have m0 := keep hb3 (b := w1.heap.size) (o := 0) (x := .int .i64 P1) (by first | assumption | go_simp)
       have m1 := keep hb3 (b := w1.heap.size) (o := 1) (x := .int .i64 P2) (by first | assumption | go_simp)
       have m2 := keep hb3 (b := w1.heap.size) (o := 2) (x := .int .i64 a1) (by first | assumption | go_simp)
       have m3 := keep hb3 (b := w1.heap.size) (o := 3) (x := .int .i64 a2) (by first | assumption | go_simp)
       have m4 := keep hb3 (b := w1.heap.size) (o := 4) (x := .slice y n cy) (by first | assumption | go_simp)
       have q0 := keep hb3 (b := w2.heap.size) (o := 0) (x := .int .i64 P1) (by first | assumption | go_simp)
       have q1 := keep hb3 (b := w2.heap.size) (o := 1) (x := .int .i64 P2) (by first | assumption | go_simp)
       have q2 := keep hb3 (b := w2.heap.size) (o := 2) (x := .int .i64 a1) (by first | assumption | go_simp)
       have q3 := keep hb3 (b := w2.heap.size) (o := 3) (x := .int .i64 a2) (by first | assumption | go_simp)
       have q4 := keep hb3 (b := w2.heap.size) (o := 4) (x := .slice x n c) (by first | assumption | go_simp)
       have f0 := keepf hb3 (b := w1.heap.size) (o := 0) (by first | (simp <;> omega) | exact cell_lt' (a := ⟨w1.heap.size, 0, none⟩) (by assumption) | (simp; exact cell_lt' (a := ⟨w1.heap.size, 0, none⟩) (by assumption))) (by first | assumption | go_simp)
       have f1 := keepf hb3 (b := w1.heap.size) (o := 1) (by first | (simp <;> omega) | exact cell_lt' (a := ⟨w1.heap.size, 1, none⟩) (by assumption) | (simp; exact cell_lt' (a := ⟨w1.heap.size, 1, none⟩) (by assumption))) (by first | assumption | go_simp)
       have f2 := keepf hb3 (b := w1.heap.size) (o := 2) (by first | (simp <;> omega) | exact cell_lt' (a := ⟨w1.heap.size, 2, none⟩) (by assumption) | (simp; exact cell_lt' (a := ⟨w1.heap.size, 2, none⟩) (by assumption))) (by first | assumption | go_simp)
       have f3 := keepf hb3 (b := w1.heap.size) (o := 3) (by first | (simp <;> omega) | exact cell_lt' (a := ⟨w1.heap.size, 3, none⟩) (by assumption) | (simp; exact cell_lt' (a := ⟨w1.heap.size, 3, none⟩) (by assumption))) (by first | assumption | go_simp)
       have f4 := keepf hb3 (b := w1.heap.size) (o := 4) (by first | (simp <;> omega) | exact cell_lt' (a := ⟨w1.heap.size, 4, none⟩) (by assumption) | (simp; exact cell_lt' (a := ⟨w1.heap.size, 4, none⟩) (by assumption))) (by first | assumption | go_simp)
       have h0 := keepf hb3 (b := w2.heap.size) (o := 0) (by first | (simp <;> omega) | exact cell_lt' (a := ⟨w2.heap.size, 0, none⟩) (by assumption) | (simp; exact cell_lt' (a := ⟨w2.heap.size, 0, none⟩) (by assumption))) (by first | assumption | go_simp)
       have h1 := keepf hb3 (b := w2.heap.size) (o := 1) (by first | (simp <;> omega) | exact cell_lt' (a := ⟨w2.heap.size, 1, none⟩) (by assumption) | (simp; exact cell_lt' (a := ⟨w2.heap.size, 1, none⟩) (by assumption))) (by first | assumption | go_simp)
       have h2 := keepf hb3 (b := w2.heap.size) (o := 2) (by first | (simp <;> omega) | exact cell_lt' (a := ⟨w2.heap.size, 2, none⟩) (by assumption) | (simp; exact cell_lt' (a := ⟨w2.heap.size, 2, none⟩) (by assumption))) (by first | assumption | go_simp)
       have h3 := keepf hb3 (b := w2.heap.size) (o := 3) (by first | (simp <;> omega) | exact cell_lt' (a := ⟨w2.heap.size, 3, none⟩) (by assumption) | (simp; exact cell_lt' (a := ⟨w2.heap.size, 3, none⟩) (by assumption))) (by first | assumption | go_simp)
       have h4 := keepf hb3 (b := w2.heap.size) (o := 4) (by first | (simp <;> omega) | exact cell_lt' (a := ⟨w2.heap.size, 4, none⟩) (by assumption) | (simp; exact cell_lt' (a := ⟨w2.heap.size, 4, none⟩) (by assumption))) (by first | assumption | go_simp)
       have B3 := on (on B2 (al _ _)) hb3
       have l5 : w2.heap.size < w3.heap.size := cell_lt' q0
       clear S2 B2 hb3)
    | (
       at_builtin
       refine wp_copy rfl _ _ rfl rfl _ rfl (by simp) vx vn vc vl rfl (hv.below B3) (by omega) ?_
       intro g cg w4 H4
       have k0 := keep H4.out.1.1 (b := w.heap.size) (o := 0) (x := .int .i64 p1) (by first | assumption | go_simp)
       have k1 := keep H4.out.1.1 (b := w.heap.size) (o := 1) (x := .int .i64 p2) (by first | assumption | go_simp)
       have k2 := keep H4.out.1.1 (b := w.heap.size) (o := 2) (x := .int .i64 a1) (by first | assumption | go_simp)
       have k3 := keep H4.out.1.1 (b := w.heap.size) (o := 3) (x := .int .i64 a2) (by first | assumption | go_simp)
       have k4 := keep H4.out.1.1 (b := w.heap.size) (o := 4) (x := .slice x n c) (by first | assumption | go_simp)
       have j0 := keep H4.out.1.1 (b := w.heap.size + 1) (o := 0) (x := .int .i64 b1) (by first | assumption | go_simp)
       have j1 := keep H4.out.1.1 (b := w.heap.size + 1) (o := 1) (x := .int .i64 b2) (by first | assumption | go_simp)
       have m0 := keep H4.out.1.1 (b := w1.heap.size) (o := 0) (x := .int .i64 P1) (by first | assumption | go_simp)
       have m1 := keep H4.out.1.1 (b := w1.heap.size) (o := 1) (x := .int .i64 P2) (by first | assumption | go_simp)
       have m2 := keep H4.out.1.1 (b := w1.heap.size) (o := 2) (x := .int .i64 a1) (by first | assumption | go_simp)
       have m3 := keep H4.out.1.1 (b := w1.heap.size) (o := 3) (x := .int .i64 a2) (by first | assumption | go_simp)
       have m4 := keep H4.out.1.1 (b := w1.heap.size) (o := 4) (x := .slice y n cy) (by first | assumption | go_simp)
       have q0 := keep H4.out.1.1 (b := w2.heap.size) (o := 0) (x := .int .i64 P1) (by first | assumption | go_simp)
       have q1 := keep H4.out.1.1 (b := w2.heap.size) (o := 1) (x := .int .i64 P2) (by first | assumption | go_simp)
       have q2 := keep H4.out.1.1 (b := w2.heap.size) (o := 2) (x := .int .i64 a1) (by first | assumption | go_simp)
       have q3 := keep H4.out.1.1 (b := w2.heap.size) (o := 3) (x := .int .i64 a2) (by first | assumption | go_simp)
       have q4 := keep H4.out.1.1 (b := w2.heap.size) (o := 4) (x := .slice x n c) (by first | assumption | go_simp)
       have f0 := keepf H4.out.1.1 (b := w1.heap.size) (o := 0) (by first | (simp <;> omega) | exact cell_lt' (a := ⟨w1.heap.size, 0, none⟩) (by assumption) | (simp; exact cell_lt' (a := ⟨w1.heap.size, 0, none⟩) (by assumption))) (by first | assumption | go_simp)
       have f1 := keepf H4.out.1.1 (b := w1.heap.size) (o := 1) (by first | (simp <;> omega) | exact cell_lt' (a := ⟨w1.heap.size, 1, none⟩) (by assumption) | (simp; exact cell_lt' (a := ⟨w1.heap.size, 1, none⟩) (by assumption))) (by first | assumption | go_simp)
       have f2 := keepf H4.out.1.1 (b := w1.heap.size) (o := 2) (by first | (simp <;> omega) | exact cell_lt' (a := ⟨w1.heap.size, 2, none⟩) (by assumption) | (simp; exact cell_lt' (a := ⟨w1.heap.size, 2, none⟩) (by assumption))) (by first | assumption | go_simp)
       have f3 := keepf H4.out.1.1 (b := w1.heap.size) (o := 3) (by first | (simp <;> omega) | exact cell_lt' (a := ⟨w1.heap.size, 3, none⟩) (by assumption) | (simp; exact cell_lt' (a := ⟨w1.heap.size, 3, none⟩) (by assumption))) (by first | assumption | go_simp)
       have f4 := keepf H4.out.1.1 (b := w1.heap.size) (o := 4) (by first | (simp <;> omega) | exact cell_lt' (a := ⟨w1.heap.size, 4, none⟩) (by assumption) | (simp; exact cell_lt' (a := ⟨w1.heap.size, 4, none⟩) (by assumption))) (by first | assumption | go_simp)
       have h0 := keepf H4.out.1.1 (b := w2.heap.size) (o := 0) (by first | (simp <;> omega) | exact cell_lt' (a := ⟨w2.heap.size, 0, none⟩) (by assumption) | (simp; exact cell_lt' (a := ⟨w2.heap.size, 0, none⟩) (by assumption))) (by first | assumption | go_simp)
       have h1 := keepf H4.out.1.1 (b := w2.heap.size) (o := 1) (by first | (simp <;> omega) | exact cell_lt' (a := ⟨w2.heap.size, 1, none⟩) (by assumption) | (simp; exact cell_lt' (a := ⟨w2.heap.size, 1, none⟩) (by assumption))) (by first | assumption | go_simp)
       have h2 := keepf H4.out.1.1 (b := w2.heap.size) (o := 2) (by first | (simp <;> omega) | exact cell_lt' (a := ⟨w2.heap.size, 2, none⟩) (by assumption) | (simp; exact cell_lt' (a := ⟨w2.heap.size, 2, none⟩) (by assumption))) (by first | assumption | go_simp)
       have h3 := keepf H4.out.1.1 (b := w2.heap.size) (o := 3) (by first | (simp <;> omega) | exact cell_lt' (a := ⟨w2.heap.size, 3, none⟩) (by assumption) | (simp; exact cell_lt' (a := ⟨w2.heap.size, 3, none⟩) (by assumption))) (by first | assumption | go_simp)
       have h4 := keepf H4.out.1.1 (b := w2.heap.size) (o := 4) (by first | (simp <;> omega) | exact cell_lt' (a := ⟨w2.heap.size, 4, none⟩) (by assumption) | (simp; exact cell_lt' (a := ⟨w2.heap.size, 4, none⟩) (by assumption))) (by first | assumption | go_simp)
       have B4 := on B3 H4.out.1.1
       have l6 : w3.heap.size ≤ g := (H4.out.1.2.2 _ rfl).1
       have l7 : g < w4.heap.size := (H4.out.1.2.2 _ rfl).2.lt
       have l8 : w2.heap.size < w4.heap.size := cell_lt' q0
       clear B3)
    | (
       go_at_call 16; refine (hAp _ _ _ (hl.below B4) H4.out.1.2.1).mono ?_; rintro e w5 ⟨y5, c5, rfl, H5⟩; clear hAp
       have k0 := keep H5.out.1 (b := w.heap.size) (o := 0) (x := .int .i64 p1) (by first | assumption | go_simp)
       have k1 := keep H5.out.1 (b := w.heap.size) (o := 1) (x := .int .i64 p2) (by first | assumption | go_simp)
       have k2 := keep H5.out.1 (b := w.heap.size) (o := 2) (x := .int .i64 a1) (by first | assumption | go_simp)
       have k3 := keep H5.out.1 (b := w.heap.size) (o := 3) (x := .int .i64 a2) (by first | assumption | go_simp)
       have k4 := keep H5.out.1 (b := w.heap.size) (o := 4) (x := .slice x n c) (by first | assumption | go_simp)
       have j0 := keep H5.out.1 (b := w.heap.size + 1) (o := 0) (x := .int .i64 b1) (by first | assumption | go_simp)
       have j1 := keep H5.out.1 (b := w.heap.size + 1) (o := 1) (x := .int .i64 b2) (by first | assumption | go_simp)
       have m0 := keep H5.out.1 (b := w1.heap.size) (o := 0) (x := .int .i64 P1) (by first | assumption | go_simp)
       have m1 := keep H5.out.1 (b := w1.heap.size) (o := 1) (x := .int .i64 P2) (by first | assumption | go_simp)
       have m2 := keep H5.out.1 (b := w1.heap.size) (o := 2) (x := .int .i64 a1) (by first | assumption | go_simp)
       have m3 := keep H5.out.1 (b := w1.heap.size) (o := 3) (x := .int .i64 a2) (by first | assumption | go_simp)
       have m4 := keep H5.out.1 (b := w1.heap.size) (o := 4) (x := .slice y n cy) (by first | assumption | go_simp)
       have q0 := keep H5.out.1 (b := w2.heap.size) (o := 0) (x := .int .i64 P1) (by first | assumption | go_simp)
       have q1 := keep H5.out.1 (b := w2.heap.size) (o := 1) (x := .int .i64 P2) (by first | assumption | go_simp)
       have q2 := keep H5.out.1 (b := w2.heap.size) (o := 2) (x := .int .i64 a1) (by first | assumption | go_simp)
       have q3 := keep H5.out.1 (b := w2.heap.size) (o := 3) (x := .int .i64 a2) (by first | assumption | go_simp)
       have q4 := keep H5.out.1 (b := w2.heap.size) (o := 4) (x := .slice x n c) (by first | assumption | go_simp)
       have f0 := keepf H5.out.1 (b := w1.heap.size) (o := 0) (by first | (simp <;> omega) | exact cell_lt' (a := ⟨w1.heap.size, 0, none⟩) (by assumption) | (simp; exact cell_lt' (a := ⟨w1.heap.size, 0, none⟩) (by assumption))) (by first | assumption | go_simp)
       have f1 := keepf H5.out.1 (b := w1.heap.size) (o := 1) (by first | (simp <;> omega) | exact cell_lt' (a := ⟨w1.heap.size, 1, none⟩) (by assumption) | (simp; exact cell_lt' (a := ⟨w1.heap.size, 1, none⟩) (by assumption))) (by first | assumption | go_simp)
       have f2 := keepf H5.out.1 (b := w1.heap.size) (o := 2) (by first | (simp <;> omega) | exact cell_lt' (a := ⟨w1.heap.size, 2, none⟩) (by assumption) | (simp; exact cell_lt' (a := ⟨w1.heap.size, 2, none⟩) (by assumption))) (by first | assumption | go_simp)
       have f3 := keepf H5.out.1 (b := w1.heap.size) (o := 3) (by first | (simp <;> omega) | exact cell_lt' (a := ⟨w1.heap.size, 3, none⟩) (by assumption) | (simp; exact cell_lt' (a := ⟨w1.heap.size, 3, none⟩) (by assumption))) (by first | assumption | go_simp)
       have f4 := keepf H5.out.1 (b := w1.heap.size) (o := 4) (by first | (simp <;> omega) | exact cell_lt' (a := ⟨w1.heap.size, 4, none⟩) (by assumption) | (simp; exact cell_lt' (a := ⟨w1.heap.size, 4, none⟩) (by assumption))) (by first | assumption | go_simp)
       have h0 := keepf H5.out.1 (b := w2.heap.size) (o := 0) (by first | (simp <;> omega) | exact cell_lt' (a := ⟨w2.heap.size, 0, none⟩) (by assumption) | (simp; exact cell_lt' (a := ⟨w2.heap.size, 0, none⟩) (by assumption))) (by first | assumption | go_simp)
       have h1 := keepf H5.out.1 (b := w2.heap.size) (o := 1) (by first | (simp <;> omega) | exact cell_lt' (a := ⟨w2.heap.size, 1, none⟩) (by assumption) | (simp; exact cell_lt' (a := ⟨w2.heap.size, 1, none⟩) (by assumption))) (by first | assumption | go_simp)
       have h2 := keepf H5.out.1 (b := w2.heap.size) (o := 2) (by first | (simp <;> omega) | exact cell_lt' (a := ⟨w2.heap.size, 2, none⟩) (by assumption) | (simp; exact cell_lt' (a := ⟨w2.heap.size, 2, none⟩) (by assumption))) (by first | assumption | go_simp)
       have h3 := keepf H5.out.1 (b := w2.heap.size) (o := 3) (by first | (simp <;> omega) | exact cell_lt' (a := ⟨w2.heap.size, 3, none⟩) (by assumption) | (simp; exact cell_lt' (a := ⟨w2.heap.size, 3, none⟩) (by assumption))) (by first | assumption | go_simp)
       have h4 := keepf H5.out.1 (b := w2.heap.size) (o := 4) (by first | (simp <;> omega) | exact cell_lt' (a := ⟨w2.heap.size, 4, none⟩) (by assumption) | (simp; exact cell_lt' (a := ⟨w2.heap.size, 4, none⟩) (by assumption))) (by first | assumption | go_simp)
       have B5 := on B4 H5.out.1
       clear B4))
  obtain ⟨w6, hw6⟩ : ∃ w6, w6 = (((((w5.setCell ⟨w1.heap.size, 0, none⟩ (.int .i64 Q1)).setCell ⟨w1.heap.size, 1, none⟩ (.int .i64 Q2)).setCell ⟨w1.heap.size, 2, none⟩ (.int .i64 A1)).setCell ⟨w1.heap.size, 3, none⟩ (.int .i64 A2)).setCell ⟨w1.heap.size, 4, none⟩ (.slice y5 M c5)) := ⟨_, rfl⟩
  have T6 : Turns (atB w1.heap.size) w5 w6 := by
    rw [hw6]
    exact (Turns.refl (atB w1.heap.size) w5).set5 w1.heap.size rfl _ _ _ _ _
  have l9 := H5.out.1.size
  have k0 := keepn T6 (b := w.heap.size) (by omega) k0
  have k1 := keepn T6 (b := w.heap.size) (by omega) k1
  have k2 := keepn T6 (b := w.heap.size) (by omega) k2
  have k3 := keepn T6 (b := w.heap.size) (by omega) k3
  have k4 := keepn T6 (b := w.heap.size) (by omega) k4
  have j0 := keepn T6 (b := w.heap.size + 1) (by omega) j0
  have j1 := keepn T6 (b := w.heap.size + 1) (by omega) j1
  have q0 := keepn T6 (b := w2.heap.size) (by omega) q0
  have q1 := keepn T6 (b := w2.heap.size) (by omega) q1
  have q2 := keepn T6 (b := w2.heap.size) (by omega) q2
  have q3 := keepn T6 (b := w2.heap.size) (by omega) q3
  have q4 := keepn T6 (b := w2.heap.size) (by omega) q4
  have h0 := keepnf T6 (b := w2.heap.size) (by omega) (by omega) h0
  have h1 := keepnf T6 (b := w2.heap.size) (by omega) (by omega) h1
  have h2 := keepnf T6 (b := w2.heap.size) (by omega) (by omega) h2
  have h3 := keepnf T6 (b := w2.heap.size) (by omega) (by omega) h3
  have h4 := keepnf T6 (b := w2.heap.size) (by omega) (by omega) h4
  have n0 : w6.cell? ⟨w1.heap.size, 0, none⟩ = some (.int .i64 Q1) := by rw [hw6]; go_simp
  have n1 : w6.cell? ⟨w1.heap.size, 1, none⟩ = some (.int .i64 Q2) := by rw [hw6]; go_simp
  have n2 : w6.cell? ⟨w1.heap.size, 2, none⟩ = some (.int .i64 A1) := by rw [hw6]; go_simp
  have n3 : w6.cell? ⟨w1.heap.size, 3, none⟩ = some (.int .i64 A2) := by rw [hw6]; go_simp
  have n4 : w6.cell? ⟨w1.heap.size, 4, none⟩ = some (.slice y5 M c5) := by rw [hw6]; go_simp
  have S6 : Hid (Sl w6 y5 M c5 L' ∧ ∀ a, y5 = some a → w4.heap.size ≤ a.block) := ⟨H5.out.2.1.turns T6 (fun _ a ha e => by
    have := (H5.out.2.2 a ha).1
    have e2 : a.block = w1.heap.size := e
    omega), fun a ha => (H5.out.2.2 a ha).1⟩
  have B6 : Below w.heap.size w w6 := B5.trans (T6.below (fun k hk => by have e2 : k = w1.heap.size := hk; omega) B5.size)
  have M6 : Hid (Bm w6 w6 g vn vl 0) := Bm.start ((H4.out.1.2.1.below H5.out.1).turns T6 (fun _ a ha e => by
    cases ha
    have e2 : g = w1.heap.size := e
    omega)) (fun j => keepnf T6 (by omega) (by omega) (keepf H5.out.1 l7 (H4.out.2 j)))
  have l10 : g < w6.heap.size := by have := T6.size; omega
  rw [← hw6]
  clear hw6 H5 H4 B5 T6 m0 m1 m2 m3 m4 f0 f1 f2 f3 f4 hvn
  go_loopw [12] (fun i wr => ∃ k : Nat, k ≤ vn ∧ i = .int .i64 k ∧ Hid (Bm w6 wr g vn vl k)) (fun i _ => vn - (intOf i).toNat)
  case atStart => exact ⟨0, by omega, rfl, M6.out⟩
  case round =>
    obtain ⟨i, hi, rfl, HR⟩ := hrel
    by_cases hlt : i < vn
    · have hkn : (i : Int) < (vn : Int) := by omega
      obtain ⟨c1, f1⟩ := HR.out.rest i (Nat.le_refl _) hlt
      have HN : Hid (∀ u, Bm w6 (wr.setCell ⟨g, i, none⟩ u) g vn vl (i + 1)) := fun u => HR.out.step u
      clear HR M6 S6 k0 k1 k2 k3 k4 j0 j1 q0 q1 q2 q3 q4 n0 n1 n2 n3 n4 h0 h1 h2 h3 h4 hAr hS2 hW hl hv
      generalize (gl vl i : Int) = v at c1
      go_wp2_with fail
      go_roundw
      case rel => exact ⟨i + 1, by omega, by go_num, HN.out _⟩
      case measure => simp [intOf]; omega
    · obtain rfl : i = vn := by omega
      have T7 := HR.out.turns
      have k0 := keepn T7 (b := w.heap.size) (by omega) k0
      have k1 := keepn T7 (b := w.heap.size) (by omega) k1
      have k2 := keepn T7 (b := w.heap.size) (by omega) k2
      have k3 := keepn T7 (b := w.heap.size) (by omega) k3
      have k4 := keepn T7 (b := w.heap.size) (by omega) k4
      have j0 := keepn T7 (b := w.heap.size + 1) (by omega) j0
      have j1 := keepn T7 (b := w.heap.size + 1) (by omega) j1
      have q0 := keepn T7 (b := w2.heap.size) (by omega) q0
      have q1 := keepn T7 (b := w2.heap.size) (by omega) q1
      have q2 := keepn T7 (b := w2.heap.size) (by omega) q2
      have q3 := keepn T7 (b := w2.heap.size) (by omega) q3
      have q4 := keepn T7 (b := w2.heap.size) (by omega) q4
      have h0 := keepnf T7 (b := w2.heap.size) (by omega) (by omega) h0
      have h1 := keepnf T7 (b := w2.heap.size) (by omega) (by omega) h1
      have h2 := keepnf T7 (b := w2.heap.size) (by omega) (by omega) h2
      have h3 := keepnf T7 (b := w2.heap.size) (by omega) (by omega) h3
      have h4 := keepnf T7 (b := w2.heap.size) (by omega) (by omega) h4
      have n0 := keepn T7 (b := w1.heap.size) (by omega) n0
      have n1 := keepn T7 (b := w1.heap.size) (by omega) n1
      have n2 := keepn T7 (b := w1.heap.size) (by omega) n2
      have n3 := keepn T7 (b := w1.heap.size) (by omega) n3
      have n4 := keepn T7 (b := w1.heap.size) (by omega) n4
      have S7 : Sl wr y5 M c5 L' := S6.out.1.turns T7 (fun _ a ha e => by
        have := S6.out.2 a ha
        have e2 : a.block = g := e
        omega)
      have B7 : Below w.heap.size w wr := B6.trans (T7.below (fun k hk => by have e2 : k = g := hk; omega) B6.size)
      have l11 : w1.heap.size < wr.heap.size := cell_lt' n0
      have l12 : w2.heap.size < wr.heap.size := cell_lt' q0
      have Y5 := S6.out.2
      clear S6 M6 HR T7 B6
      go_wp2_with (first
        | (
           go_at_call 17; refine (hAr _ (hl.below B7) (hv.below B7)).mono ?_; rintro e w8 ⟨y8, c8, rfl, H8⟩; clear hAr
           have n0 := keep H8.out.1 (b := w1.heap.size) (o := 0) (x := .int .i64 Q1) (by first | assumption | go_simp)
           have n1 := keep H8.out.1 (b := w1.heap.size) (o := 1) (x := .int .i64 Q2) (by first | assumption | go_simp)
           have n2 := keep H8.out.1 (b := w1.heap.size) (o := 2) (x := .int .i64 A1) (by first | assumption | go_simp)
           have n3 := keep H8.out.1 (b := w1.heap.size) (o := 3) (x := .int .i64 A2) (by first | assumption | go_simp)
           have n4 := keep H8.out.1 (b := w1.heap.size) (o := 4) (x := .slice y5 M c5) (by first | assumption | go_simp)
           have q0 := keep H8.out.1 (b := w2.heap.size) (o := 0) (x := .int .i64 P1) (by first | assumption | go_simp)
           have q1 := keep H8.out.1 (b := w2.heap.size) (o := 1) (x := .int .i64 P2) (by first | assumption | go_simp)
           have q2 := keep H8.out.1 (b := w2.heap.size) (o := 2) (x := .int .i64 a1) (by first | assumption | go_simp)
           have q3 := keep H8.out.1 (b := w2.heap.size) (o := 3) (x := .int .i64 a2) (by first | assumption | go_simp)
           have q4 := keep H8.out.1 (b := w2.heap.size) (o := 4) (x := .slice x n c) (by first | assumption | go_simp)
           have h0 := keepf H8.out.1 (b := w2.heap.size) (o := 0) (by first | (simp <;> omega) | exact cell_lt' (a := ⟨w2.heap.size, 0, none⟩) (by assumption) | (simp; exact cell_lt' (a := ⟨w2.heap.size, 0, none⟩) (by assumption))) (by first | assumption | go_simp)
           have h1 := keepf H8.out.1 (b := w2.heap.size) (o := 1) (by first | (simp <;> omega) | exact cell_lt' (a := ⟨w2.heap.size, 1, none⟩) (by assumption) | (simp; exact cell_lt' (a := ⟨w2.heap.size, 1, none⟩) (by assumption))) (by first | assumption | go_simp)
           have h2 := keepf H8.out.1 (b := w2.heap.size) (o := 2) (by first | (simp <;> omega) | exact cell_lt' (a := ⟨w2.heap.size, 2, none⟩) (by assumption) | (simp; exact cell_lt' (a := ⟨w2.heap.size, 2, none⟩) (by assumption))) (by first | assumption | go_simp)
           have h3 := keepf H8.out.1 (b := w2.heap.size) (o := 3) (by first | (simp <;> omega) | exact cell_lt' (a := ⟨w2.heap.size, 3, none⟩) (by assumption) | (simp; exact cell_lt' (a := ⟨w2.heap.size, 3, none⟩) (by assumption))) (by first | assumption | go_simp)
           have h4 := keepf H8.out.1 (b := w2.heap.size) (o := 4) (by first | (simp <;> omega) | exact cell_lt' (a := ⟨w2.heap.size, 4, none⟩) (by assumption) | (simp; exact cell_lt' (a := ⟨w2.heap.size, 4, none⟩) (by assumption))) (by first | assumption | go_simp)
           have S8 := S7.below H8.out.1
           have Z8 := H8.out.2.1
           have Y8 := H8.out.2.2
           have B8 := on B7 H8.out.1
           clear S7 B7 H8)
        | (
           go_at_call 15; refine (hS2 y5 c5 y8 c8 _ ?_ ?_).mono ?_
           · exact S8.turns ((Turns.refl (atB w2.heap.size) w8).set5 w2.heap.size rfl _ _ _ _ _) (fun _ a ha e => by
               have := Y5 a ha
               have e2 : a.block = w2.heap.size := e
               omega)
           · exact Z8.turns ((Turns.refl (atB w2.heap.size) w8).set5 w2.heap.size rfl _ _ _ _ _) (fun hM a ha e => by
               have := Y8 hM a ha
               have e2 : a.block = w2.heap.size := e
               omega)
           rintro e w9 ⟨rfl, hb9⟩; clear hS2
           have B9 := on (below5 B8 w2.heap.size (by omega) _ _ _ _ _) hb9
           clear B8 hb9 S8 Z8)
        | (
           go_at_call 12; refine (hW _).mono ?_; rintro e w10 ⟨rfl, hb10⟩; clear hW))
      go_ret
      exact ⟨by simp, on B9 hb10⟩

theorem sl_old {w : World} {x : Option Addr} {n c : Nat} {l : List Nat} (h : Sl w x n c l) (hn : n ≠ 0) : ∀ a, x = some a → a.block < w.heap.size := fun a ha => by
  rcases h.row with h0 | ⟨b, o, rfl, hb, _⟩
  · exact absurd h0 hn
  · cases ha
    exact hb

theorem walk (V : AccV) (b : Bt) (vx : Option Addr) (vn vc : Nat) (f : Nat → Nat) (w : World) (h : AccIn w V) (hb : wfi b.1 ∧ wfi b.2) (hv0 : BytesIn w vx vn vc f) :
    Calls Try.prog 4 #[.agg #[.int .i64 V.p.1, .int .i64 V.p.2, .int .i64 V.a.1, .int .i64 V.a.2, .slice V.x V.n V.c], bt b, .slice vx vn vc] w fun e w' => e = .returned (.bool true) ∧ Below w.heap.size w w' := by
  have hv := Sl.of_in hv0
  have hsm : vn ≤ 140737488351232 := Nat.le_trans hv0.le hv0.small
  have hnn : V.n ≤ 140737488355328 := by have := h.sm; omega
  have hvn : vn ≤ 140737488355328 := by omega
  cases hf : freeb V.p V.a V.n b with
  | true =>
    exact acts_walk V.p.1 V.p.2 V.a.1 V.a.2 b.1 b.2 b.1 b.2 b.1 b.2 b.1 b.2 V.x V.n V.c V.d vx vn vc _ vn _ true w h.sl hv hsm
      (fun W hW => prepare_yes V.p V.a V.x V.n V.c V.d b W hW hnn hf) (fun W => rprep_yes V.p V.a V.x V.n V.c b W hf)
      (fun W ox oc h1 h2 => accept_yes V.p V.a V.x V.n V.c b ox vn oc _ W h2 hvn hf)
      (fun W h1 h2 => (raccept_yes V.p V.a V.x V.n V.c b vx vn vc _ W h2 hvn hf).mono fun e w' ⟨y, cy, e1, H⟩ => ⟨y, cy, e1, H.out.1, H.out.2.1, fun _ a ha => .inr (H.out.2.2 a ha).1⟩)
  | false =>
    exact acts_walk V.p.1 V.p.2 V.a.1 V.a.2 b.1 b.2 V.p.1 V.p.2 V.p.1 V.p.2 V.a.1 V.a.2 V.x V.n V.c V.d vx vn vc _ V.n V.d false w h.sl hv hsm
      (fun W hW => prepare_no V.p V.a V.x V.n V.c V.d b W hW hnn hf) (fun W => rprep_no V.p V.a V.x V.n V.c b W hf)
      (fun W ox oc h1 h2 => accept_no V.p V.a V.x V.n V.c V.d b ox vn oc W h1 hnn hf)
      (fun W h1 h2 => (raccept_no V.p V.a V.x V.n V.c b vx vn vc W hf).mono fun e w' ⟨e1, H⟩ => ⟨V.x, V.c, e1, H, h1.below H, fun hM a ha => .inl (sl_old h.sl hM a ha)⟩)

set_option maxRecDepth 100000 in
theorem lifted (os : Os) (started : os.Started) (H : Type) (enc : TypeId × Value → H) :
    ReturnsInHanded {} Try.checked os 4 .any (Rows.ballotActsSpec.pre6 enc Try.prog Try.f4 Rows.ballotActsRow.domain false) (Rows.ballotActsSpec.post enc Try.prog Try.f4 false true false false) := by
  refine returnsInHanded_of_change_sized (C := Try.checked) own started (by kernel_rfl) Try.func4
    (ChangeSpec.witness6 (enc := enc) (C := Try.checked) false ⟨#[], #[.agg #[.int .i64 0, .int .i64 0, .int .i64 0, .int .i64 0, .slice none 0 0], .agg #[.int .i64 0, .int .i64 0], .slice none 0 0], []⟩ 8 (by kernel_rfl) (by kernel_rfl) (by kernel_rfl) (by kernel_rfl)) ?_
  intro W base args ds gs before hval0 hW hcnd hsz0 _
  have hsz : (DataW.weightsEach Try.prog (Try.f4.params.toList ++ Rows.ballotActsSpec.plain.varTypes Try.prog) (ds ++ gs)).all (· ≤ reachBytes) = true := hsz0
  have hval : ∀ (j : Nat) t v, Try.f4.params[j]? = some t → args[j]? = some v → Value.okWide Try.prog W .any base t v := hval0
  have hW' := hW
  obtain ⟨p, q, hA0, hV, rfl, hfz, hnd⟩ := hW
  have hA : DataW.TrodAll enc Try.prog W 0 (fun _ => true) true Try.f4.params.toList args.toList ds p := hA0
  rw [Try.params4] at hA hval hsz
  obtain ⟨v0, vs0, d0, ds0, p0, q0, hargs, rfl, rfl, h0, r0⟩ := trodAll_cons hA
  obtain ⟨v1, vs1, d1, ds1, p1, q1, rfl, rfl, rfl, h1, r1⟩ := trodAll_cons r0
  obtain ⟨v2, vs2, d2, ds2, p2, q2, rfl, rfl, rfl, h2, r2⟩ := trodAll_cons r1
  obtain ⟨rfl, rfl, rfl⟩ := trodAll_nil r2
  obtain rfl : args = #[v0, v1, v2] := by cases args; simp_all
  obtain ⟨rfl, rfl⟩ := trodVars_none hV
  have k0 := h0
  have lt0 : ∀ x ∈ p0, x.block < W.heap.size := by obtain ⟨m, hm⟩ := k0; exact DataW.trod_lt m _ _ _ hm
  have s0 : ∀ x ∈ d0.weights Try.prog 26, x ≤ reachBytes := fun x hx => by
    have := List.all_eq_true.1 hsz x (DataW.weights_mem_each (j := 0) rfl rfl x hx)
    simpa using this
  obtain ⟨V0, rfl, w0⟩ := Ba.acc_in (okWide_struct Try.underlying26 (hval 0 26 v0 rfl rfl)) h0 s0
  have k1 := h1
  have lt1 : ∀ x ∈ p1, x.block < W.heap.size := by obtain ⟨m, hm⟩ := k1; exact DataW.trod_lt m _ _ _ hm
  have s1 : ∀ x ∈ d1.weights Try.prog 23, x ≤ reachBytes := fun x hx => by
    have := List.all_eq_true.1 hsz x (DataW.weights_mem_each (j := 1) rfl rfl x hx)
    simpa using this
  obtain ⟨V1, rfl, w1⟩ := Ba.bal_in (okWide_struct Try.underlying23 (hval 1 23 v1 rfl rfl)) h1
  have k2 := h2
  have lt2 : ∀ x ∈ p2, x.block < W.heap.size := by obtain ⟨m, hm⟩ := k2; exact DataW.trod_lt m _ _ _ hm
  have s2 : ∀ x ∈ d2.weights Try.prog 24, x ≤ reachBytes := fun x hx => by
    have := List.all_eq_true.1 hsz x (DataW.weights_mem_each (j := 2) rfl rfl x hx)
    simpa using this
  obtain ⟨b2, nn2, cc2, rfl⟩ := okWide_slice Try.underlying24 (hval 2 24 v2 rfl rfl)
  obtain ⟨fu2, hf2⟩ := h2
  obtain ⟨a2, len2, cap2, f2, e2, w2⟩ := bytes_in hf2 s2
  simp [Value.cells] at e2
  obtain ⟨rfl, rfl, rfl⟩ := e2
  clear hA0 hval0
  refine (walk V0 V1 b2 nn2 cc2 f2 W w0 w1 w2).mono fun e W' ⟨he, bel⟩ => ?_
  subst he
  exact ⟨_, rfl, _, _, _, [], _, [], hW', trodAll_mk1 (shut_bool Try.underlying4 _), (trodAll_cons_mk (Below.trod laidOut (by kernel_rfl) (of_decide_eq_true (by kernel_rfl)) k0 bel lt0) (trodAll_cons_mk (Below.trod laidOut (by kernel_rfl) (of_decide_eq_true (by kernel_rfl)) k1 bel lt1) (trodAll_cons_mk (Below.trod laidOut (by kernel_rfl) (of_decide_eq_true (by kernel_rfl)) k2 bel lt2) trodAll_mk0))), rfl, bel.frame _, fun h => by cases h⟩

theorem over : Rows.ballotActsRow.holds Try.pinned (OpenSpec.ofChange Rows.ballotActsSpec) :=
  OpenClaim.holds_of_wide 4 Try.f4 rfl rfl rfl rfl rfl rfl rfl ⟨rfl, rfl, rfl, rfl, rfl⟩ rfl rfl rfl rfl rfl (by kernel_rfl) Try.func4 (by kernel_rfl)
    (of_decide_eq_true (by kernel_rfl)) (by unfold Func.isWrapper; first | (rw [if_pos (by decide +kernel)]; kernel_rfl) | (rw [if_neg (by decide +kernel)]; exact ⟨rfl, rfl⟩))
    (fun os started H enc _ => lifted os started H enc)

theorem proved : Rows.BallotActsSaid := over
#print axioms proved
end Go.Proofs.Ytlfeafbpknbbfaa.ballotActs
