/-
  Which maps, changes and pools may be: 'mooringlaw13.AtlasChecks' returns true and leaves its arguments as they were.
  Conditions: none.
-/
import Derived.Test.YtnddhlkdemibgaaRows
import Derived.WalkKit
import Derived.ProofKit
import Derived.OpenShut
import Derived.SizedLaws
import Derived.ShutString
import Derived.ChangeOld
import Derived.Below
import Derived.Test.YtnddhlkdemibgaaJ01
import Derived.Test.YtnddhlkdemibgaaJ03
import Derived.Test.YtnddhlkdemibgaaJ06
import Derived.Test.YtnddhlkdemibgaaJ07
namespace Go.Proofs.Ytnddhlkdemibgaa.atlasChecks
open Go.ChangeShapes Go.WideShapes Go.ChangeAt Go.RowKit By
open Fl At
set_option linter.unusedVariables false
set_option linter.unusedSimpArgs false
set_option maxRecDepth 100000

theorem own : ownKnob Try.prog.godebug = none := by kernel_rfl
theorem laidOut : laidOutB Try.prog = true := by kernel_rfl

set_option maxHeartbeats 6400000 in
theorem walk_no (V0 : MpV) (V1 : Ch) (id : Int) (w : World) (h0 : MapIn w V0) (hp : poolB V0.m.pool = false) : Calls Try.prog 3 #[vM V0.m.ep V0.m.pool V0.x V0.n V0.c, vC V1, .int .i64 id] w fun e w' => e = .returned (.bool true) ∧ Below w.heap.size w w' := by
  obtain ⟨⟨ep, p, L⟩, x, n, c⟩ := V0
  have hO := h0.os
  have hk := h0.k
  dsimp only at hO hk hp ⊢
  have HO := hid hO
  have hN := fun W => new_no p W hk hp
  have hF := fun W (hW : At.Os W x n c L) => find_any ⟨ep, p, L⟩ id hW
  have hG := fun W (hW : At.Os W x n c L) => rfind_any ⟨ep, p, L⟩ id hW
  have hP := fun W => rpool_any p W
  rw [hp] at hP
  have hE := fun b W => errno_any b W
  have hS := fun W => rsame_any (w := W) (x := none) (y := none) (n := 0) (c := 0) (n' := 0) (c' := 0) ⟨0, p, []⟩ ⟨0, p, []⟩ ⟨rfl, Nat.le_refl _, by omega, fun _ => ⟨rfl, rfl⟩, .inl rfl⟩ ⟨rfl, Nat.le_refl _, by omega, fun _ => ⟨rfl, rfl⟩, .inl rfl⟩
  rw [show eqM ⟨0, p, []⟩ ⟨0, p, []⟩ = true from (eqM_iff _ _).2 rfl] at hS
  have hC := fun W (hW : At.Os W x n c L) => check_any ⟨ep, p, L⟩ hW hk
  have hM := fun W (hW : At.Os W x n c L) => rmay_any ⟨ep, p, L⟩ hW
  have hD := fun W => checkChange_any V1 W
  have hR := fun W => rmayChange_any V1 W
  have hA := fun W => awake_any W
  dsimp only at hF hG
  generalize mayM ⟨ep, p, L⟩ = tm at *
  generalize mayC V1 = tc at *
  obtain ⟨⟨f, ft⟩, hf⟩ : ∃ f, f = findP L id := ⟨_, rfl⟩
  rw [← hf] at hF hG
  have hEq := fun W => eq_osd f f W
  rw [(eqO_iff f f).2 rfl] at hEq
  clear hf h0 hk hp hO
  obtain ⟨k, m, g, d⟩ := p
  obtain ⟨ck, c0, c1, c2, c3, c4, c5, c6, c7⟩ := V1
  obtain ⟨f0, f1, f2, f3, f4, f5, f6, f7⟩ := f
  have eT : errB true = 0 := rfl
  have eF : errB false = 1 := rfl
  unfold vM vP vC vO noP at *
  dsimp only at hN hF hG hP hS hC hM hD hR hEq ⊢
  have b0 : Below w.heap.size w ((w.alloc (.cells #[.int .i64 ep, .int .i64 k, .int .i64 m, .int .i64 g, .int .i64 d, .slice x n c] 26)).alloc (.cells #[.int .i64 ck, .int .i64 c0, .bool c1, .bool c2, .int .i64 c3, .int .i64 c4, .int .i64 c5, .int .i64 c6, .int .i64 c7] 30)) := on (al _ _) (al _ _)
  go_enter Try.func3, Try.ntmps3
  go_wp2_with (first
    | (
       go_at_call 9; refine (hN _).mono ?_; rintro e w1 ⟨rfl, hb1⟩; clear hN
       have k0 := keep hb1 (b := w.heap.size) (o := 0) (x := .int .i64 ep) (by first | assumption | go_simp)
       have k1 := keep hb1 (b := w.heap.size) (o := 1) (x := .int .i64 k) (by first | assumption | go_simp)
       have k2 := keep hb1 (b := w.heap.size) (o := 2) (x := .int .i64 m) (by first | assumption | go_simp)
       have k3 := keep hb1 (b := w.heap.size) (o := 3) (x := .int .i64 g) (by first | assumption | go_simp)
       have k4 := keep hb1 (b := w.heap.size) (o := 4) (x := .int .i64 d) (by first | assumption | go_simp)
       have k5 := keep hb1 (b := w.heap.size) (o := 5) (x := .slice x n c) (by first | assumption | go_simp)
       have j0 := keep hb1 (b := w.heap.size + 1) (o := 0) (x := .int .i64 ck) (by first | assumption | go_simp)
       have j1 := keep hb1 (b := w.heap.size + 1) (o := 1) (x := .int .i64 c0) (by first | assumption | go_simp)
       have j2 := keep hb1 (b := w.heap.size + 1) (o := 2) (x := .bool c1) (by first | assumption | go_simp)
       have j3 := keep hb1 (b := w.heap.size + 1) (o := 3) (x := .bool c2) (by first | assumption | go_simp)
       have j4 := keep hb1 (b := w.heap.size + 1) (o := 4) (x := .int .i64 c3) (by first | assumption | go_simp)
       have j5 := keep hb1 (b := w.heap.size + 1) (o := 5) (x := .int .i64 c4) (by first | assumption | go_simp)
       have j6 := keep hb1 (b := w.heap.size + 1) (o := 6) (x := .int .i64 c5) (by first | assumption | go_simp)
       have j7 := keep hb1 (b := w.heap.size + 1) (o := 7) (x := .int .i64 c6) (by first | assumption | go_simp)
       have j8 := keep hb1 (b := w.heap.size + 1) (o := 8) (x := .int .i64 c7) (by first | assumption | go_simp)
       have l0 : w.heap.size < w1.heap.size := cell_lt' k0
       have l1 : w.heap.size + 1 < w1.heap.size := cell_lt' j0
       have B1 := on b0 hb1
       have bn := al w1 (.cells #[.int .i64 0, .int .i64 0, .int .i64 0, .int .i64 0, .int .i64 0, .slice none 0 0] 26)
       have hF1 := hF _ (HO.out.below (on B1 bn))
       clear hF hb1)
    | (
       go_at_call 10; refine hF1.mono ?_; rintro e w2 ⟨rfl, hb2⟩; clear hF1
       have k0 := keep hb2 (b := w.heap.size) (o := 0) (x := .int .i64 ep) (by first | assumption | go_simp)
       have k1 := keep hb2 (b := w.heap.size) (o := 1) (x := .int .i64 k) (by first | assumption | go_simp)
       have k2 := keep hb2 (b := w.heap.size) (o := 2) (x := .int .i64 m) (by first | assumption | go_simp)
       have k3 := keep hb2 (b := w.heap.size) (o := 3) (x := .int .i64 g) (by first | assumption | go_simp)
       have k4 := keep hb2 (b := w.heap.size) (o := 4) (x := .int .i64 d) (by first | assumption | go_simp)
       have k5 := keep hb2 (b := w.heap.size) (o := 5) (x := .slice x n c) (by first | assumption | go_simp)
       have n0 := keep hb2 (b := w1.heap.size) (o := 0) (x := .int .i64 0) (by first | assumption | go_simp)
       have n1 := keep hb2 (b := w1.heap.size) (o := 1) (x := .int .i64 0) (by first | assumption | go_simp)
       have n2 := keep hb2 (b := w1.heap.size) (o := 2) (x := .int .i64 0) (by first | assumption | go_simp)
       have n3 := keep hb2 (b := w1.heap.size) (o := 3) (x := .int .i64 0) (by first | assumption | go_simp)
       have n4 := keep hb2 (b := w1.heap.size) (o := 4) (x := .int .i64 0) (by first | assumption | go_simp)
       have n5 := keep hb2 (b := w1.heap.size) (o := 5) (x := .slice none 0 0) (by first | assumption | go_simp)
       have l2 : w.heap.size < w2.heap.size := cell_lt' k0
       have l3 : w1.heap.size < w2.heap.size := cell_lt' n0
       have B2 := on (on B1 bn) hb2
       have N2 := on bn hb2
       have bo := al w2 (.cells #[.int .i64 f0, .bool f1, .bool f2, .int .i64 f3, .int .i64 f4, .int .i64 f5, .int .i64 f6, .int .i64 f7] 28)
       have hG2 := hG _ (HO.out.below (on B2 bo))
       clear hG hb2)
    | (
       go_at_call 11; refine hG2.mono ?_; rintro e w3 ⟨rfl, hb3⟩; clear hG2
       have k0 := keep hb3 (b := w.heap.size) (o := 0) (x := .int .i64 ep) (by first | assumption | go_simp)
       have k1 := keep hb3 (b := w.heap.size) (o := 1) (x := .int .i64 k) (by first | assumption | go_simp)
       have k2 := keep hb3 (b := w.heap.size) (o := 2) (x := .int .i64 m) (by first | assumption | go_simp)
       have k3 := keep hb3 (b := w.heap.size) (o := 3) (x := .int .i64 g) (by first | assumption | go_simp)
       have k4 := keep hb3 (b := w.heap.size) (o := 4) (x := .int .i64 d) (by first | assumption | go_simp)
       have k5 := keep hb3 (b := w.heap.size) (o := 5) (x := .slice x n c) (by first | assumption | go_simp)
       have n0 := keep hb3 (b := w1.heap.size) (o := 0) (x := .int .i64 0) (by first | assumption | go_simp)
       have n1 := keep hb3 (b := w1.heap.size) (o := 1) (x := .int .i64 0) (by first | assumption | go_simp)
       have n2 := keep hb3 (b := w1.heap.size) (o := 2) (x := .int .i64 0) (by first | assumption | go_simp)
       have n3 := keep hb3 (b := w1.heap.size) (o := 3) (x := .int .i64 0) (by first | assumption | go_simp)
       have n4 := keep hb3 (b := w1.heap.size) (o := 4) (x := .int .i64 0) (by first | assumption | go_simp)
       have n5 := keep hb3 (b := w1.heap.size) (o := 5) (x := .slice none 0 0) (by first | assumption | go_simp)
       have o0 := keep hb3 (b := w2.heap.size) (o := 0) (x := .int .i64 f0) (by first | assumption | go_simp)
       have o1 := keep hb3 (b := w2.heap.size) (o := 1) (x := .bool f1) (by first | assumption | go_simp)
       have o2 := keep hb3 (b := w2.heap.size) (o := 2) (x := .bool f2) (by first | assumption | go_simp)
       have o3 := keep hb3 (b := w2.heap.size) (o := 3) (x := .int .i64 f3) (by first | assumption | go_simp)
       have o4 := keep hb3 (b := w2.heap.size) (o := 4) (x := .int .i64 f4) (by first | assumption | go_simp)
       have o5 := keep hb3 (b := w2.heap.size) (o := 5) (x := .int .i64 f5) (by first | assumption | go_simp)
       have o6 := keep hb3 (b := w2.heap.size) (o := 6) (x := .int .i64 f6) (by first | assumption | go_simp)
       have o7 := keep hb3 (b := w2.heap.size) (o := 7) (x := .int .i64 f7) (by first | assumption | go_simp)
       have l4 : w.heap.size < w3.heap.size := cell_lt' k0
       have l5 : w1.heap.size < w3.heap.size := cell_lt' n0
       have l6 : w2.heap.size < w3.heap.size := cell_lt' o0
       have B3 := on (on B2 bo) hb3
       have N3 := on (on N2 bo) hb3
       have bx := al w3 (.cells #[.int .i64 f0, .bool f1, .bool f2, .int .i64 f3, .int .i64 f4, .int .i64 f5, .int .i64 f6, .int .i64 f7] 28)
       clear hb3)
    | (
       go_at_call 13; refine (hP _).mono ?_; rintro e w4 ⟨rfl, hb4⟩; clear hP
       have k0 := keep hb4 (b := w.heap.size) (o := 0) (x := .int .i64 ep) (by first | assumption | go_simp)
       have k1 := keep hb4 (b := w.heap.size) (o := 1) (x := .int .i64 k) (by first | assumption | go_simp)
       have k2 := keep hb4 (b := w.heap.size) (o := 2) (x := .int .i64 m) (by first | assumption | go_simp)
       have k3 := keep hb4 (b := w.heap.size) (o := 3) (x := .int .i64 g) (by first | assumption | go_simp)
       have k4 := keep hb4 (b := w.heap.size) (o := 4) (x := .int .i64 d) (by first | assumption | go_simp)
       have k5 := keep hb4 (b := w.heap.size) (o := 5) (x := .slice x n c) (by first | assumption | go_simp)
       have n0 := keep hb4 (b := w1.heap.size) (o := 0) (x := .int .i64 0) (by first | assumption | go_simp)
       have n1 := keep hb4 (b := w1.heap.size) (o := 1) (x := .int .i64 0) (by first | assumption | go_simp)
       have n2 := keep hb4 (b := w1.heap.size) (o := 2) (x := .int .i64 0) (by first | assumption | go_simp)
       have n3 := keep hb4 (b := w1.heap.size) (o := 3) (x := .int .i64 0) (by first | assumption | go_simp)
       have n4 := keep hb4 (b := w1.heap.size) (o := 4) (x := .int .i64 0) (by first | assumption | go_simp)
       have n5 := keep hb4 (b := w1.heap.size) (o := 5) (x := .slice none 0 0) (by first | assumption | go_simp)
       have y0 := keep hb4 (b := w3.heap.size) (o := 0) (x := .int .i64 f0) (by first | assumption | go_simp)
       have y1 := keep hb4 (b := w3.heap.size) (o := 1) (x := .bool f1) (by first | assumption | go_simp)
       have y2 := keep hb4 (b := w3.heap.size) (o := 2) (x := .bool f2) (by first | assumption | go_simp)
       have y3 := keep hb4 (b := w3.heap.size) (o := 3) (x := .int .i64 f3) (by first | assumption | go_simp)
       have y4 := keep hb4 (b := w3.heap.size) (o := 4) (x := .int .i64 f4) (by first | assumption | go_simp)
       have y5 := keep hb4 (b := w3.heap.size) (o := 5) (x := .int .i64 f5) (by first | assumption | go_simp)
       have y6 := keep hb4 (b := w3.heap.size) (o := 6) (x := .int .i64 f6) (by first | assumption | go_simp)
       have y7 := keep hb4 (b := w3.heap.size) (o := 7) (x := .int .i64 f7) (by first | assumption | go_simp)
       have B4 := on (on B3 bx) hb4
       have U4 := on bx hb4
       have V4 := on (on N3 bx) hb4
       clear hb4)
    | (
       go_at_call 12; refine (hE _ _).mono ?_; rintro e w9 ⟨rfl, h9⟩; replace h9 := h9.symm; subst h9))
  haveI := After.ne w4
  have j0' := keep V4 j0
  have j1' := keep V4 j1
  have j2' := keep V4 j2
  have j3' := keep V4 j3
  have j4' := keep V4 j4
  have j5' := keep V4 j5
  have j6' := keep V4 j6
  have j7' := keep V4 j7
  have j8' := keep V4 j8
  have o0' := keep U4 o0
  have o1' := keep U4 o1
  have o2' := keep U4 o2
  have o3' := keep U4 o3
  have o4' := keep U4 o4
  have o5' := keep U4 o5
  have o6' := keep U4 o6
  have o7' := keep U4 o7
  have ka0 := After.cell k0
  have ka1 := After.cell k1
  have ka2 := After.cell k2
  have ka3 := After.cell k3
  have ka4 := After.cell k4
  have ka5 := After.cell k5
  have ja0 := After.cell j0'
  have ja1 := After.cell j1'
  have ja2 := After.cell j2'
  have ja3 := After.cell j3'
  have ja4 := After.cell j4'
  have ja5 := After.cell j5'
  have ja6 := After.cell j6'
  have ja7 := After.cell j7'
  have ja8 := After.cell j8'
  have oa0 := After.cell o0'
  have oa1 := After.cell o1'
  have oa2 := After.cell o2'
  have oa3 := After.cell o3'
  have oa4 := After.cell o4'
  have oa5 := After.cell o5'
  have oa6 := After.cell o6'
  have oa7 := After.cell o7'
  have ya0 := After.cell y0
  have ya1 := After.cell y1
  have ya2 := After.cell y2
  have ya3 := After.cell y3
  have ya4 := After.cell y4
  have ya5 := After.cell y5
  have ya6 := After.cell y6
  have ya7 := After.cell y7
  have hC' := fun (q : After w4) => hC q.W (HO.out.below (on B4 q.h))
  have hM' := fun (q : After w4) => hM q.W (HO.out.below (on B4 q.h))
  have HB := hid B4
  clear hC hM
  refine wp_region_after (by kernel_rfl) (by kernel_rfl) ?_
  repeat (go_big_quiet_step ((first
    | (go_at_call 15; refine Calls.after_of (hC' _))
    | (go_at_call 16; refine Calls.after_of (hM' _))
    | (go_at_call 12; refine Calls.after_same (hE _ _))
    | (go_at_call 17; refine Calls.after_of (hD _))
    | (go_at_call 18; refine Calls.after_of (hR _))
    | (go_at_call 19; refine Calls.after_of (hA _)))))
  refine wpQuiet_nil ?_
  rintro _ ⟨q, rfl⟩
  go_wp2_with fail
  go_ret
  exact ⟨rfl, on HB.out q.h⟩

set_option maxHeartbeats 6400000 in
theorem walk_yes (V0 : MpV) (V1 : Ch) (id : Int) (w : World) (h0 : MapIn w V0) (hp : poolB V0.m.pool = true) : Calls Try.prog 3 #[vM V0.m.ep V0.m.pool V0.x V0.n V0.c, vC V1, .int .i64 id] w fun e w' => e = .returned (.bool true) ∧ Below w.heap.size w w' := by
  obtain ⟨⟨ep, p, L⟩, x, n, c⟩ := V0
  have hO := h0.os
  have hk := h0.k
  dsimp only at hO hk hp ⊢
  have HO := hid hO
  have hN := fun W => new_yes p W hk hp
  have hF := fun W (hW : At.Os W x n c L) => find_any ⟨ep, p, L⟩ id hW
  have hG := fun W (hW : At.Os W x n c L) => rfind_any ⟨ep, p, L⟩ id hW
  have hP := fun W => rpool_any p W
  rw [hp] at hP
  have hE := fun b W => errno_any b W
  have hS := fun W => rsame_any (w := W) (x := none) (y := none) (n := 0) (c := 0) (n' := 0) (c' := 0) ⟨0, p, []⟩ ⟨0, p, []⟩ ⟨rfl, Nat.le_refl _, by omega, fun _ => ⟨rfl, rfl⟩, .inl rfl⟩ ⟨rfl, Nat.le_refl _, by omega, fun _ => ⟨rfl, rfl⟩, .inl rfl⟩
  rw [show eqM ⟨0, p, []⟩ ⟨0, p, []⟩ = true from (eqM_iff _ _).2 rfl] at hS
  have hC := fun W (hW : At.Os W x n c L) => check_any ⟨ep, p, L⟩ hW hk
  have hM := fun W (hW : At.Os W x n c L) => rmay_any ⟨ep, p, L⟩ hW
  have hD := fun W => checkChange_any V1 W
  have hR := fun W => rmayChange_any V1 W
  have hA := fun W => awake_any W
  dsimp only at hF hG
  generalize mayM ⟨ep, p, L⟩ = tm at *
  generalize mayC V1 = tc at *
  obtain ⟨⟨f, ft⟩, hf⟩ : ∃ f, f = findP L id := ⟨_, rfl⟩
  rw [← hf] at hF hG
  have hEq := fun W => eq_osd f f W
  rw [(eqO_iff f f).2 rfl] at hEq
  clear hf h0 hk hp hO
  obtain ⟨k, m, g, d⟩ := p
  obtain ⟨ck, c0, c1, c2, c3, c4, c5, c6, c7⟩ := V1
  obtain ⟨f0, f1, f2, f3, f4, f5, f6, f7⟩ := f
  have eT : errB true = 0 := rfl
  have eF : errB false = 1 := rfl
  unfold vM vP vC vO at *
  dsimp only at hN hF hG hP hS hC hM hD hR hEq ⊢
  have b0 : Below w.heap.size w ((w.alloc (.cells #[.int .i64 ep, .int .i64 k, .int .i64 m, .int .i64 g, .int .i64 d, .slice x n c] 26)).alloc (.cells #[.int .i64 ck, .int .i64 c0, .bool c1, .bool c2, .int .i64 c3, .int .i64 c4, .int .i64 c5, .int .i64 c6, .int .i64 c7] 30)) := on (al _ _) (al _ _)
  go_enter Try.func3, Try.ntmps3
  go_wp2_with (first
    | (
       go_at_call 9; refine (hN _).mono ?_; rintro e w1 ⟨rfl, hb1⟩; clear hN
       have k0 := keep hb1 (b := w.heap.size) (o := 0) (x := .int .i64 ep) (by first | assumption | go_simp)
       have k1 := keep hb1 (b := w.heap.size) (o := 1) (x := .int .i64 k) (by first | assumption | go_simp)
       have k2 := keep hb1 (b := w.heap.size) (o := 2) (x := .int .i64 m) (by first | assumption | go_simp)
       have k3 := keep hb1 (b := w.heap.size) (o := 3) (x := .int .i64 g) (by first | assumption | go_simp)
       have k4 := keep hb1 (b := w.heap.size) (o := 4) (x := .int .i64 d) (by first | assumption | go_simp)
       have k5 := keep hb1 (b := w.heap.size) (o := 5) (x := .slice x n c) (by first | assumption | go_simp)
       have j0 := keep hb1 (b := w.heap.size + 1) (o := 0) (x := .int .i64 ck) (by first | assumption | go_simp)
       have j1 := keep hb1 (b := w.heap.size + 1) (o := 1) (x := .int .i64 c0) (by first | assumption | go_simp)
       have j2 := keep hb1 (b := w.heap.size + 1) (o := 2) (x := .bool c1) (by first | assumption | go_simp)
       have j3 := keep hb1 (b := w.heap.size + 1) (o := 3) (x := .bool c2) (by first | assumption | go_simp)
       have j4 := keep hb1 (b := w.heap.size + 1) (o := 4) (x := .int .i64 c3) (by first | assumption | go_simp)
       have j5 := keep hb1 (b := w.heap.size + 1) (o := 5) (x := .int .i64 c4) (by first | assumption | go_simp)
       have j6 := keep hb1 (b := w.heap.size + 1) (o := 6) (x := .int .i64 c5) (by first | assumption | go_simp)
       have j7 := keep hb1 (b := w.heap.size + 1) (o := 7) (x := .int .i64 c6) (by first | assumption | go_simp)
       have j8 := keep hb1 (b := w.heap.size + 1) (o := 8) (x := .int .i64 c7) (by first | assumption | go_simp)
       have l0 : w.heap.size < w1.heap.size := cell_lt' k0
       have l1 : w.heap.size + 1 < w1.heap.size := cell_lt' j0
       have B1 := on b0 hb1
       have bn := al w1 (.cells #[.int .i64 0, .int .i64 k, .int .i64 m, .int .i64 g, .int .i64 d, .slice none 0 0] 26)
       have hF1 := hF _ (HO.out.below (on B1 bn))
       clear hF hb1)
    | (
       go_at_call 10; refine hF1.mono ?_; rintro e w2 ⟨rfl, hb2⟩; clear hF1
       have k0 := keep hb2 (b := w.heap.size) (o := 0) (x := .int .i64 ep) (by first | assumption | go_simp)
       have k1 := keep hb2 (b := w.heap.size) (o := 1) (x := .int .i64 k) (by first | assumption | go_simp)
       have k2 := keep hb2 (b := w.heap.size) (o := 2) (x := .int .i64 m) (by first | assumption | go_simp)
       have k3 := keep hb2 (b := w.heap.size) (o := 3) (x := .int .i64 g) (by first | assumption | go_simp)
       have k4 := keep hb2 (b := w.heap.size) (o := 4) (x := .int .i64 d) (by first | assumption | go_simp)
       have k5 := keep hb2 (b := w.heap.size) (o := 5) (x := .slice x n c) (by first | assumption | go_simp)
       have n0 := keep hb2 (b := w1.heap.size) (o := 0) (x := .int .i64 0) (by first | assumption | go_simp)
       have n1 := keep hb2 (b := w1.heap.size) (o := 1) (x := .int .i64 k) (by first | assumption | go_simp)
       have n2 := keep hb2 (b := w1.heap.size) (o := 2) (x := .int .i64 m) (by first | assumption | go_simp)
       have n3 := keep hb2 (b := w1.heap.size) (o := 3) (x := .int .i64 g) (by first | assumption | go_simp)
       have n4 := keep hb2 (b := w1.heap.size) (o := 4) (x := .int .i64 d) (by first | assumption | go_simp)
       have n5 := keep hb2 (b := w1.heap.size) (o := 5) (x := .slice none 0 0) (by first | assumption | go_simp)
       have l2 : w.heap.size < w2.heap.size := cell_lt' k0
       have l3 : w1.heap.size < w2.heap.size := cell_lt' n0
       have B2 := on (on B1 bn) hb2
       have N2 := on bn hb2
       have bo := al w2 (.cells #[.int .i64 f0, .bool f1, .bool f2, .int .i64 f3, .int .i64 f4, .int .i64 f5, .int .i64 f6, .int .i64 f7] 28)
       have hG2 := hG _ (HO.out.below (on B2 bo))
       clear hG hb2)
    | (
       go_at_call 11; refine hG2.mono ?_; rintro e w3 ⟨rfl, hb3⟩; clear hG2
       have k0 := keep hb3 (b := w.heap.size) (o := 0) (x := .int .i64 ep) (by first | assumption | go_simp)
       have k1 := keep hb3 (b := w.heap.size) (o := 1) (x := .int .i64 k) (by first | assumption | go_simp)
       have k2 := keep hb3 (b := w.heap.size) (o := 2) (x := .int .i64 m) (by first | assumption | go_simp)
       have k3 := keep hb3 (b := w.heap.size) (o := 3) (x := .int .i64 g) (by first | assumption | go_simp)
       have k4 := keep hb3 (b := w.heap.size) (o := 4) (x := .int .i64 d) (by first | assumption | go_simp)
       have k5 := keep hb3 (b := w.heap.size) (o := 5) (x := .slice x n c) (by first | assumption | go_simp)
       have n0 := keep hb3 (b := w1.heap.size) (o := 0) (x := .int .i64 0) (by first | assumption | go_simp)
       have n1 := keep hb3 (b := w1.heap.size) (o := 1) (x := .int .i64 k) (by first | assumption | go_simp)
       have n2 := keep hb3 (b := w1.heap.size) (o := 2) (x := .int .i64 m) (by first | assumption | go_simp)
       have n3 := keep hb3 (b := w1.heap.size) (o := 3) (x := .int .i64 g) (by first | assumption | go_simp)
       have n4 := keep hb3 (b := w1.heap.size) (o := 4) (x := .int .i64 d) (by first | assumption | go_simp)
       have n5 := keep hb3 (b := w1.heap.size) (o := 5) (x := .slice none 0 0) (by first | assumption | go_simp)
       have o0 := keep hb3 (b := w2.heap.size) (o := 0) (x := .int .i64 f0) (by first | assumption | go_simp)
       have o1 := keep hb3 (b := w2.heap.size) (o := 1) (x := .bool f1) (by first | assumption | go_simp)
       have o2 := keep hb3 (b := w2.heap.size) (o := 2) (x := .bool f2) (by first | assumption | go_simp)
       have o3 := keep hb3 (b := w2.heap.size) (o := 3) (x := .int .i64 f3) (by first | assumption | go_simp)
       have o4 := keep hb3 (b := w2.heap.size) (o := 4) (x := .int .i64 f4) (by first | assumption | go_simp)
       have o5 := keep hb3 (b := w2.heap.size) (o := 5) (x := .int .i64 f5) (by first | assumption | go_simp)
       have o6 := keep hb3 (b := w2.heap.size) (o := 6) (x := .int .i64 f6) (by first | assumption | go_simp)
       have o7 := keep hb3 (b := w2.heap.size) (o := 7) (x := .int .i64 f7) (by first | assumption | go_simp)
       have l4 : w.heap.size < w3.heap.size := cell_lt' k0
       have l5 : w1.heap.size < w3.heap.size := cell_lt' n0
       have l6 : w2.heap.size < w3.heap.size := cell_lt' o0
       have B3 := on (on B2 bo) hb3
       have N3 := on (on N2 bo) hb3
       have bx := al w3 (.cells #[.int .i64 f0, .bool f1, .bool f2, .int .i64 f3, .int .i64 f4, .int .i64 f5, .int .i64 f6, .int .i64 f7] 28)
       clear hb3)
    | (
       go_at_call 13; refine (hP _).mono ?_; rintro e w4 ⟨rfl, hb4⟩; clear hP
       have k0 := keep hb4 (b := w.heap.size) (o := 0) (x := .int .i64 ep) (by first | assumption | go_simp)
       have k1 := keep hb4 (b := w.heap.size) (o := 1) (x := .int .i64 k) (by first | assumption | go_simp)
       have k2 := keep hb4 (b := w.heap.size) (o := 2) (x := .int .i64 m) (by first | assumption | go_simp)
       have k3 := keep hb4 (b := w.heap.size) (o := 3) (x := .int .i64 g) (by first | assumption | go_simp)
       have k4 := keep hb4 (b := w.heap.size) (o := 4) (x := .int .i64 d) (by first | assumption | go_simp)
       have k5 := keep hb4 (b := w.heap.size) (o := 5) (x := .slice x n c) (by first | assumption | go_simp)
       have n0 := keep hb4 (b := w1.heap.size) (o := 0) (x := .int .i64 0) (by first | assumption | go_simp)
       have n1 := keep hb4 (b := w1.heap.size) (o := 1) (x := .int .i64 k) (by first | assumption | go_simp)
       have n2 := keep hb4 (b := w1.heap.size) (o := 2) (x := .int .i64 m) (by first | assumption | go_simp)
       have n3 := keep hb4 (b := w1.heap.size) (o := 3) (x := .int .i64 g) (by first | assumption | go_simp)
       have n4 := keep hb4 (b := w1.heap.size) (o := 4) (x := .int .i64 d) (by first | assumption | go_simp)
       have n5 := keep hb4 (b := w1.heap.size) (o := 5) (x := .slice none 0 0) (by first | assumption | go_simp)
       have y0 := keep hb4 (b := w3.heap.size) (o := 0) (x := .int .i64 f0) (by first | assumption | go_simp)
       have y1 := keep hb4 (b := w3.heap.size) (o := 1) (x := .bool f1) (by first | assumption | go_simp)
       have y2 := keep hb4 (b := w3.heap.size) (o := 2) (x := .bool f2) (by first | assumption | go_simp)
       have y3 := keep hb4 (b := w3.heap.size) (o := 3) (x := .int .i64 f3) (by first | assumption | go_simp)
       have y4 := keep hb4 (b := w3.heap.size) (o := 4) (x := .int .i64 f4) (by first | assumption | go_simp)
       have y5 := keep hb4 (b := w3.heap.size) (o := 5) (x := .int .i64 f5) (by first | assumption | go_simp)
       have y6 := keep hb4 (b := w3.heap.size) (o := 6) (x := .int .i64 f6) (by first | assumption | go_simp)
       have y7 := keep hb4 (b := w3.heap.size) (o := 7) (x := .int .i64 f7) (by first | assumption | go_simp)
       have B4 := on (on B3 bx) hb4
       have U4 := on bx hb4
       have V4 := on (on N3 bx) hb4
       clear hb4)
    | (
       go_at_call 12; refine (hE _ _).mono ?_; rintro e w9 ⟨rfl, h9⟩; replace h9 := h9.symm; subst h9)
    | (
       go_at_call 14; refine (hS _).mono ?_; rintro e w5 ⟨rfl, hb5⟩; clear hS
       have k0 := keep hb5 (b := w.heap.size) (o := 0) (x := .int .i64 ep) (by first | assumption | go_simp)
       have k1 := keep hb5 (b := w.heap.size) (o := 1) (x := .int .i64 k) (by first | assumption | go_simp)
       have k2 := keep hb5 (b := w.heap.size) (o := 2) (x := .int .i64 m) (by first | assumption | go_simp)
       have k3 := keep hb5 (b := w.heap.size) (o := 3) (x := .int .i64 g) (by first | assumption | go_simp)
       have k4 := keep hb5 (b := w.heap.size) (o := 4) (x := .int .i64 d) (by first | assumption | go_simp)
       have k5 := keep hb5 (b := w.heap.size) (o := 5) (x := .slice x n c) (by first | assumption | go_simp)
       have B5 := on B4 hb5
       have Y5 := hb5
       have U5 := on U4 hb5
       have V5 := on V4 hb5
       clear B4 U4 V4))
  haveI := After.ne w5
  have j0' := keep V5 j0
  have j1' := keep V5 j1
  have j2' := keep V5 j2
  have j3' := keep V5 j3
  have j4' := keep V5 j4
  have j5' := keep V5 j5
  have j6' := keep V5 j6
  have j7' := keep V5 j7
  have j8' := keep V5 j8
  have o0' := keep U5 o0
  have o1' := keep U5 o1
  have o2' := keep U5 o2
  have o3' := keep U5 o3
  have o4' := keep U5 o4
  have o5' := keep U5 o5
  have o6' := keep U5 o6
  have o7' := keep U5 o7
  replace y0 := keep Y5 y0
  replace y1 := keep Y5 y1
  replace y2 := keep Y5 y2
  replace y3 := keep Y5 y3
  replace y4 := keep Y5 y4
  replace y5 := keep Y5 y5
  replace y6 := keep Y5 y6
  replace y7 := keep Y5 y7
  have ka0 := After.cell k0
  have ka1 := After.cell k1
  have ka2 := After.cell k2
  have ka3 := After.cell k3
  have ka4 := After.cell k4
  have ka5 := After.cell k5
  have ja0 := After.cell j0'
  have ja1 := After.cell j1'
  have ja2 := After.cell j2'
  have ja3 := After.cell j3'
  have ja4 := After.cell j4'
  have ja5 := After.cell j5'
  have ja6 := After.cell j6'
  have ja7 := After.cell j7'
  have ja8 := After.cell j8'
  have oa0 := After.cell o0'
  have oa1 := After.cell o1'
  have oa2 := After.cell o2'
  have oa3 := After.cell o3'
  have oa4 := After.cell o4'
  have oa5 := After.cell o5'
  have oa6 := After.cell o6'
  have oa7 := After.cell o7'
  have ya0 := After.cell y0
  have ya1 := After.cell y1
  have ya2 := After.cell y2
  have ya3 := After.cell y3
  have ya4 := After.cell y4
  have ya5 := After.cell y5
  have ya6 := After.cell y6
  have ya7 := After.cell y7
  have hC' := fun (q : After w5) => hC q.W (HO.out.below (on B5 q.h))
  have hM' := fun (q : After w5) => hM q.W (HO.out.below (on B5 q.h))
  have HB := hid B5
  clear hC hM
  refine wp_region_after (by kernel_rfl) (by kernel_rfl) ?_
  repeat (go_big_quiet_step ((first
    | (go_at_call 15; refine Calls.after_of (hC' _))
    | (go_at_call 16; refine Calls.after_of (hM' _))
    | (go_at_call 12; refine Calls.after_same (hE _ _))
    | (go_at_call 17; refine Calls.after_of (hD _))
    | (go_at_call 18; refine Calls.after_of (hR _))
    | (go_at_call 19; refine Calls.after_of (hA _)))))
  refine wpQuiet_nil ?_
  rintro _ ⟨q, rfl⟩
  go_wp2_with fail
  go_ret
  exact ⟨rfl, on HB.out q.h⟩

theorem walk (V0 : MpV) (V1 : Ch) (id : Int) (w : World) (h0 : MapIn w V0) (_h : (Lit.int .i64 id).wf = true) : Calls Try.prog 3 #[vM V0.m.ep V0.m.pool V0.x V0.n V0.c, vC V1, .int .i64 id] w fun e w' => e = .returned (.bool true) ∧ Below w.heap.size w w' := by
  cases hp : poolB V0.m.pool with
  | true => exact walk_yes V0 V1 id w h0 hp
  | false => exact walk_no V0 V1 id w h0 hp

set_option maxRecDepth 100000 in
theorem lifted (os : Os) (started : os.Started) (H : Type) (enc : TypeId × Value → H) :
    ReturnsInHanded {} Try.checked os 3 .any (Rows.atlasChecksSpec.pre6 enc Try.prog Try.f3 Rows.atlasChecksRow.domain false) (Rows.atlasChecksSpec.post enc Try.prog Try.f3 false true false false) := by
  refine returnsInHanded_of_change_sized (C := Try.checked) own started (by kernel_rfl) Try.func3
    (ChangeSpec.witness6 (enc := enc) (C := Try.checked) false ⟨#[], #[.agg #[.int .i64 0, .int .i64 0, .int .i64 0, .int .i64 0, .int .i64 0, .slice none 0 0], .agg #[.int .i64 0, .int .i64 0, .bool false, .bool false, .int .i64 0, .int .i64 0, .int .i64 0, .int .i64 0, .int .i64 0], .int .i64 0], []⟩ 8 (by kernel_rfl) (by kernel_rfl) (by kernel_rfl) (by kernel_rfl)) ?_
  intro W base args ds gs before hval0 hW hcnd hsz0 _
  have hsz : (DataW.weightsEach Try.prog (Try.f3.params.toList ++ Rows.atlasChecksSpec.plain.varTypes Try.prog) (ds ++ gs)).all (· ≤ reachBytes) = true := hsz0
  have hval : ∀ (j : Nat) t v, Try.f3.params[j]? = some t → args[j]? = some v → Value.okWide Try.prog W .any base t v := hval0
  have hW' := hW
  obtain ⟨p, q, hA0, hV, rfl, hfz, hnd⟩ := hW
  have hA : DataW.TrodAll enc Try.prog W 0 (fun _ => true) true Try.f3.params.toList args.toList ds p := hA0
  rw [Try.params3] at hA hval hsz
  obtain ⟨v0, vs0, d0, ds0, p0, q0, hargs, rfl, rfl, h0, r0⟩ := trodAll_cons hA
  obtain ⟨v1, vs1, d1, ds1, p1, q1, rfl, rfl, rfl, h1, r1⟩ := trodAll_cons r0
  obtain ⟨v2, vs2, d2, ds2, p2, q2, rfl, rfl, rfl, h2, r2⟩ := trodAll_cons r1
  obtain ⟨rfl, rfl, rfl⟩ := trodAll_nil r2
  obtain rfl : args = #[v0, v1, v2] := by cases args; simp_all
  obtain ⟨rfl, rfl⟩ := trodVars_none hV
  have k0 := h0
  have lt0 : ∀ x ∈ p0, x.block < W.heap.size := by obtain ⟨m, hm⟩ := k0; exact DataW.trod_lt m _ _ _ hm
  have s0 : ∀ x ∈ d0.weights Try.prog 26, x ≤ reachBytes := fun x hx => by
    have := List.all_eq_true.1 hsz x (DataW.weights_mem_each (j := 0) rfl rfl x hx)
    simpa using this
  obtain ⟨V0, rfl, w0⟩ := At.map_in (okWide_struct Try.underlying26 (hval 0 26 v0 rfl rfl)) h0 s0
  have k1 := h1
  have lt1 : ∀ x ∈ p1, x.block < W.heap.size := by obtain ⟨m, hm⟩ := k1; exact DataW.trod_lt m _ _ _ hm
  have s1 : ∀ x ∈ d1.weights Try.prog 30, x ≤ reachBytes := fun x hx => by
    have := List.all_eq_true.1 hsz x (DataW.weights_mem_each (j := 1) rfl rfl x hx)
    simpa using this
  obtain ⟨V1, rfl⟩ := At.ch_in (okWide_struct Try.underlying30 (hval 1 30 v1 rfl rfl)) h1
  obtain ⟨a2, rfl, rfl, rfl, w2⟩ := open_int Try.underlying3 (hval 2 3 v2 rfl rfl) h2
  clear hA0 hval0
  refine (walk V0 V1 a2 W w0 w2).mono fun e W' ⟨he, bel⟩ => ?_
  subst he
  exact ⟨_, rfl, _, _, _, [], _, [], hW', trodAll_mk1 (shut_bool Try.underlying4 _), (trodAll_cons_mk (Below.trod laidOut (by kernel_rfl) (of_decide_eq_true (by kernel_rfl)) k0 bel lt0) (trodAll_cons_mk (Below.trod laidOut (by kernel_rfl) (of_decide_eq_true (by kernel_rfl)) k1 bel lt1) (trodAll_cons_mk (shut_int Try.underlying3 w2) trodAll_mk0))), rfl, bel.frame _, fun h => by cases h⟩

theorem over : Rows.atlasChecksRow.holds Try.pinned (OpenSpec.ofChange Rows.atlasChecksSpec) :=
  OpenClaim.holds_of_wide 3 Try.f3 rfl rfl rfl rfl rfl rfl rfl ⟨rfl, rfl, rfl, rfl, rfl⟩ rfl rfl rfl rfl rfl (by kernel_rfl) Try.func3 (by kernel_rfl)
    (of_decide_eq_true (by kernel_rfl)) (by unfold Func.isWrapper; first | (rw [if_pos (by decide +kernel)]; kernel_rfl) | (rw [if_neg (by decide +kernel)]; exact ⟨rfl, rfl⟩))
    (fun os started H enc _ => lifted os started H enc)

theorem proved : Rows.AtlasChecksSaid := over
#print axioms proved
end Go.Proofs.Ytnddhlkdemibgaa.atlasChecks
