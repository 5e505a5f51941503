/-
  What comes of any map by any change: 'mooringlaw13.AtlasApplies' returns true and leaves its arguments as they were.
  Conditions: none.
-/
import Derived.Test.YtnddhlkdemibgaaRows
import Derived.WalkKit
import Derived.ProofKit
import Derived.OpenShut
import Derived.SizedLaws
import Derived.ShutString
import Derived.ChangeOld
import Derived.Below
import Derived.Test.YtnddhlkdemibgaaJ01
import Derived.Test.YtnddhlkdemibgaaJ03
import Derived.Test.YtnddhlkdemibgaaJ06
import Derived.Test.YtnddhlkdemibgaaJ11
import Derived.Test.YtnddhlkdemibgaaJ12
namespace Go.Proofs.Ytnddhlkdemibgaa.atlasApplies
open Go.ChangeShapes Go.WideShapes Go.ChangeAt Go.RowKit By
open Fl At
set_option linter.unusedVariables false
set_option linter.unusedSimpArgs false
set_option maxRecDepth 100000

theorem own : ownKnob Try.prog.godebug = none := by kernel_rfl
theorem laidOut : laidOutB Try.prog = true := by kernel_rfl

set_option maxHeartbeats 12800000 in
theorem walk_err (V0 : MpV) (V1 : Ch) (w : World) (h0 : MapIn w V0) (hz : (applyP V0.m V1).1 ≠ 0) : Calls Try.prog 4 #[vM V0.m.ep V0.m.pool V0.x V0.n V0.c, vC V1] w fun e w' => e = .returned (.bool true) ∧ Below w.heap.size w w' := by
  obtain ⟨⟨ep, p, L⟩, x, n, c⟩ := V0
  have hO := h0.os
  have hk := h0.k
  have hfit := h0.fit
  dsimp only at hO hk hfit hz ⊢
  have HO := hid hO
  have hA := fun W (x' : Option Addr) (c' : Nat) (hW : At.Os W x' n c' L) => apply_any ⟨ep, p, L⟩ V1 hW hk
  have hB := fun W (hW : At.Os W x n c L) => rapply_any ⟨ep, p, L⟩ V1 hW
  have hMay : (applyP ⟨ep, p, L⟩ V1).1 = 0 → mayM (applyP ⟨ep, p, L⟩ V1).2 = true ∧ (applyP ⟨ep, p, L⟩ V1).2.ep = ep + 1 ∧ 0 ≤ ep ∧ ep ≤ 1048576 := fun e => by
    by_cases hm : mayM ⟨ep, p, L⟩ = true
    · by_cases ha : (advP ⟨ep, p, L⟩ V1).1 = 0
      · rw [apply_ok hm ha]
        have := adv_may hm ha
        exact ⟨this.1, this.2, (may_parts hm).1⟩
      · rw [apply_err hm ha] at e
        exact absurd e ha
    · have hm' : mayM ⟨ep, p, L⟩ = false := by
        cases hq : mayM ⟨ep, p, L⟩ with
        | true => exact absurd hq hm
        | false => rfl
      rw [apply_no hm'] at e
      cases e
  have HMy := hid hMay
  obtain ⟨⟨r1, r2⟩, hr⟩ : ∃ r, r = applyP ⟨ep, p, L⟩ V1 := ⟨_, rfl⟩
  rw [← hr] at hA hB HMy hz
  have hS1 := fun W (y z : Option Addr) (yn yc zn zc : Nat) (h1 : At.Os W y yn yc r2.osds) (h2 : At.Os W z zn zc r2.osds) => rsame_any r2 r2 h1 h2
  have hS2 := fun W (x' : Option Addr) (c' : Nat) (h1 : At.Os W x' n c' L) (h2 : At.Os W x n c L) => rsame_any ⟨ep, p, L⟩ ⟨ep, p, L⟩ h1 h2
  have hS3 := fun W (y z : Option Addr) (yn yc zn zc : Nat) (h1 : At.Os W y yn yc r2.osds) (h2 : At.Os W z zn zc r2.osds) => same_any r2 r2 h1 h2
  rw [(eqM_iff _ _).2 rfl] at hS1
  rw [(eqM_iff _ _).2 rfl] at hS2
  rw [(eqM_iff _ _).2 rfl] at hS3
  have hW := fun W => awake_any W
  have hz' : (r1 != 0) = true := by simpa using hz
  clear hMay HMy hr h0 hk hO
  obtain ⟨k, m, g, d⟩ := p
  obtain ⟨ck, c0, c1, c2, c3, c4, c5, c6, c7⟩ := V1
  unfold vM vC at *
  dsimp only at hA hB hS1 hS2 hS3 ⊢
  have b0 : Below w.heap.size w (((w.alloc (.cells #[.int .i64 ep, .int .i64 k, .int .i64 m, .int .i64 g, .int .i64 d, .slice x n c] 26)).alloc (.cells #[.int .i64 ck, .int .i64 c0, .bool c1, .bool c2, .int .i64 c3, .int .i64 c4, .int .i64 c5, .int .i64 c6, .int .i64 c7] 30)).alloc (.cells #[.int .i64 ep, .int .i64 k, .int .i64 m, .int .i64 g, .int .i64 d, .slice x n c] 26)) := on (on (al _ _) (al _ _)) (al _ _)
  obtain ⟨x', c', wC, hcp, HC⟩ := copy_big (HO.out.below b0) hfit
  rw [show (((w.alloc (.cells #[.int .i64 ep, .int .i64 k, .int .i64 m, .int .i64 g, .int .i64 d, .slice x n c] 26)).alloc (.cells #[.int .i64 ck, .int .i64 c0, .bool c1, .bool c2, .int .i64 c3, .int .i64 c4, .int .i64 c5, .int .i64 c6, .int .i64 c7] 30)).alloc (.cells #[.int .i64 ep, .int .i64 k, .int .i64 m, .int .i64 g, .int .i64 d, .slice x n c] 26)).heap.size = w.heap.size + 1 + 1 + 1 by simp] at hcp
  have bC := HC.out.2.1
  have HOC := hid HC.out.1
  have k0 := keep bC (b := w.heap.size) (o := 0) (x := .int .i64 ep) (by first | assumption | go_simp)
  have k1 := keep bC (b := w.heap.size) (o := 1) (x := .int .i64 k) (by first | assumption | go_simp)
  have k2 := keep bC (b := w.heap.size) (o := 2) (x := .int .i64 m) (by first | assumption | go_simp)
  have k3 := keep bC (b := w.heap.size) (o := 3) (x := .int .i64 g) (by first | assumption | go_simp)
  have k4 := keep bC (b := w.heap.size) (o := 4) (x := .int .i64 d) (by first | assumption | go_simp)
  have k5 := keep bC (b := w.heap.size) (o := 5) (x := .slice x n c) (by first | assumption | go_simp)
  have j0 := keep bC (b := w.heap.size + 1) (o := 0) (x := .int .i64 ck) (by first | assumption | go_simp)
  have j1 := keep bC (b := w.heap.size + 1) (o := 1) (x := .int .i64 c0) (by first | assumption | go_simp)
  have j2 := keep bC (b := w.heap.size + 1) (o := 2) (x := .bool c1) (by first | assumption | go_simp)
  have j3 := keep bC (b := w.heap.size + 1) (o := 3) (x := .bool c2) (by first | assumption | go_simp)
  have j4 := keep bC (b := w.heap.size + 1) (o := 4) (x := .int .i64 c3) (by first | assumption | go_simp)
  have j5 := keep bC (b := w.heap.size + 1) (o := 5) (x := .int .i64 c4) (by first | assumption | go_simp)
  have j6 := keep bC (b := w.heap.size + 1) (o := 6) (x := .int .i64 c5) (by first | assumption | go_simp)
  have j7 := keep bC (b := w.heap.size + 1) (o := 7) (x := .int .i64 c6) (by first | assumption | go_simp)
  have j8 := keep bC (b := w.heap.size + 1) (o := 8) (x := .int .i64 c7) (by first | assumption | go_simp)
  have o0 := keep bC (b := w.heap.size + 1 + 1) (o := 0) (x := .int .i64 ep) (by first | assumption | go_simp)
  have o1 := keep bC (b := w.heap.size + 1 + 1) (o := 1) (x := .int .i64 k) (by first | assumption | go_simp)
  have o2 := keep bC (b := w.heap.size + 1 + 1) (o := 2) (x := .int .i64 m) (by first | assumption | go_simp)
  have o3 := keep bC (b := w.heap.size + 1 + 1) (o := 3) (x := .int .i64 g) (by first | assumption | go_simp)
  have o4 := keep bC (b := w.heap.size + 1 + 1) (o := 4) (x := .int .i64 d) (by first | assumption | go_simp)
  have o5 := keep bC (b := w.heap.size + 1 + 1) (o := 5) (x := .slice x n c) (by first | assumption | go_simp)
  have f0 := keepf bC (b := w.heap.size + 1 + 1) (o := 0) (by first | (simp <;> omega) | exact cell_lt' (a := ⟨w.heap.size + 1 + 1, 0, none⟩) (by assumption) | (simp; exact cell_lt' (a := ⟨w.heap.size + 1 + 1, 0, none⟩) (by assumption))) (by first | assumption | go_simp)
  have f1 := keepf bC (b := w.heap.size + 1 + 1) (o := 1) (by first | (simp <;> omega) | exact cell_lt' (a := ⟨w.heap.size + 1 + 1, 1, none⟩) (by assumption) | (simp; exact cell_lt' (a := ⟨w.heap.size + 1 + 1, 1, none⟩) (by assumption))) (by first | assumption | go_simp)
  have f2 := keepf bC (b := w.heap.size + 1 + 1) (o := 2) (by first | (simp <;> omega) | exact cell_lt' (a := ⟨w.heap.size + 1 + 1, 2, none⟩) (by assumption) | (simp; exact cell_lt' (a := ⟨w.heap.size + 1 + 1, 2, none⟩) (by assumption))) (by first | assumption | go_simp)
  have f3 := keepf bC (b := w.heap.size + 1 + 1) (o := 3) (by first | (simp <;> omega) | exact cell_lt' (a := ⟨w.heap.size + 1 + 1, 3, none⟩) (by assumption) | (simp; exact cell_lt' (a := ⟨w.heap.size + 1 + 1, 3, none⟩) (by assumption))) (by first | assumption | go_simp)
  have f4 := keepf bC (b := w.heap.size + 1 + 1) (o := 4) (by first | (simp <;> omega) | exact cell_lt' (a := ⟨w.heap.size + 1 + 1, 4, none⟩) (by assumption) | (simp; exact cell_lt' (a := ⟨w.heap.size + 1 + 1, 4, none⟩) (by assumption))) (by first | assumption | go_simp)
  have f5 := keepf bC (b := w.heap.size + 1 + 1) (o := 5) (by first | (simp <;> omega) | exact cell_lt' (a := ⟨w.heap.size + 1 + 1, 5, none⟩) (by assumption) | (simp; exact cell_lt' (a := ⟨w.heap.size + 1 + 1, 5, none⟩) (by assumption))) (by first | assumption | go_simp)
  have BC := on b0 bC
  have lc1 : w.heap.size < wC.heap.size := cell_lt' k0
  have lc2 : w.heap.size + 1 < wC.heap.size := cell_lt' j0
  have lc3 : w.heap.size + 1 + 1 < wC.heap.size := cell_lt' o0
  obtain ⟨wO, hwO⟩ : ∃ wO, wO = wC.setCell ⟨w.heap.size + 1 + 1, 5, none⟩ (.slice x' n c') := ⟨_, rfl⟩
  have TO : Turns (fun k => k = w.heap.size + 1 + 1) wC wO := by rw [hwO]; exact turns_put (Turns.refl _ _) _ _
  have BO : Below w.heap.size w wO := by rw [hwO]; exact BC.setCell (p := ⟨w.heap.size + 1 + 1, 5, none⟩) (show w.heap.size ≤ w.heap.size + 1 + 1 by omega) _
  have HWO := hid hwO.symm
  have OsO : At.Os wO x' n c' L := HOC.out.turns TO (fun h0 a ha e => by have := HC.out.2.2 a ha; have e2 : a.block = w.heap.size + 1 + 1 := e; simp at this; omega)
  have hA0 := hA wO x' c' OsO
  clear b0 hwO bC BC
  have kk0 : ∀ (b q : Nat) (v : Value), b ≠ w.heap.size + 1 + 1 → wC.cell? ⟨b, q, none⟩ = some v → wO.cell? ⟨b, q, none⟩ = some v := fun b q v hb hv => (World.cell?_of_block (a := ⟨b, q, none⟩) (TO.block b (cell_lt' hv) hb)).trans hv
  have k0' := kk0 _ _ _ (by omega) k0
  have k1' := kk0 _ _ _ (by omega) k1
  have k2' := kk0 _ _ _ (by omega) k2
  have k3' := kk0 _ _ _ (by omega) k3
  have k4' := kk0 _ _ _ (by omega) k4
  have k5' := kk0 _ _ _ (by omega) k5
  have j0' := kk0 _ _ _ (by omega) j0
  have j1' := kk0 _ _ _ (by omega) j1
  have j2' := kk0 _ _ _ (by omega) j2
  have j3' := kk0 _ _ _ (by omega) j3
  have j4' := kk0 _ _ _ (by omega) j4
  have j5' := kk0 _ _ _ (by omega) j5
  have j6' := kk0 _ _ _ (by omega) j6
  have j7' := kk0 _ _ _ (by omega) j7
  have j8' := kk0 _ _ _ (by omega) j8
  have HO0 : Hid (wO.cell? ⟨w.heap.size + 1 + 1, 0, none⟩ = some (.int .i64 ep) ∧ wO.cell? ⟨w.heap.size + 1 + 1, 1, none⟩ = some (.int .i64 k) ∧ wO.cell? ⟨w.heap.size + 1 + 1, 2, none⟩ = some (.int .i64 m) ∧ wO.cell? ⟨w.heap.size + 1 + 1, 3, none⟩ = some (.int .i64 g) ∧ wO.cell? ⟨w.heap.size + 1 + 1, 4, none⟩ = some (.int .i64 d) ∧ wO.cell? ⟨w.heap.size + 1 + 1, 5, none⟩ = some (.slice x' n c')) := by
    rw [← HWO.out]
    refine ⟨?_, ?_, ?_, ?_, ?_, ?_⟩ <;> go_simp
  go_enter Try.func4, Try.ntmps4
  go_wp2_with (first
    | (at_builtin; refine Lib.wpList_append_run _ rfl _ _ _ _ rfl _ _ rfl rfl _ _ hcp ?_)
    | (
       go_at_call 20; rw [HWO.out]; refine hA0.mono ?_; rintro e w1 ⟨y, yn, yc, rfl, H1⟩; clear hA0 hA
       have hb1 := H1.out.1
       have k0 := keep hb1 k0'
       have k1 := keep hb1 k1'
       have k2 := keep hb1 k2'
       have k3 := keep hb1 k3'
       have k4 := keep hb1 k4'
       have k5 := keep hb1 k5'
       have j0 := keep hb1 j0'
       have j1 := keep hb1 j1'
       have j2 := keep hb1 j2'
       have j3 := keep hb1 j3'
       have j4 := keep hb1 j4'
       have j5 := keep hb1 j5'
       have j6 := keep hb1 j6'
       have j7 := keep hb1 j7'
       have j8 := keep hb1 j8'
       obtain ⟨p0, p1, p2, p3, p4, p5⟩ := HO0.out
       have o0 := keep hb1 p0
       have o1 := keep hb1 p1
       have o2 := keep hb1 p2
       have o3 := keep hb1 p3
       have o4 := keep hb1 p4
       have o5 := keep hb1 p5
       have B1 := on BO hb1
       have ba := al w1 (.cells #[.int .i64 r2.ep, .int .i64 r2.pool.k, .int .i64 r2.pool.m, .int .i64 r2.pool.pgs, .int .i64 r2.pool.dom, .slice y yn yc] 26)
       have OA := H1.out.2.below ba
       have OW := OsO.below (on hb1 ba)
       have l1 : w.heap.size < w1.heap.size := cell_lt' k0
       have l2 : w.heap.size + 1 < w1.heap.size := cell_lt' j0
       have l3 : w.heap.size + 1 + 1 < w1.heap.size := cell_lt' o0
       have hB1 := hB _ (HO.out.below (on B1 ba))
       clear hb1 hB)
    | (
       go_at_call 21; refine hB1.mono ?_; rintro e w2 ⟨z, zn, zc, rfl, H2⟩; clear hB1
       have hb2 := H2.out.1
       have k0 := keep hb2 (b := w.heap.size) (o := 0) (x := .int .i64 ep) (by first | assumption | go_simp)
       have k1 := keep hb2 (b := w.heap.size) (o := 1) (x := .int .i64 k) (by first | assumption | go_simp)
       have k2 := keep hb2 (b := w.heap.size) (o := 2) (x := .int .i64 m) (by first | assumption | go_simp)
       have k3 := keep hb2 (b := w.heap.size) (o := 3) (x := .int .i64 g) (by first | assumption | go_simp)
       have k4 := keep hb2 (b := w.heap.size) (o := 4) (x := .int .i64 d) (by first | assumption | go_simp)
       have k5 := keep hb2 (b := w.heap.size) (o := 5) (x := .slice x n c) (by first | assumption | go_simp)
       have o0 := keep hb2 (b := w.heap.size + 1 + 1) (o := 0) (x := .int .i64 ep) (by first | assumption | go_simp)
       have o1 := keep hb2 (b := w.heap.size + 1 + 1) (o := 1) (x := .int .i64 k) (by first | assumption | go_simp)
       have o2 := keep hb2 (b := w.heap.size + 1 + 1) (o := 2) (x := .int .i64 m) (by first | assumption | go_simp)
       have o3 := keep hb2 (b := w.heap.size + 1 + 1) (o := 3) (x := .int .i64 g) (by first | assumption | go_simp)
       have o4 := keep hb2 (b := w.heap.size + 1 + 1) (o := 4) (x := .int .i64 d) (by first | assumption | go_simp)
       have o5 := keep hb2 (b := w.heap.size + 1 + 1) (o := 5) (x := .slice x' n c') (by first | assumption | go_simp)
       have a0 := keep hb2 (b := w1.heap.size) (o := 0) (x := .int .i64 r2.ep) (by first | assumption | go_simp)
       have a1 := keep hb2 (b := w1.heap.size) (o := 1) (x := .int .i64 r2.pool.k) (by first | assumption | go_simp)
       have a2 := keep hb2 (b := w1.heap.size) (o := 2) (x := .int .i64 r2.pool.m) (by first | assumption | go_simp)
       have a3 := keep hb2 (b := w1.heap.size) (o := 3) (x := .int .i64 r2.pool.pgs) (by first | assumption | go_simp)
       have a4 := keep hb2 (b := w1.heap.size) (o := 4) (x := .int .i64 r2.pool.dom) (by first | assumption | go_simp)
       have a5 := keep hb2 (b := w1.heap.size) (o := 5) (x := .slice y yn yc) (by first | assumption | go_simp)
       have B2 := on (on B1 ba) hb2
       have bb := al w2 (.cells #[.int .i64 r2.ep, .int .i64 r2.pool.k, .int .i64 r2.pool.m, .int .i64 r2.pool.pgs, .int .i64 r2.pool.dom, .slice z zn zc] 26)
       have OA2 := OA.below (on hb2 bb)
       have OB2 := H2.out.2.below bb
       have OW2 := OW.below (on hb2 bb)
       have l4 : w.heap.size < w2.heap.size := cell_lt' k0
       have l5 : w1.heap.size < w2.heap.size := cell_lt' a0
       have l6 : w.heap.size + 1 + 1 < w2.heap.size := cell_lt' o0
       have hS1' := hS1 _ y z yn yc zn zc OA2 OB2
       clear hb2 hS1)
    | (
       go_at_call 14; refine hS1'.mono ?_; rintro e w3 ⟨rfl, hb3⟩; clear hS1'
       have k0 := keep hb3 (b := w.heap.size) (o := 0) (x := .int .i64 ep) (by first | assumption | go_simp)
       have k1 := keep hb3 (b := w.heap.size) (o := 1) (x := .int .i64 k) (by first | assumption | go_simp)
       have k2 := keep hb3 (b := w.heap.size) (o := 2) (x := .int .i64 m) (by first | assumption | go_simp)
       have k3 := keep hb3 (b := w.heap.size) (o := 3) (x := .int .i64 g) (by first | assumption | go_simp)
       have k4 := keep hb3 (b := w.heap.size) (o := 4) (x := .int .i64 d) (by first | assumption | go_simp)
       have k5 := keep hb3 (b := w.heap.size) (o := 5) (x := .slice x n c) (by first | assumption | go_simp)
       have o0 := keep hb3 (b := w.heap.size + 1 + 1) (o := 0) (x := .int .i64 ep) (by first | assumption | go_simp)
       have o1 := keep hb3 (b := w.heap.size + 1 + 1) (o := 1) (x := .int .i64 k) (by first | assumption | go_simp)
       have o2 := keep hb3 (b := w.heap.size + 1 + 1) (o := 2) (x := .int .i64 m) (by first | assumption | go_simp)
       have o3 := keep hb3 (b := w.heap.size + 1 + 1) (o := 3) (x := .int .i64 g) (by first | assumption | go_simp)
       have o4 := keep hb3 (b := w.heap.size + 1 + 1) (o := 4) (x := .int .i64 d) (by first | assumption | go_simp)
       have o5 := keep hb3 (b := w.heap.size + 1 + 1) (o := 5) (x := .slice x' n c') (by first | assumption | go_simp)
       have a0 := keep hb3 (b := w1.heap.size) (o := 0) (x := .int .i64 r2.ep) (by first | assumption | go_simp)
       have a1 := keep hb3 (b := w1.heap.size) (o := 1) (x := .int .i64 r2.pool.k) (by first | assumption | go_simp)
       have a2 := keep hb3 (b := w1.heap.size) (o := 2) (x := .int .i64 r2.pool.m) (by first | assumption | go_simp)
       have a3 := keep hb3 (b := w1.heap.size) (o := 3) (x := .int .i64 r2.pool.pgs) (by first | assumption | go_simp)
       have a4 := keep hb3 (b := w1.heap.size) (o := 4) (x := .int .i64 r2.pool.dom) (by first | assumption | go_simp)
       have a5 := keep hb3 (b := w1.heap.size) (o := 5) (x := .slice y yn yc) (by first | assumption | go_simp)
       have b0 := keep hb3 (b := w2.heap.size) (o := 0) (x := .int .i64 r2.ep) (by first | assumption | go_simp)
       have b1 := keep hb3 (b := w2.heap.size) (o := 1) (x := .int .i64 r2.pool.k) (by first | assumption | go_simp)
       have b2 := keep hb3 (b := w2.heap.size) (o := 2) (x := .int .i64 r2.pool.m) (by first | assumption | go_simp)
       have b3 := keep hb3 (b := w2.heap.size) (o := 3) (x := .int .i64 r2.pool.pgs) (by first | assumption | go_simp)
       have b4 := keep hb3 (b := w2.heap.size) (o := 4) (x := .int .i64 r2.pool.dom) (by first | assumption | go_simp)
       have b5 := keep hb3 (b := w2.heap.size) (o := 5) (x := .slice z zn zc) (by first | assumption | go_simp)
       have B3 := on (on B2 bb) hb3
       have hS2' := hS2 _ x' c' (OW2.below hb3) (HO.out.below B3)
       have OA3 := OA2.below hb3
       have OB3 := OB2.below hb3
       clear hb3 hS2)
    | (
       go_at_call 14; refine hS2'.mono ?_; rintro e w4 ⟨rfl, hb4⟩; clear hS2'
       have k0 := keep hb4 (b := w.heap.size) (o := 0) (x := .int .i64 ep) (by first | assumption | go_simp)
       have k1 := keep hb4 (b := w.heap.size) (o := 1) (x := .int .i64 k) (by first | assumption | go_simp)
       have k2 := keep hb4 (b := w.heap.size) (o := 2) (x := .int .i64 m) (by first | assumption | go_simp)
       have k3 := keep hb4 (b := w.heap.size) (o := 3) (x := .int .i64 g) (by first | assumption | go_simp)
       have k4 := keep hb4 (b := w.heap.size) (o := 4) (x := .int .i64 d) (by first | assumption | go_simp)
       have k5 := keep hb4 (b := w.heap.size) (o := 5) (x := .slice x n c) (by first | assumption | go_simp)
       have a0 := keep hb4 (b := w1.heap.size) (o := 0) (x := .int .i64 r2.ep) (by first | assumption | go_simp)
       have a1 := keep hb4 (b := w1.heap.size) (o := 1) (x := .int .i64 r2.pool.k) (by first | assumption | go_simp)
       have a2 := keep hb4 (b := w1.heap.size) (o := 2) (x := .int .i64 r2.pool.m) (by first | assumption | go_simp)
       have a3 := keep hb4 (b := w1.heap.size) (o := 3) (x := .int .i64 r2.pool.pgs) (by first | assumption | go_simp)
       have a4 := keep hb4 (b := w1.heap.size) (o := 4) (x := .int .i64 r2.pool.dom) (by first | assumption | go_simp)
       have a5 := keep hb4 (b := w1.heap.size) (o := 5) (x := .slice y yn yc) (by first | assumption | go_simp)
       have b0 := keep hb4 (b := w2.heap.size) (o := 0) (x := .int .i64 r2.ep) (by first | assumption | go_simp)
       have b1 := keep hb4 (b := w2.heap.size) (o := 1) (x := .int .i64 r2.pool.k) (by first | assumption | go_simp)
       have b2 := keep hb4 (b := w2.heap.size) (o := 2) (x := .int .i64 r2.pool.m) (by first | assumption | go_simp)
       have b3 := keep hb4 (b := w2.heap.size) (o := 3) (x := .int .i64 r2.pool.pgs) (by first | assumption | go_simp)
       have b4 := keep hb4 (b := w2.heap.size) (o := 4) (x := .int .i64 r2.pool.dom) (by first | assumption | go_simp)
       have b5 := keep hb4 (b := w2.heap.size) (o := 5) (x := .slice z zn zc) (by first | assumption | go_simp)
       have B4 := on B3 hb4
       have OA4 := OA3.below hb4
       have hS3' := hS3 _ y z yn yc zn zc OA4 (OB3.below hb4)
       clear hb4 hS3)
    | (
       go_at_call 22; refine hS3'.mono ?_; rintro e w5 ⟨rfl, hb5⟩; clear hS3'
       have k0 := keep hb5 (b := w.heap.size) (o := 0) (x := .int .i64 ep) (by first | assumption | go_simp)
       have k1 := keep hb5 (b := w.heap.size) (o := 1) (x := .int .i64 k) (by first | assumption | go_simp)
       have k2 := keep hb5 (b := w.heap.size) (o := 2) (x := .int .i64 m) (by first | assumption | go_simp)
       have k3 := keep hb5 (b := w.heap.size) (o := 3) (x := .int .i64 g) (by first | assumption | go_simp)
       have k4 := keep hb5 (b := w.heap.size) (o := 4) (x := .int .i64 d) (by first | assumption | go_simp)
       have k5 := keep hb5 (b := w.heap.size) (o := 5) (x := .slice x n c) (by first | assumption | go_simp)
       have a0 := keep hb5 (b := w1.heap.size) (o := 0) (x := .int .i64 r2.ep) (by first | assumption | go_simp)
       have a1 := keep hb5 (b := w1.heap.size) (o := 1) (x := .int .i64 r2.pool.k) (by first | assumption | go_simp)
       have a2 := keep hb5 (b := w1.heap.size) (o := 2) (x := .int .i64 r2.pool.m) (by first | assumption | go_simp)
       have a3 := keep hb5 (b := w1.heap.size) (o := 3) (x := .int .i64 r2.pool.pgs) (by first | assumption | go_simp)
       have a4 := keep hb5 (b := w1.heap.size) (o := 4) (x := .int .i64 r2.pool.dom) (by first | assumption | go_simp)
       have a5 := keep hb5 (b := w1.heap.size) (o := 5) (x := .slice y yn yc) (by first | assumption | go_simp)
       have B5 := on B4 hb5
       have OA5 := OA4.below hb5
       clear hb5)
    | (
       go_at_call 19; refine (hW _).mono ?_; rintro e w7 ⟨rfl, hb7⟩; clear hW))
  go_ret
  exact ⟨rfl, on B5 hb7⟩

set_option maxHeartbeats 12800000 in
theorem walk_ok (V0 : MpV) (V1 : Ch) (w : World) (h0 : MapIn w V0) (hz : (applyP V0.m V1).1 = 0) : Calls Try.prog 4 #[vM V0.m.ep V0.m.pool V0.x V0.n V0.c, vC V1] w fun e w' => e = .returned (.bool true) ∧ Below w.heap.size w w' := by
  obtain ⟨⟨ep, p, L⟩, x, n, c⟩ := V0
  have hO := h0.os
  have hk := h0.k
  have hfit := h0.fit
  dsimp only at hO hk hfit hz ⊢
  have HO := hid hO
  have hA := fun W (x' : Option Addr) (c' : Nat) (hW : At.Os W x' n c' L) => apply_any ⟨ep, p, L⟩ V1 hW hk
  have hB := fun W (hW : At.Os W x n c L) => rapply_any ⟨ep, p, L⟩ V1 hW
  have hMay : (applyP ⟨ep, p, L⟩ V1).1 = 0 → mayM (applyP ⟨ep, p, L⟩ V1).2 = true ∧ (applyP ⟨ep, p, L⟩ V1).2.ep = ep + 1 ∧ 0 ≤ ep ∧ ep ≤ 1048576 := fun e => by
    by_cases hm : mayM ⟨ep, p, L⟩ = true
    · by_cases ha : (advP ⟨ep, p, L⟩ V1).1 = 0
      · rw [apply_ok hm ha]
        have := adv_may hm ha
        exact ⟨this.1, this.2, (may_parts hm).1⟩
      · rw [apply_err hm ha] at e
        exact absurd e ha
    · have hm' : mayM ⟨ep, p, L⟩ = false := by
        cases hq : mayM ⟨ep, p, L⟩ with
        | true => exact absurd hq hm
        | false => rfl
      rw [apply_no hm'] at e
      cases e
  have HMy := hid hMay
  obtain ⟨⟨r1, r2⟩, hr⟩ : ∃ r, r = applyP ⟨ep, p, L⟩ V1 := ⟨_, rfl⟩
  rw [← hr] at hA hB HMy hz
  have hS1 := fun W (y z : Option Addr) (yn yc zn zc : Nat) (h1 : At.Os W y yn yc r2.osds) (h2 : At.Os W z zn zc r2.osds) => rsame_any r2 r2 h1 h2
  have hS2 := fun W (x' : Option Addr) (c' : Nat) (h1 : At.Os W x' n c' L) (h2 : At.Os W x n c L) => rsame_any ⟨ep, p, L⟩ ⟨ep, p, L⟩ h1 h2
  have hS3 := fun W (y z : Option Addr) (yn yc zn zc : Nat) (h1 : At.Os W y yn yc r2.osds) (h2 : At.Os W z zn zc r2.osds) => same_any r2 r2 h1 h2
  rw [(eqM_iff _ _).2 rfl] at hS1
  rw [(eqM_iff _ _).2 rfl] at hS2
  rw [(eqM_iff _ _).2 rfl] at hS3
  have hW := fun W => awake_any W
  dsimp only at hz
  subst hz
  obtain ⟨hm1, hm2, hm3, hm4⟩ := HMy.out rfl
  dsimp only at hm1 hm2
  have hMy := fun W (y : Option Addr) (yn yc : Nat) (h1 : At.Os W y yn yc r2.osds) => rmay_any r2 h1
  rw [hm1] at hMy
  have hwr : IntKind.i64.wrap (ep + 1) = ep + 1 := by rw [IntKind.wrap_i64]; omega
  have HEp := hid hm2
  clear hm1 hm2 hm3 hm4
  clear hMay HMy hr h0 hk hO
  obtain ⟨k, m, g, d⟩ := p
  obtain ⟨ck, c0, c1, c2, c3, c4, c5, c6, c7⟩ := V1
  unfold vM vC at *
  dsimp only at hA hB hS1 hS2 hS3 ⊢
  have b0 : Below w.heap.size w (((w.alloc (.cells #[.int .i64 ep, .int .i64 k, .int .i64 m, .int .i64 g, .int .i64 d, .slice x n c] 26)).alloc (.cells #[.int .i64 ck, .int .i64 c0, .bool c1, .bool c2, .int .i64 c3, .int .i64 c4, .int .i64 c5, .int .i64 c6, .int .i64 c7] 30)).alloc (.cells #[.int .i64 ep, .int .i64 k, .int .i64 m, .int .i64 g, .int .i64 d, .slice x n c] 26)) := on (on (al _ _) (al _ _)) (al _ _)
  obtain ⟨x', c', wC, hcp, HC⟩ := copy_big (HO.out.below b0) hfit
  rw [show (((w.alloc (.cells #[.int .i64 ep, .int .i64 k, .int .i64 m, .int .i64 g, .int .i64 d, .slice x n c] 26)).alloc (.cells #[.int .i64 ck, .int .i64 c0, .bool c1, .bool c2, .int .i64 c3, .int .i64 c4, .int .i64 c5, .int .i64 c6, .int .i64 c7] 30)).alloc (.cells #[.int .i64 ep, .int .i64 k, .int .i64 m, .int .i64 g, .int .i64 d, .slice x n c] 26)).heap.size = w.heap.size + 1 + 1 + 1 by simp] at hcp
  have bC := HC.out.2.1
  have HOC := hid HC.out.1
  have k0 := keep bC (b := w.heap.size) (o := 0) (x := .int .i64 ep) (by first | assumption | go_simp)
  have k1 := keep bC (b := w.heap.size) (o := 1) (x := .int .i64 k) (by first | assumption | go_simp)
  have k2 := keep bC (b := w.heap.size) (o := 2) (x := .int .i64 m) (by first | assumption | go_simp)
  have k3 := keep bC (b := w.heap.size) (o := 3) (x := .int .i64 g) (by first | assumption | go_simp)
  have k4 := keep bC (b := w.heap.size) (o := 4) (x := .int .i64 d) (by first | assumption | go_simp)
  have k5 := keep bC (b := w.heap.size) (o := 5) (x := .slice x n c) (by first | assumption | go_simp)
  have j0 := keep bC (b := w.heap.size + 1) (o := 0) (x := .int .i64 ck) (by first | assumption | go_simp)
  have j1 := keep bC (b := w.heap.size + 1) (o := 1) (x := .int .i64 c0) (by first | assumption | go_simp)
  have j2 := keep bC (b := w.heap.size + 1) (o := 2) (x := .bool c1) (by first | assumption | go_simp)
  have j3 := keep bC (b := w.heap.size + 1) (o := 3) (x := .bool c2) (by first | assumption | go_simp)
  have j4 := keep bC (b := w.heap.size + 1) (o := 4) (x := .int .i64 c3) (by first | assumption | go_simp)
  have j5 := keep bC (b := w.heap.size + 1) (o := 5) (x := .int .i64 c4) (by first | assumption | go_simp)
  have j6 := keep bC (b := w.heap.size + 1) (o := 6) (x := .int .i64 c5) (by first | assumption | go_simp)
  have j7 := keep bC (b := w.heap.size + 1) (o := 7) (x := .int .i64 c6) (by first | assumption | go_simp)
  have j8 := keep bC (b := w.heap.size + 1) (o := 8) (x := .int .i64 c7) (by first | assumption | go_simp)
  have o0 := keep bC (b := w.heap.size + 1 + 1) (o := 0) (x := .int .i64 ep) (by first | assumption | go_simp)
  have o1 := keep bC (b := w.heap.size + 1 + 1) (o := 1) (x := .int .i64 k) (by first | assumption | go_simp)
  have o2 := keep bC (b := w.heap.size + 1 + 1) (o := 2) (x := .int .i64 m) (by first | assumption | go_simp)
  have o3 := keep bC (b := w.heap.size + 1 + 1) (o := 3) (x := .int .i64 g) (by first | assumption | go_simp)
  have o4 := keep bC (b := w.heap.size + 1 + 1) (o := 4) (x := .int .i64 d) (by first | assumption | go_simp)
  have o5 := keep bC (b := w.heap.size + 1 + 1) (o := 5) (x := .slice x n c) (by first | assumption | go_simp)
  have f0 := keepf bC (b := w.heap.size + 1 + 1) (o := 0) (by first | (simp <;> omega) | exact cell_lt' (a := ⟨w.heap.size + 1 + 1, 0, none⟩) (by assumption) | (simp; exact cell_lt' (a := ⟨w.heap.size + 1 + 1, 0, none⟩) (by assumption))) (by first | assumption | go_simp)
  have f1 := keepf bC (b := w.heap.size + 1 + 1) (o := 1) (by first | (simp <;> omega) | exact cell_lt' (a := ⟨w.heap.size + 1 + 1, 1, none⟩) (by assumption) | (simp; exact cell_lt' (a := ⟨w.heap.size + 1 + 1, 1, none⟩) (by assumption))) (by first | assumption | go_simp)
  have f2 := keepf bC (b := w.heap.size + 1 + 1) (o := 2) (by first | (simp <;> omega) | exact cell_lt' (a := ⟨w.heap.size + 1 + 1, 2, none⟩) (by assumption) | (simp; exact cell_lt' (a := ⟨w.heap.size + 1 + 1, 2, none⟩) (by assumption))) (by first | assumption | go_simp)
  have f3 := keepf bC (b := w.heap.size + 1 + 1) (o := 3) (by first | (simp <;> omega) | exact cell_lt' (a := ⟨w.heap.size + 1 + 1, 3, none⟩) (by assumption) | (simp; exact cell_lt' (a := ⟨w.heap.size + 1 + 1, 3, none⟩) (by assumption))) (by first | assumption | go_simp)
  have f4 := keepf bC (b := w.heap.size + 1 + 1) (o := 4) (by first | (simp <;> omega) | exact cell_lt' (a := ⟨w.heap.size + 1 + 1, 4, none⟩) (by assumption) | (simp; exact cell_lt' (a := ⟨w.heap.size + 1 + 1, 4, none⟩) (by assumption))) (by first | assumption | go_simp)
  have f5 := keepf bC (b := w.heap.size + 1 + 1) (o := 5) (by first | (simp <;> omega) | exact cell_lt' (a := ⟨w.heap.size + 1 + 1, 5, none⟩) (by assumption) | (simp; exact cell_lt' (a := ⟨w.heap.size + 1 + 1, 5, none⟩) (by assumption))) (by first | assumption | go_simp)
  have BC := on b0 bC
  have lc1 : w.heap.size < wC.heap.size := cell_lt' k0
  have lc2 : w.heap.size + 1 < wC.heap.size := cell_lt' j0
  have lc3 : w.heap.size + 1 + 1 < wC.heap.size := cell_lt' o0
  obtain ⟨wO, hwO⟩ : ∃ wO, wO = wC.setCell ⟨w.heap.size + 1 + 1, 5, none⟩ (.slice x' n c') := ⟨_, rfl⟩
  have TO : Turns (fun k => k = w.heap.size + 1 + 1) wC wO := by rw [hwO]; exact turns_put (Turns.refl _ _) _ _
  have BO : Below w.heap.size w wO := by rw [hwO]; exact BC.setCell (p := ⟨w.heap.size + 1 + 1, 5, none⟩) (show w.heap.size ≤ w.heap.size + 1 + 1 by omega) _
  have HWO := hid hwO.symm
  have OsO : At.Os wO x' n c' L := HOC.out.turns TO (fun h0 a ha e => by have := HC.out.2.2 a ha; have e2 : a.block = w.heap.size + 1 + 1 := e; simp at this; omega)
  have hA0 := hA wO x' c' OsO
  clear b0 hwO bC BC
  have kk0 : ∀ (b q : Nat) (v : Value), b ≠ w.heap.size + 1 + 1 → wC.cell? ⟨b, q, none⟩ = some v → wO.cell? ⟨b, q, none⟩ = some v := fun b q v hb hv => (World.cell?_of_block (a := ⟨b, q, none⟩) (TO.block b (cell_lt' hv) hb)).trans hv
  have k0' := kk0 _ _ _ (by omega) k0
  have k1' := kk0 _ _ _ (by omega) k1
  have k2' := kk0 _ _ _ (by omega) k2
  have k3' := kk0 _ _ _ (by omega) k3
  have k4' := kk0 _ _ _ (by omega) k4
  have k5' := kk0 _ _ _ (by omega) k5
  have j0' := kk0 _ _ _ (by omega) j0
  have j1' := kk0 _ _ _ (by omega) j1
  have j2' := kk0 _ _ _ (by omega) j2
  have j3' := kk0 _ _ _ (by omega) j3
  have j4' := kk0 _ _ _ (by omega) j4
  have j5' := kk0 _ _ _ (by omega) j5
  have j6' := kk0 _ _ _ (by omega) j6
  have j7' := kk0 _ _ _ (by omega) j7
  have j8' := kk0 _ _ _ (by omega) j8
  have HO0 : Hid (wO.cell? ⟨w.heap.size + 1 + 1, 0, none⟩ = some (.int .i64 ep) ∧ wO.cell? ⟨w.heap.size + 1 + 1, 1, none⟩ = some (.int .i64 k) ∧ wO.cell? ⟨w.heap.size + 1 + 1, 2, none⟩ = some (.int .i64 m) ∧ wO.cell? ⟨w.heap.size + 1 + 1, 3, none⟩ = some (.int .i64 g) ∧ wO.cell? ⟨w.heap.size + 1 + 1, 4, none⟩ = some (.int .i64 d) ∧ wO.cell? ⟨w.heap.size + 1 + 1, 5, none⟩ = some (.slice x' n c')) := by
    rw [← HWO.out]
    refine ⟨?_, ?_, ?_, ?_, ?_, ?_⟩ <;> go_simp
  go_enter Try.func4, Try.ntmps4
  go_wp2_with (first
    | (at_builtin; refine Lib.wpList_append_run _ rfl _ _ _ _ rfl _ _ rfl rfl _ _ hcp ?_)
    | (
       go_at_call 20; rw [HWO.out]; refine hA0.mono ?_; rintro e w1 ⟨y, yn, yc, rfl, H1⟩; clear hA0 hA
       have hb1 := H1.out.1
       have k0 := keep hb1 k0'
       have k1 := keep hb1 k1'
       have k2 := keep hb1 k2'
       have k3 := keep hb1 k3'
       have k4 := keep hb1 k4'
       have k5 := keep hb1 k5'
       have j0 := keep hb1 j0'
       have j1 := keep hb1 j1'
       have j2 := keep hb1 j2'
       have j3 := keep hb1 j3'
       have j4 := keep hb1 j4'
       have j5 := keep hb1 j5'
       have j6 := keep hb1 j6'
       have j7 := keep hb1 j7'
       have j8 := keep hb1 j8'
       obtain ⟨p0, p1, p2, p3, p4, p5⟩ := HO0.out
       have o0 := keep hb1 p0
       have o1 := keep hb1 p1
       have o2 := keep hb1 p2
       have o3 := keep hb1 p3
       have o4 := keep hb1 p4
       have o5 := keep hb1 p5
       have B1 := on BO hb1
       have ba := al w1 (.cells #[.int .i64 r2.ep, .int .i64 r2.pool.k, .int .i64 r2.pool.m, .int .i64 r2.pool.pgs, .int .i64 r2.pool.dom, .slice y yn yc] 26)
       have OA := H1.out.2.below ba
       have OW := OsO.below (on hb1 ba)
       have l1 : w.heap.size < w1.heap.size := cell_lt' k0
       have l2 : w.heap.size + 1 < w1.heap.size := cell_lt' j0
       have l3 : w.heap.size + 1 + 1 < w1.heap.size := cell_lt' o0
       have hB1 := hB _ (HO.out.below (on B1 ba))
       clear hb1 hB)
    | (
       go_at_call 21; refine hB1.mono ?_; rintro e w2 ⟨z, zn, zc, rfl, H2⟩; clear hB1
       have hb2 := H2.out.1
       have k0 := keep hb2 (b := w.heap.size) (o := 0) (x := .int .i64 ep) (by first | assumption | go_simp)
       have k1 := keep hb2 (b := w.heap.size) (o := 1) (x := .int .i64 k) (by first | assumption | go_simp)
       have k2 := keep hb2 (b := w.heap.size) (o := 2) (x := .int .i64 m) (by first | assumption | go_simp)
       have k3 := keep hb2 (b := w.heap.size) (o := 3) (x := .int .i64 g) (by first | assumption | go_simp)
       have k4 := keep hb2 (b := w.heap.size) (o := 4) (x := .int .i64 d) (by first | assumption | go_simp)
       have k5 := keep hb2 (b := w.heap.size) (o := 5) (x := .slice x n c) (by first | assumption | go_simp)
       have o0 := keep hb2 (b := w.heap.size + 1 + 1) (o := 0) (x := .int .i64 ep) (by first | assumption | go_simp)
       have o1 := keep hb2 (b := w.heap.size + 1 + 1) (o := 1) (x := .int .i64 k) (by first | assumption | go_simp)
       have o2 := keep hb2 (b := w.heap.size + 1 + 1) (o := 2) (x := .int .i64 m) (by first | assumption | go_simp)
       have o3 := keep hb2 (b := w.heap.size + 1 + 1) (o := 3) (x := .int .i64 g) (by first | assumption | go_simp)
       have o4 := keep hb2 (b := w.heap.size + 1 + 1) (o := 4) (x := .int .i64 d) (by first | assumption | go_simp)
       have o5 := keep hb2 (b := w.heap.size + 1 + 1) (o := 5) (x := .slice x' n c') (by first | assumption | go_simp)
       have a0 := keep hb2 (b := w1.heap.size) (o := 0) (x := .int .i64 r2.ep) (by first | assumption | go_simp)
       have a1 := keep hb2 (b := w1.heap.size) (o := 1) (x := .int .i64 r2.pool.k) (by first | assumption | go_simp)
       have a2 := keep hb2 (b := w1.heap.size) (o := 2) (x := .int .i64 r2.pool.m) (by first | assumption | go_simp)
       have a3 := keep hb2 (b := w1.heap.size) (o := 3) (x := .int .i64 r2.pool.pgs) (by first | assumption | go_simp)
       have a4 := keep hb2 (b := w1.heap.size) (o := 4) (x := .int .i64 r2.pool.dom) (by first | assumption | go_simp)
       have a5 := keep hb2 (b := w1.heap.size) (o := 5) (x := .slice y yn yc) (by first | assumption | go_simp)
       have B2 := on (on B1 ba) hb2
       have bb := al w2 (.cells #[.int .i64 r2.ep, .int .i64 r2.pool.k, .int .i64 r2.pool.m, .int .i64 r2.pool.pgs, .int .i64 r2.pool.dom, .slice z zn zc] 26)
       have OA2 := OA.below (on hb2 bb)
       have OB2 := H2.out.2.below bb
       have OW2 := OW.below (on hb2 bb)
       have l4 : w.heap.size < w2.heap.size := cell_lt' k0
       have l5 : w1.heap.size < w2.heap.size := cell_lt' a0
       have l6 : w.heap.size + 1 + 1 < w2.heap.size := cell_lt' o0
       have hS1' := hS1 _ y z yn yc zn zc OA2 OB2
       clear hb2 hS1)
    | (
       go_at_call 14; refine hS1'.mono ?_; rintro e w3 ⟨rfl, hb3⟩; clear hS1'
       have k0 := keep hb3 (b := w.heap.size) (o := 0) (x := .int .i64 ep) (by first | assumption | go_simp)
       have k1 := keep hb3 (b := w.heap.size) (o := 1) (x := .int .i64 k) (by first | assumption | go_simp)
       have k2 := keep hb3 (b := w.heap.size) (o := 2) (x := .int .i64 m) (by first | assumption | go_simp)
       have k3 := keep hb3 (b := w.heap.size) (o := 3) (x := .int .i64 g) (by first | assumption | go_simp)
       have k4 := keep hb3 (b := w.heap.size) (o := 4) (x := .int .i64 d) (by first | assumption | go_simp)
       have k5 := keep hb3 (b := w.heap.size) (o := 5) (x := .slice x n c) (by first | assumption | go_simp)
       have o0 := keep hb3 (b := w.heap.size + 1 + 1) (o := 0) (x := .int .i64 ep) (by first | assumption | go_simp)
       have o1 := keep hb3 (b := w.heap.size + 1 + 1) (o := 1) (x := .int .i64 k) (by first | assumption | go_simp)
       have o2 := keep hb3 (b := w.heap.size + 1 + 1) (o := 2) (x := .int .i64 m) (by first | assumption | go_simp)
       have o3 := keep hb3 (b := w.heap.size + 1 + 1) (o := 3) (x := .int .i64 g) (by first | assumption | go_simp)
       have o4 := keep hb3 (b := w.heap.size + 1 + 1) (o := 4) (x := .int .i64 d) (by first | assumption | go_simp)
       have o5 := keep hb3 (b := w.heap.size + 1 + 1) (o := 5) (x := .slice x' n c') (by first | assumption | go_simp)
       have a0 := keep hb3 (b := w1.heap.size) (o := 0) (x := .int .i64 r2.ep) (by first | assumption | go_simp)
       have a1 := keep hb3 (b := w1.heap.size) (o := 1) (x := .int .i64 r2.pool.k) (by first | assumption | go_simp)
       have a2 := keep hb3 (b := w1.heap.size) (o := 2) (x := .int .i64 r2.pool.m) (by first | assumption | go_simp)
       have a3 := keep hb3 (b := w1.heap.size) (o := 3) (x := .int .i64 r2.pool.pgs) (by first | assumption | go_simp)
       have a4 := keep hb3 (b := w1.heap.size) (o := 4) (x := .int .i64 r2.pool.dom) (by first | assumption | go_simp)
       have a5 := keep hb3 (b := w1.heap.size) (o := 5) (x := .slice y yn yc) (by first | assumption | go_simp)
       have b0 := keep hb3 (b := w2.heap.size) (o := 0) (x := .int .i64 r2.ep) (by first | assumption | go_simp)
       have b1 := keep hb3 (b := w2.heap.size) (o := 1) (x := .int .i64 r2.pool.k) (by first | assumption | go_simp)
       have b2 := keep hb3 (b := w2.heap.size) (o := 2) (x := .int .i64 r2.pool.m) (by first | assumption | go_simp)
       have b3 := keep hb3 (b := w2.heap.size) (o := 3) (x := .int .i64 r2.pool.pgs) (by first | assumption | go_simp)
       have b4 := keep hb3 (b := w2.heap.size) (o := 4) (x := .int .i64 r2.pool.dom) (by first | assumption | go_simp)
       have b5 := keep hb3 (b := w2.heap.size) (o := 5) (x := .slice z zn zc) (by first | assumption | go_simp)
       have B3 := on (on B2 bb) hb3
       have hS2' := hS2 _ x' c' (OW2.below hb3) (HO.out.below B3)
       have OA3 := OA2.below hb3
       have OB3 := OB2.below hb3
       clear hb3 hS2)
    | (
       go_at_call 14; refine hS2'.mono ?_; rintro e w4 ⟨rfl, hb4⟩; clear hS2'
       have k0 := keep hb4 (b := w.heap.size) (o := 0) (x := .int .i64 ep) (by first | assumption | go_simp)
       have k1 := keep hb4 (b := w.heap.size) (o := 1) (x := .int .i64 k) (by first | assumption | go_simp)
       have k2 := keep hb4 (b := w.heap.size) (o := 2) (x := .int .i64 m) (by first | assumption | go_simp)
       have k3 := keep hb4 (b := w.heap.size) (o := 3) (x := .int .i64 g) (by first | assumption | go_simp)
       have k4 := keep hb4 (b := w.heap.size) (o := 4) (x := .int .i64 d) (by first | assumption | go_simp)
       have k5 := keep hb4 (b := w.heap.size) (o := 5) (x := .slice x n c) (by first | assumption | go_simp)
       have a0 := keep hb4 (b := w1.heap.size) (o := 0) (x := .int .i64 r2.ep) (by first | assumption | go_simp)
       have a1 := keep hb4 (b := w1.heap.size) (o := 1) (x := .int .i64 r2.pool.k) (by first | assumption | go_simp)
       have a2 := keep hb4 (b := w1.heap.size) (o := 2) (x := .int .i64 r2.pool.m) (by first | assumption | go_simp)
       have a3 := keep hb4 (b := w1.heap.size) (o := 3) (x := .int .i64 r2.pool.pgs) (by first | assumption | go_simp)
       have a4 := keep hb4 (b := w1.heap.size) (o := 4) (x := .int .i64 r2.pool.dom) (by first | assumption | go_simp)
       have a5 := keep hb4 (b := w1.heap.size) (o := 5) (x := .slice y yn yc) (by first | assumption | go_simp)
       have b0 := keep hb4 (b := w2.heap.size) (o := 0) (x := .int .i64 r2.ep) (by first | assumption | go_simp)
       have b1 := keep hb4 (b := w2.heap.size) (o := 1) (x := .int .i64 r2.pool.k) (by first | assumption | go_simp)
       have b2 := keep hb4 (b := w2.heap.size) (o := 2) (x := .int .i64 r2.pool.m) (by first | assumption | go_simp)
       have b3 := keep hb4 (b := w2.heap.size) (o := 3) (x := .int .i64 r2.pool.pgs) (by first | assumption | go_simp)
       have b4 := keep hb4 (b := w2.heap.size) (o := 4) (x := .int .i64 r2.pool.dom) (by first | assumption | go_simp)
       have b5 := keep hb4 (b := w2.heap.size) (o := 5) (x := .slice z zn zc) (by first | assumption | go_simp)
       have B4 := on B3 hb4
       have OA4 := OA3.below hb4
       have hS3' := hS3 _ y z yn yc zn zc OA4 (OB3.below hb4)
       clear hb4 hS3)
    | (
       go_at_call 22; refine hS3'.mono ?_; rintro e w5 ⟨rfl, hb5⟩; clear hS3'
       have k0 := keep hb5 (b := w.heap.size) (o := 0) (x := .int .i64 ep) (by first | assumption | go_simp)
       have k1 := keep hb5 (b := w.heap.size) (o := 1) (x := .int .i64 k) (by first | assumption | go_simp)
       have k2 := keep hb5 (b := w.heap.size) (o := 2) (x := .int .i64 m) (by first | assumption | go_simp)
       have k3 := keep hb5 (b := w.heap.size) (o := 3) (x := .int .i64 g) (by first | assumption | go_simp)
       have k4 := keep hb5 (b := w.heap.size) (o := 4) (x := .int .i64 d) (by first | assumption | go_simp)
       have k5 := keep hb5 (b := w.heap.size) (o := 5) (x := .slice x n c) (by first | assumption | go_simp)
       have a0 := keep hb5 (b := w1.heap.size) (o := 0) (x := .int .i64 r2.ep) (by first | assumption | go_simp)
       have a1 := keep hb5 (b := w1.heap.size) (o := 1) (x := .int .i64 r2.pool.k) (by first | assumption | go_simp)
       have a2 := keep hb5 (b := w1.heap.size) (o := 2) (x := .int .i64 r2.pool.m) (by first | assumption | go_simp)
       have a3 := keep hb5 (b := w1.heap.size) (o := 3) (x := .int .i64 r2.pool.pgs) (by first | assumption | go_simp)
       have a4 := keep hb5 (b := w1.heap.size) (o := 4) (x := .int .i64 r2.pool.dom) (by first | assumption | go_simp)
       have a5 := keep hb5 (b := w1.heap.size) (o := 5) (x := .slice y yn yc) (by first | assumption | go_simp)
       have B5 := on B4 hb5
       have OA5 := OA4.below hb5
       have hMy5 := hMy _ y yn yc OA5
       clear hb5)
    | (
       go_at_call 16; refine hMy5.mono ?_; rintro e w6 ⟨rfl, hb6⟩; clear hMy5
       have a0 := keep hb6 (b := w1.heap.size) (o := 0) (x := .int .i64 r2.ep) (by first | assumption | go_simp)
       have k0 := keep hb6 (b := w.heap.size) (o := 0) (x := .int .i64 ep) (by first | assumption | go_simp)
       have hEE := HEp.out
       rw [hEE] at a0
       have B6 := on B5 hb6
       clear hb6)
    | (
       go_at_call 19; refine (hW _).mono ?_; rintro e w7 ⟨rfl, hb7⟩; clear hW))
  go_ret
  exact ⟨rfl, on B6 hb7⟩

theorem walk (V0 : MpV) (V1 : Ch) (w : World) (h0 : MapIn w V0) : Calls Try.prog 4 #[vM V0.m.ep V0.m.pool V0.x V0.n V0.c, vC V1] w fun e w' => e = .returned (.bool true) ∧ Below w.heap.size w w' := by
  by_cases hz : (applyP V0.m V1).1 = 0
  · exact walk_ok V0 V1 w h0 hz
  · exact walk_err V0 V1 w h0 hz

set_option maxRecDepth 100000 in
theorem lifted (os : Os) (started : os.Started) (H : Type) (enc : TypeId × Value → H) :
    ReturnsInHanded {} Try.checked os 4 .any (Rows.atlasAppliesSpec.pre6 enc Try.prog Try.f4 Rows.atlasAppliesRow.domain false) (Rows.atlasAppliesSpec.post enc Try.prog Try.f4 false true false false) := by
  refine returnsInHanded_of_change_sized (C := Try.checked) own started (by kernel_rfl) Try.func4
    (ChangeSpec.witness6 (enc := enc) (C := Try.checked) false ⟨#[], #[.agg #[.int .i64 0, .int .i64 0, .int .i64 0, .int .i64 0, .int .i64 0, .slice none 0 0], .agg #[.int .i64 0, .int .i64 0, .bool false, .bool false, .int .i64 0, .int .i64 0, .int .i64 0, .int .i64 0, .int .i64 0]], []⟩ 8 (by kernel_rfl) (by kernel_rfl) (by kernel_rfl) (by kernel_rfl)) ?_
  intro W base args ds gs before hval0 hW hcnd hsz0 _
  have hsz : (DataW.weightsEach Try.prog (Try.f4.params.toList ++ Rows.atlasAppliesSpec.plain.varTypes Try.prog) (ds ++ gs)).all (· ≤ reachBytes) = true := hsz0
  have hval : ∀ (j : Nat) t v, Try.f4.params[j]? = some t → args[j]? = some v → Value.okWide Try.prog W .any base t v := hval0
  have hW' := hW
  obtain ⟨p, q, hA0, hV, rfl, hfz, hnd⟩ := hW
  have hA : DataW.TrodAll enc Try.prog W 0 (fun _ => true) true Try.f4.params.toList args.toList ds p := hA0
  rw [Try.params4] at hA hval hsz
  obtain ⟨v0, vs0, d0, ds0, p0, q0, hargs, rfl, rfl, h0, r0⟩ := trodAll_cons hA
  obtain ⟨v1, vs1, d1, ds1, p1, q1, rfl, rfl, rfl, h1, r1⟩ := trodAll_cons r0
  obtain ⟨rfl, rfl, rfl⟩ := trodAll_nil r1
  obtain rfl : args = #[v0, v1] := by cases args; simp_all
  obtain ⟨rfl, rfl⟩ := trodVars_none hV
  have k0 := h0
  have lt0 : ∀ x ∈ p0, x.block < W.heap.size := by obtain ⟨m, hm⟩ := k0; exact DataW.trod_lt m _ _ _ hm
  have s0 : ∀ x ∈ d0.weights Try.prog 26, x ≤ reachBytes := fun x hx => by
    have := List.all_eq_true.1 hsz x (DataW.weights_mem_each (j := 0) rfl rfl x hx)
    simpa using this
  obtain ⟨V0, rfl, w0⟩ := At.map_in (okWide_struct Try.underlying26 (hval 0 26 v0 rfl rfl)) h0 s0
  have k1 := h1
  have lt1 : ∀ x ∈ p1, x.block < W.heap.size := by obtain ⟨m, hm⟩ := k1; exact DataW.trod_lt m _ _ _ hm
  have s1 : ∀ x ∈ d1.weights Try.prog 30, x ≤ reachBytes := fun x hx => by
    have := List.all_eq_true.1 hsz x (DataW.weights_mem_each (j := 1) rfl rfl x hx)
    simpa using this
  obtain ⟨V1, rfl⟩ := At.ch_in (okWide_struct Try.underlying30 (hval 1 30 v1 rfl rfl)) h1
  clear hA0 hval0
  refine (walk V0 V1 W w0).mono fun e W' ⟨he, bel⟩ => ?_
  subst he
  exact ⟨_, rfl, _, _, _, [], _, [], hW', trodAll_mk1 (shut_bool Try.underlying4 _), (trodAll_cons_mk (Below.trod laidOut (by kernel_rfl) (of_decide_eq_true (by kernel_rfl)) k0 bel lt0) (trodAll_cons_mk (Below.trod laidOut (by kernel_rfl) (of_decide_eq_true (by kernel_rfl)) k1 bel lt1) trodAll_mk0)), rfl, bel.frame _, fun h => by cases h⟩

theorem over : Rows.atlasAppliesRow.holds Try.pinned (OpenSpec.ofChange Rows.atlasAppliesSpec) :=
  OpenClaim.holds_of_wide 4 Try.f4 rfl rfl rfl rfl rfl rfl rfl ⟨rfl, rfl, rfl, rfl, rfl⟩ rfl rfl rfl rfl rfl (by kernel_rfl) Try.func4 (by kernel_rfl)
    (of_decide_eq_true (by kernel_rfl)) (by unfold Func.isWrapper; first | (rw [if_pos (by decide +kernel)]; kernel_rfl) | (rw [if_neg (by decide +kernel)]; exact ⟨rfl, rfl⟩))
    (fun os started H enc _ => lifted os started H enc)

theorem proved : Rows.AtlasAppliesSaid := over
#print axioms proved
end Go.Proofs.Ytnddhlkdemibgaa.atlasApplies
