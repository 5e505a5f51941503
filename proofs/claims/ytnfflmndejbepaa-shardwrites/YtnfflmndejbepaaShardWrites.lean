/-
  ShardWrites: what comes of any holder whose shard is activated, written to, or committed.
  Conditions: none.
-/
import Derived.Test.YtnfflmndejbepaaRows
import Derived.WalkKit
import Derived.ProofKit
import Derived.OpenShut
import Derived.SizedLaws
import Derived.ShutString
import Derived.ChangeOld
import Derived.Below
import Derived.JoinedCond
import Derived.Test.YtnfflmndejbepaaJByRows
import Derived.Test.YtnfflmndejbepaaJShWrP
import Derived.ChangeMaps5
import Derived.Test.YtnfflmndejbepaaShLawP
namespace Go.Proofs.Ytnfflmndejbepaa.shardWrites
open Go.ChangeShapes Go.WideShapes Go.ChangeAt Go.RowKit Go.ChangeMaps By
open Fl Sh
set_option linter.unusedVariables false
set_option linter.unusedSimpArgs false
set_option maxRecDepth 100000

theorem own : ownKnob Try.prog.godebug = none := by kernel_rfl
theorem laidOut : laidOutB Try.prog = true := by kernel_rfl

set_option maxHeartbeats 25600000 in
theorem walk (v : HV) (since : Int) (x : PV) (w : World) (hv : HIn w v) (hx : PAt w (fun _ => True) x) :
    Calls Try.prog 6 #[vH v, .int .i64 since, vP x] w fun e w' => e = .returned (.bool true) ∧ Below w.heap.size w w' := by
  obtain ⟨hdz⟩ := dz_some
  haveI := hdz
  obtain ⟨bb, hsz, g0, g1⟩ := two_boxes2 w (HCells v) #[.int .i64 x.e.seq, .int .i64 x.e.cl, .int .i64 x.e.ks, .string x.e.nm, .int .i64 x.e.code, .bool x.e.gone, .int .i64 x.e.sz, .int .i64 x.c.sz, .slice x.c.x x.c.n x.c.c, .int .u32 x.c.sum] 29 69
  obtain ⟨w0, hw0⟩ : ∃ w0, w0 = (w.alloc (.cells (HCells v) 29)).alloc (.cells #[.int .i64 x.e.seq, .int .i64 x.e.cl, .int .i64 x.e.ks, .string x.e.nm, .int .i64 x.e.code, .bool x.e.gone, .int .i64 x.e.sz, .int .i64 x.c.sz, .slice x.c.x x.c.n x.c.c, .int .u32 x.c.sum] 69) := ⟨_, rfl⟩
  rw [← hw0] at bb hsz g0 g1
  have hcx := CAt.lt hx.2
  have HV0 := hid (And.intro hv.at_.lt (And.intro hx.1 (And.intro hcx hv.small)))
  have HB0 := hid bb
  have HSz := hid hsz
  have HKh : Hid (∀ W, Below w0.heap.size w0 W → _) := hid fun W hW => hcells ((hW.block _ (lt_heap g0)).trans g0)
  have HKs : Hid (∀ W, Below w0.heap.size w0 W → W.cell? ⟨w.heap.size + 1, 0, none⟩ = some (.int .i64 x.e.seq) ∧ W.cell? ⟨w.heap.size + 1, 1, none⟩ = some (.int .i64 x.e.cl) ∧ W.cell? ⟨w.heap.size + 1, 2, none⟩ = some (.int .i64 x.e.ks) ∧ W.cell? ⟨w.heap.size + 1, 3, none⟩ = some (.string x.e.nm) ∧ W.cell? ⟨w.heap.size + 1, 4, none⟩ = some (.int .i64 x.e.code) ∧ W.cell? ⟨w.heap.size + 1, 5, none⟩ = some (.bool x.e.gone) ∧ W.cell? ⟨w.heap.size + 1, 6, none⟩ = some (.int .i64 x.e.sz) ∧ W.cell? ⟨w.heap.size + 1, 7, none⟩ = some (.int .i64 x.c.sz) ∧ W.cell? ⟨w.heap.size + 1, 8, none⟩ = some (.slice x.c.x x.c.n x.c.c) ∧ W.cell? ⟨w.heap.size + 1, 9, none⟩ = some (.int .u32 x.c.sum)) := hid fun W hW => ⟨keep hW (cell_heap g1 rfl), keep hW (cell_heap g1 rfl), keep hW (cell_heap g1 rfl), keep hW (cell_heap g1 rfl), keep hW (cell_heap g1 rfl), keep hW (cell_heap g1 rfl), keep hW (cell_heap g1 rfl), keep hW (cell_heap g1 rfl), keep hW (cell_heap g1 rfl), keep hW (cell_heap g1 rfl)⟩
  have HC1 := hid (fun W (hW : Below w0.heap.size w0 W) => l_act (B := w.heap.size) since (HV0.out.1.below (on bb hW)))
  have HC2 := hid (fun W (hW : Below w0.heap.size w0 W) => l_ract since (HV0.out.1.below (on bb hW)))
  have HC3 := hid (fun W (hW : Below w0.heap.size w0 W) => l_write (B := w.heap.size) since x.e x.c (HV0.out.1.below (on bb hW)) HV0.out.2.1 (CAt.below HV0.out.2.2.1 (on bb hW)) HV0.out.2.2.2)
  have HC4 := hid (fun W (hW : Below w0.heap.size w0 W) => l_rwrite since x.e x.c (HV0.out.1.below (on bb hW)) HV0.out.2.1 (CAt.below HV0.out.2.2.1 (on bb hW)) HV0.out.2.2.2)
  have HC5 := hid (fun W (hW : Below w0.heap.size w0 W) => l_commit (B := w.heap.size) since x.e.seq (HV0.out.1.below (on bb hW)))
  have HC6 := hid (fun W (hW : Below w0.heap.size w0 W) => l_rcommit since x.e.seq (HV0.out.1.below (on bb hW)) HV0.out.2.2.2)
  generalize actP (pH v) since = P1 at *
  generalize writeP (pH v) since x.e (pC x.c) = P2 at *
  generalize commitP (pH v) since x.e.seq = P3 at *
  unfold vH at HC1 HC2 HC3 HC4 HC5 HC6 ⊢
  unfold vE vC at HC3 HC4
  unfold vP
  unfold HCells at hw0
  clear hv hx hcx bb hsz g0 g1
  go_enter Try.func6, Try.ntmps6
  go_upto_region 1 with (fail)
  rw [← hw0]
  clear hw0
  obtain ⟨k0, k1, k2, k3, k4, k5, k6⟩ := HKh.out w0 (Below.refl _ _)
  have hC := HC1.out w0 (Below.refl _ _)
  go_upto_region 2 with (go_at_call 33; refine hC.mono ?_; rintro r wx1 ⟨u1, rfl, H1⟩; unfold vH; clear hC k0 k1 k2 k3 k4 k5 k6)
  obtain ⟨w1, hw1⟩ : ∃ w1, w1 = wx1.alloc (.cells #[.int .i64 u1.fe, .int .i64 u1.now.pl, .int .i64 u1.now.si, .slice u1.now.x1 u1.now.n1 u1.now.c1, .slice u1.now.x2 u1.now.n2 u1.now.c2, .slice u1.now.x3 u1.now.n3 u1.now.c3, .slice u1.x u1.n u1.c] 29) := ⟨_, rfl⟩
  have b1 : Below wx1.heap.size wx1 w1 := by rw [hw1]; exact al _ _
  have g1 : w1.heap[wx1.heap.size]? = some (.cells (HCells u1) 29 (0, 0)) := by rw [hw1]; exact heap_alloc_new _ _
  obtain ⟨p1, hp1⟩ : ∃ p1, p1 = wx1.heap.size := ⟨_, rfl⟩
  rw [← hw1, ← hp1]
  rw [← hp1] at g1
  have HB1 := hid (on H1.out.2.2 b1)
  have HG1 := hid g1
  have HK1 : Hid (∀ W, Below w1.heap.size w1 W → _) := hid fun W hW => hcells ((hW.block _ (lt_heap g1)).trans g1)
  have HU1 := hid (And.intro (H1.out.1.below b1) H1.out.2.1)
  have HP1 := hid (And.intro (show p1 < w1.heap.size from lt_heap g1) (show w0.heap.size ≤ p1 by rw [hp1]; exact H1.out.2.2.size))
  clear hw1 b1 g1 hp1 H1
  obtain ⟨k0, k1, k2, k3, k4, k5, k6⟩ := HKh.out w1 HB1.out
  have hC := HC2.out w1 HB1.out
  go_upto_region 3 with (go_at_call 34; refine hC.mono ?_; rintro r wx2 ⟨u2, rfl, H2⟩; unfold vH; clear hC k0 k1 k2 k3 k4 k5 k6)
  obtain ⟨w2, hw2⟩ : ∃ w2, w2 = wx2.alloc (.cells #[.int .i64 u2.fe, .int .i64 u2.now.pl, .int .i64 u2.now.si, .slice u2.now.x1 u2.now.n1 u2.now.c1, .slice u2.now.x2 u2.now.n2 u2.now.c2, .slice u2.now.x3 u2.now.n3 u2.now.c3, .slice u2.x u2.n u2.c] 29) := ⟨_, rfl⟩
  have b2 : Below wx2.heap.size wx2 w2 := by rw [hw2]; exact al _ _
  have g2 : w2.heap[wx2.heap.size]? = some (.cells (HCells u2) 29 (0, 0)) := by rw [hw2]; exact heap_alloc_new _ _
  obtain ⟨p2, hp2⟩ : ∃ p2, p2 = wx2.heap.size := ⟨_, rfl⟩
  rw [← hw2, ← hp2]
  rw [← hp2] at g2
  have HB2 := hid (on H2.out.2.2 b2)
  have HG2 := hid g2
  have HK2 : Hid (∀ W, Below w2.heap.size w2 W → _) := hid fun W hW => hcells ((hW.block _ (lt_heap g2)).trans g2)
  have HU2 := hid (And.intro (H2.out.1.below b2) H2.out.2.1)
  have HP2 := hid (And.intro (show p2 < w2.heap.size from lt_heap g2) (show w1.heap.size ≤ p2 by rw [hp2]; exact H2.out.2.2.size))
  clear hw2 b2 g2 hp2 H2
  obtain ⟨k0, k1, k2, k3, k4, k5, k6⟩ := HKh.out w2 (on HB1.out HB2.out)
  obtain ⟨e0, e1, e2, e3, e4, e5, e6, e7, e8, e9⟩ := HKs.out w2 (on HB1.out HB2.out)
  have hC := HC3.out w2 (on HB1.out HB2.out)
  go_upto_region 4 with (go_at_call 35; refine hC.mono ?_; rintro r wx3 ⟨u3, rfl, H3⟩; unfold vH; clear hC k0 k1 k2 k3 k4 k5 k6 e0 e1 e2 e3 e4 e5 e6 e7 e8 e9)
  obtain ⟨w3, hw3⟩ : ∃ w3, w3 = wx3.alloc (.cells #[.int .i64 u3.fe, .int .i64 u3.now.pl, .int .i64 u3.now.si, .slice u3.now.x1 u3.now.n1 u3.now.c1, .slice u3.now.x2 u3.now.n2 u3.now.c2, .slice u3.now.x3 u3.now.n3 u3.now.c3, .slice u3.x u3.n u3.c] 29) := ⟨_, rfl⟩
  have b3 : Below wx3.heap.size wx3 w3 := by rw [hw3]; exact al _ _
  have g3 : w3.heap[wx3.heap.size]? = some (.cells (HCells u3) 29 (0, 0)) := by rw [hw3]; exact heap_alloc_new _ _
  obtain ⟨p3, hp3⟩ : ∃ p3, p3 = wx3.heap.size := ⟨_, rfl⟩
  rw [← hw3, ← hp3]
  rw [← hp3] at g3
  have HB3 := hid (on H3.out.2.2 b3)
  have HG3 := hid g3
  have HK3 : Hid (∀ W, Below w3.heap.size w3 W → _) := hid fun W hW => hcells ((hW.block _ (lt_heap g3)).trans g3)
  have HU3 := hid (And.intro (H3.out.1.below b3) H3.out.2.1)
  have HP3 := hid (And.intro (show p3 < w3.heap.size from lt_heap g3) (show w2.heap.size ≤ p3 by rw [hp3]; exact H3.out.2.2.size))
  clear hw3 b3 g3 hp3 H3
  obtain ⟨k0, k1, k2, k3, k4, k5, k6⟩ := HKh.out w3 (on (on HB1.out HB2.out) HB3.out)
  obtain ⟨e0, e1, e2, e3, e4, e5, e6, e7, e8, e9⟩ := HKs.out w3 (on (on HB1.out HB2.out) HB3.out)
  have hC := HC4.out w3 (on (on HB1.out HB2.out) HB3.out)
  go_upto_region 5 with (go_at_call 36; refine hC.mono ?_; rintro r wx4 ⟨u4, rfl, H4⟩; unfold vH; clear hC k0 k1 k2 k3 k4 k5 k6 e0 e1 e2 e3 e4 e5 e6 e7 e8 e9)
  obtain ⟨w4, hw4⟩ : ∃ w4, w4 = wx4.alloc (.cells #[.int .i64 u4.fe, .int .i64 u4.now.pl, .int .i64 u4.now.si, .slice u4.now.x1 u4.now.n1 u4.now.c1, .slice u4.now.x2 u4.now.n2 u4.now.c2, .slice u4.now.x3 u4.now.n3 u4.now.c3, .slice u4.x u4.n u4.c] 29) := ⟨_, rfl⟩
  have b4 : Below wx4.heap.size wx4 w4 := by rw [hw4]; exact al _ _
  have g4 : w4.heap[wx4.heap.size]? = some (.cells (HCells u4) 29 (0, 0)) := by rw [hw4]; exact heap_alloc_new _ _
  obtain ⟨p4, hp4⟩ : ∃ p4, p4 = wx4.heap.size := ⟨_, rfl⟩
  rw [← hw4, ← hp4]
  rw [← hp4] at g4
  have HB4 := hid (on H4.out.2.2 b4)
  have HG4 := hid g4
  have HK4 : Hid (∀ W, Below w4.heap.size w4 W → _) := hid fun W hW => hcells ((hW.block _ (lt_heap g4)).trans g4)
  have HU4 := hid (And.intro (H4.out.1.below b4) H4.out.2.1)
  have HP4 := hid (And.intro (show p4 < w4.heap.size from lt_heap g4) (show w3.heap.size ≤ p4 by rw [hp4]; exact H4.out.2.2.size))
  clear hw4 b4 g4 hp4 H4
  obtain ⟨m10, m11, m12, m13, m14, m15, m16⟩ := HK1.out w4 (on (on HB2.out HB3.out) HB4.out)
  obtain ⟨m20, m21, m22, m23, m24, m25, m26⟩ := HK2.out w4 (on HB3.out HB4.out)
  obtain ⟨m30, m31, m32, m33, m34, m35, m36⟩ := HK3.out w4 HB4.out
  obtain ⟨m40, m41, m42, m43, m44, m45, m46⟩ := HK4.out w4 (Below.refl _ _)
  have HS1 := hid (fun W (hW : Below w4.heap.size w4 W) => same_yes (z := P1.2) ((HU1.out.1.below (on (on HB2.out HB3.out) HB4.out)).below hW) ((HU2.out.1.below (on HB3.out HB4.out)).below hW) (HU1.out.2.trans HU2.out.2.symm))
  have HS2 := hid (fun W (hW : Below w4.heap.size w4 W) => same_yes (z := P2.2) ((HU3.out.1.below HB4.out).below hW) (HU4.out.1.below hW) (HU3.out.2.trans HU4.out.2.symm))
  unfold vH at HS1 HS2
  go_upto_region 7 with (first
    | (go_at_call 32; with_reducible refine (HS1.out _ (Below.refl _ _)).mono ?_; rintro r w5 ⟨rfl, b5⟩; replace m30 := keep b5 m30; replace m31 := keep b5 m31; replace m32 := keep b5 m32; replace m33 := keep b5 m33; replace m34 := keep b5 m34; replace m35 := keep b5 m35; replace m36 := keep b5 m36; replace m40 := keep b5 m40; replace m41 := keep b5 m41; replace m42 := keep b5 m42; replace m43 := keep b5 m43; replace m44 := keep b5 m44; replace m45 := keep b5 m45; replace m46 := keep b5 m46; clear HS1)
    | (go_at_call 32; with_reducible refine (HS2.out _ b5).mono ?_; rintro r w6 ⟨rfl, b6⟩; clear HS2))
  have HB6 := hid (on b5 b6)
  clear b5 b6 m10 m11 m12 m13 m14 m15 m16 m20 m21 m22 m23 m24 m25 m26 m30 m31 m32 m33 m34 m35 m36 m40 m41 m42 m43 m44 m45 m46
  obtain ⟨k0, k1, k2, k3, k4, k5, k6⟩ := HKh.out w6 (on (on (on (on HB1.out HB2.out) HB3.out) HB4.out) HB6.out)
  have e0 := (HKs.out w6 (on (on (on (on HB1.out HB2.out) HB3.out) HB4.out) HB6.out)).1
  have hC := HC5.out w6 (on (on (on (on HB1.out HB2.out) HB3.out) HB4.out) HB6.out)
  go_upto_region 8 with (go_at_call 37; refine hC.mono ?_; rintro r wx ⟨u5, rfl, H5⟩; unfold vH; have gb := (H5.out.2.2.block p3 (by have := HP3.out.1; have := HB4.out.size; have := HB6.out.size; omega)).trans (((on HB4.out HB6.out).block p3 HP3.out.1).trans HG3.out); have b0 := cell_heap (j := 0) gb rfl; have fb0 := fr_heap gb 0; have b1 := cell_heap (j := 1) gb rfl; have fb1 := fr_heap gb 1; have b2 := cell_heap (j := 2) gb rfl; have fb2 := fr_heap gb 2; have b3 := cell_heap (j := 3) gb rfl; have fb3 := fr_heap gb 3; have b4 := cell_heap (j := 4) gb rfl; have fb4 := fr_heap gb 4; have b5 := cell_heap (j := 5) gb rfl; have fb5 := fr_heap gb 5; have b6 := cell_heap (j := 6) gb rfl; have fb6 := fr_heap gb 6; have HGb := hid gb; clear gb hC e0 k0 k1 k2 k3 k4 k5 k6)
  have e7 : (((((((wx).setCell ⟨p3, 0, none⟩ (.int .i64 u5.fe)).setCell ⟨p3, 1, none⟩ (.int .i64 u5.now.pl)).setCell ⟨p3, 2, none⟩ (.int .i64 u5.now.si)).setCell ⟨p3, 3, none⟩ (.slice u5.now.x1 u5.now.n1 u5.now.c1)).setCell ⟨p3, 4, none⟩ (.slice u5.now.x2 u5.now.n2 u5.now.c2)).setCell ⟨p3, 5, none⟩ (.slice u5.now.x3 u5.now.n3 u5.now.c3)).setCell ⟨p3, 6, none⟩ (.slice u5.x u5.n u5.c) = put7 wx p3 u5 := rfl
  rw [e7]
  have g5 := put7_box HGb.out rfl u5
  have t5 := turns_put7 wx p3 u5
  have hp3 : w0.heap.size ≤ p3 := by have := HP3.out.2; have := (on HB1.out HB2.out).size; omega
  have bx5 := on (on (on (on (on HB1.out HB2.out) HB3.out) HB4.out) HB6.out) H5.out.2.2
  have b05 : Below w0.heap.size w0 (put7 wx p3 u5) := bx5.trans (t5.below (fun q e => by omega) bx5.size)
  have hs6 : p3 < w6.heap.size ∧ p4 < w6.heap.size := ⟨by have := HP3.out.1; have := HB4.out.size; have := HB6.out.size; omega, by have := HP4.out.1; have := HB6.out.size; omega⟩
  have hw3 : w.heap.size ≤ p3 := by have := HB0.out.size; omega
  have hu5 := H5.out.1.keeps (.turns t5 fun q hq e => by rcases hq with h | h; (omega); (have := h.1; omega))
  have h34 : p3 < p4 := by have := HP3.out.1; have := HP4.out.2; omega
  have g4 := (t5.block p4 (by have := H5.out.2.2.size; omega) (by omega)).trans ((H5.out.2.2.block p4 (by omega)).trans ((HB6.out.block p4 HP4.out.1).trans HG4.out))
  have z5 : w6.heap.size ≤ (put7 wx p3 u5).heap.size := Nat.le_trans H5.out.2.2.size t5.size
  have HX5 := hid (And.intro g5 (And.intro b05 (And.intro hu5 (And.intro H5.out.2.1 (And.intro g4 (And.intro z5 hs6))))))
  have HQ := hid (And.intro hp3 (And.intro hw3 h34))
  generalize put7 wx p3 u5 = w7 at *
  clear e7 g5 t5 hp3 bx5 b05 hs6 hw3 hu5 h34 g4 z5 b0 fb0 b1 fb1 b2 fb2 b3 fb3 b4 fb4 b5 fb5 b6 fb6
  obtain ⟨k0, k1, k2, k3, k4, k5, k6⟩ := HKh.out w7 HX5.out.2.1
  have e0 := (HKs.out w7 HX5.out.2.1).1
  have hC := HC6.out w7 HX5.out.2.1
  go_upto_region 9 with (go_at_call 38; refine hC.mono ?_; rintro r wy ⟨u6, rfl, H6⟩; unfold vH; have gb := (H6.out.2.2.block p4 (lt_heap HX5.out.2.2.2.2.1)).trans HX5.out.2.2.2.2.1; have b0 := cell_heap (j := 0) gb rfl; have fb0 := fr_heap gb 0; have b1 := cell_heap (j := 1) gb rfl; have fb1 := fr_heap gb 1; have b2 := cell_heap (j := 2) gb rfl; have fb2 := fr_heap gb 2; have b3 := cell_heap (j := 3) gb rfl; have fb3 := fr_heap gb 3; have b4 := cell_heap (j := 4) gb rfl; have fb4 := fr_heap gb 4; have b5 := cell_heap (j := 5) gb rfl; have fb5 := fr_heap gb 5; have b6 := cell_heap (j := 6) gb rfl; have fb6 := fr_heap gb 6; have HGc := hid gb; clear gb hC e0 k0 k1 k2 k3 k4 k5 k6)
  have e7 : (((((((wy).setCell ⟨p4, 0, none⟩ (.int .i64 u6.fe)).setCell ⟨p4, 1, none⟩ (.int .i64 u6.now.pl)).setCell ⟨p4, 2, none⟩ (.int .i64 u6.now.si)).setCell ⟨p4, 3, none⟩ (.slice u6.now.x1 u6.now.n1 u6.now.c1)).setCell ⟨p4, 4, none⟩ (.slice u6.now.x2 u6.now.n2 u6.now.c2)).setCell ⟨p4, 5, none⟩ (.slice u6.now.x3 u6.now.n3 u6.now.c3)).setCell ⟨p4, 6, none⟩ (.slice u6.x u6.n u6.c) = put7 wy p4 u6 := rfl
  rw [e7]
  have g6 := put7_box HGc.out rfl u6
  have t6 := turns_put7 wy p4 u6
  have hq := HQ.out
  have hz := HX5.out.2.2.2.2.2
  have b06 : Below w0.heap.size w0 (put7 wy p4 u6) := (on HX5.out.2.1 H6.out.2.2).trans (t6.below (fun q e => by omega) (on HX5.out.2.1 H6.out.2.2).size)
  have hu6 := H6.out.1.keeps (.turns t6 fun q hq' e => by rcases hq' with h | h; (omega); (have := h.1; omega))
  have hu5 := (HX5.out.2.2.1.below H6.out.2.2).keeps (.turns t6 fun q hq' e => by rcases hq' with h | h; (omega); (have := h.1; omega))
  have g5 := (t6.block p3 (by have := H6.out.2.2.size; omega) (by omega)).trans ((H6.out.2.2.block p3 (by omega)).trans HX5.out.1)
  have HS3 := hid (same_yes (z := P3.2) hu5 hu6 (HX5.out.2.2.2.1.trans H6.out.2.1.symm))
  generalize put7 wy p4 u6 = w8 at *
  have HB8 := hid b06
  obtain ⟨m0, m1, m2, m3, m4, m5, m6⟩ := hcells g5
  obtain ⟨n0, n1, n2, n3, n4, n5, n6⟩ := hcells g6
  unfold vH at HS3
  have HA := hid awake_any
  clear e7 g5 g6 t6 hq hz b06 hu6 hu5 b0 fb0 b1 fb1 b2 fb2 b3 fb3 b4 fb4 b5 fb5 b6 fb6
  go_wp2_with (first
    | (go_at_call 32; with_reducible refine HS3.out.mono ?_; rintro r w9 ⟨rfl, b9⟩)
    | (go_at_call 25; refine (HA.out _).mono ?_; rintro r w10 ⟨rfl, b10⟩))
  go_ret
  exact ⟨rfl, on HB0.out (HB8.out.trans ((on b9 b10).mono HB8.out.size))⟩

set_option maxRecDepth 100000 in
theorem lifted (os : Os) (started : os.Started) (H : Type) (enc : TypeId × Value → H) (F : Stop.Interp) :
    ReturnsInHanded {} Try.checked os 6 .any ((Rows.OpenSpec.upto Rows.shardWritesSpec).pre6 enc Try.prog Try.f6 Rows.shardWritesUptoRow.domain false) (((Rows.OpenSpec.upto Rows.shardWritesSpec).at F).post enc Try.prog Try.f6 false true false false) := by
  refine returnsInHanded_of_cond (C := Try.checked) (s := Rows.OpenSpec.upto Rows.shardWritesSpec) (k := Rows.uptoSmall) rfl own started (by kernel_rfl) Try.func6
    (OpenSpec.witness (enc := enc) (C := Try.checked) (s := Rows.OpenSpec.upto Rows.shardWritesSpec) (k := Rows.uptoSmall) rfl false ⟨#[], #[.agg #[.int .i64 0, .int .i64 0, .int .i64 0, .slice none 0 0, .slice none 0 0, .slice none 0 0, .slice none 0 0], .int .i64 0, .agg #[.int .i64 0, .int .i64 0, .int .i64 0, .string ⟨#[]⟩, .int .i64 0, .bool false, .int .i64 0, .int .i64 0, .slice none 0 0, .int .u32 0]], []⟩ 8 (by kernel_rfl) (by kernel_rfl) (by kernel_rfl)
      (x := ([.agg [.lit (.int .i64 0), .agg [.lit (.int .i64 0), .lit (.int .i64 0), .nil, .nil, .nil], .nil], .lit (.int .i64 0), .agg [.agg [.lit (.int .i64 0), .agg [.lit (.int .i64 0), .lit (.int .i64 0)], .lit (.string []), .lit (.int .i64 0), .lit (.bool false), .lit (.int .i64 0)], .agg [.lit (.int .i64 0), .nil, .lit (.int .u32 0)]]], [], [])) (by kernel_rfl) rfl (by kernel_rfl)) ?_
  intro W base args ds gs before hval0 hW _ hk0 _
  have hk : Rows.uptoBulkAll (ds ++ gs) ≤ 1048576 := of_decide_eq_true hk0
  have hval : ∀ (j : Nat) t v, Try.f6.params[j]? = some t → args[j]? = some v → Value.okWide Try.prog W .any base t v := hval0
  have hW' := hW
  obtain ⟨p, q, hA0, hV, rfl, hfz, hnd⟩ := hW
  have hA : DataW.TrodAll enc Try.prog W 0 (fun _ => true) true Try.f6.params.toList args.toList ds p := hA0
  rw [Try.params6] at hA hval
  obtain ⟨v0, vs0, d0, ds0, p0, q0, hargs, rfl, rfl, h0, r0⟩ := trodAll_cons hA
  obtain ⟨v1, vs1, d1, ds1, p1, q1, rfl, rfl, rfl, h1, r1⟩ := trodAll_cons r0
  obtain ⟨v2, vs2, d2, ds2, p2, q2, rfl, rfl, rfl, h2, r2⟩ := trodAll_cons r1
  obtain ⟨rfl, rfl, rfl⟩ := trodAll_nil r2
  obtain rfl : args = #[v0, v1, v2] := by cases args; simp_all
  obtain ⟨rfl, rfl⟩ := trodVars_none hV
  simp only [List.append_nil, Rows.uptoBulkAll] at hk
  have k0 := h0
  have lt0 : ∀ x ∈ p0, x.block < W.heap.size := by obtain ⟨m, hm⟩ := k0; exact DataW.trod_lt m _ _ _ hm
  have s0 : Rows.uptoBulk d0 ≤ 1048576 := by omega
  obtain ⟨V0, rfl, w0⟩ := Sh.holder_arg (okWide_struct Try.underlying29 (hval 0 29 v0 rfl rfl)) h0 s0
  obtain ⟨a1, rfl, rfl, rfl, w1⟩ := open_int Try.underlying3 (hval 1 3 v1 rfl rfl) h1
  have k2 := h2
  have lt2 : ∀ x ∈ p2, x.block < W.heap.size := by obtain ⟨m, hm⟩ := k2; exact DataW.trod_lt m _ _ _ hm
  have s2 : Rows.uptoBulk d2 ≤ 1048576 := by omega
  obtain ⟨V2, rfl, w2⟩ := Sh.put_arg (okWide_struct Try.underlying69 (hval 2 69 v2 rfl rfl)) h2 s2
  clear hA0 hval0
  refine (walk V0 a1 V2 W w0 w2).mono fun e W' ⟨he, bel⟩ => ?_
  subst he
  exact ⟨_, rfl, _, _, _, [], _, [], hW', trodAll_mk1 (shut_bool Try.underlying4 _), (trodAll_cons_mk (Below.trod laidOut (by kernel_rfl) (of_decide_eq_true (by kernel_rfl)) k0 bel lt0) (trodAll_cons_mk (shut_int Try.underlying3 w1) (trodAll_cons_mk (Below.trod laidOut (by kernel_rfl) (of_decide_eq_true (by kernel_rfl)) k2 bel lt2) trodAll_mk0))), rfl, bel.frame _, fun h => by cases h⟩

theorem over : Rows.shardWritesUptoRow.holds Try.pinned (Rows.OpenSpec.upto Rows.shardWritesSpec) :=
  OpenClaim.holds_of_cond 6 Try.f6 rfl rfl rfl rfl rfl rfl rfl ⟨rfl, rfl, rfl, rfl, rfl⟩ rfl rfl rfl rfl rfl (by kernel_rfl) Try.func6 (by kernel_rfl)
    (of_decide_eq_true (by kernel_rfl)) (by unfold Func.isWrapper; first | (rw [if_pos (by decide +kernel)]; kernel_rfl) | (rw [if_neg (by decide +kernel)]; exact ⟨rfl, rfl⟩))
    (fun os started H enc _ F => lifted os started H enc F)

theorem proved : Rows.ShardWritesUptoSaid := over
#print axioms proved
end Go.Proofs.Ytnfflmndejbepaa.shardWrites
