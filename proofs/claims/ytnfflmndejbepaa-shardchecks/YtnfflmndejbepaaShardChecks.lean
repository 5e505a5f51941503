/-
  ShardChecks: which holders may be, what is told of them, and which shard is of an interval.
  Conditions: none.
-/
import Derived.Test.YtnfflmndejbepaaRows
import Derived.WalkKit
import Derived.ProofKit
import Derived.OpenShut
import Derived.SizedLaws
import Derived.ShutString
import Derived.ChangeOld
import Derived.Below
import Derived.JoinedCond
import Derived.Test.YtnfflmndejbepaaJByRows
import Derived.Test.YtnfflmndejbepaaJShWrP
import Derived.ChangeMaps5
import Derived.Test.YtnfflmndejbepaaShLawP
import Derived.Test.YtnfflmndejbepaaShRInfo
import Derived.Test.YtnfflmndejbepaaShAt
import Derived.Test.YtnfflmndejbepaaShRAt
import Derived.Test.YtnfflmndejbepaaShGet
import Derived.Test.YtnfflmndejbepaaShMay4
import Derived.Test.YtnfflmndejbepaaJShRMay2
namespace Go.Proofs.Ytnfflmndejbepaa.shardChecks
open Go.ChangeShapes Go.WideShapes Go.ChangeAt Go.RowKit Go.ChangeMaps By
open Fl Sh
set_option linter.unusedVariables false
set_option linter.unusedSimpArgs false
set_option maxRecDepth 100000

theorem own : ownKnob Try.prog.godebug = none := by kernel_rfl
theorem laidOut : laidOutB Try.prog = true := by kernel_rfl

theorem errno_any (t : Bool) (w : World) : Calls Try.prog 14 #[.bool t] w fun e w' => e = .returned (.int .i64 (er t)) ∧ w' = w := by
  cases t with
  | true =>
    go_enter Try.func14, Try.ntmps14
    go_wp2_with fail
    go_ret
    exact ⟨rfl, rfl⟩
  | false =>
    go_enter Try.func14, Try.ntmps14
    go_wp2_with fail
    go_ret
    exact ⟨rfl, rfl⟩

set_option maxHeartbeats 12800000 in
theorem walk (v : HV) (x0 x1 : Int) (name : ByteArray) (w : World) (hv : HIn w v) (hn : name.size ≤ 1048576) :
    Calls Try.prog 3 #[vH v, .agg #[.int .i64 x0, .int .i64 x1], .string name] w fun e w' => e = .returned (.bool true) ∧ Below w.heap.size w w' := by
  obtain ⟨hdz⟩ := dz_some
  haveI := hdz
  obtain ⟨bb, hsz, g0, g1⟩ := two_boxes2 w (HCells v) #[.int .i64 x0, .int .i64 x1] 29 30
  obtain ⟨w0, hw0⟩ : ∃ w0, w0 = (w.alloc (.cells (HCells v) 29)).alloc (.cells #[.int .i64 x0, .int .i64 x1] 30) := ⟨_, rfl⟩
  rw [← hw0] at bb hsz g0 g1
  have HV0 := hid hv.at_
  have HB0 := hid bb
  have HKh : Hid (∀ W, Below w0.heap.size w0 W → _) := hid fun W hW => hcells ((hW.block _ (lt_heap g0)).trans g0)
  have HKa : Hid (∀ W, Below w0.heap.size w0 W → W.cell? ⟨w.heap.size + 1, 0, none⟩ = some (.int .i64 x0) ∧ W.cell? ⟨w.heap.size + 1, 1, none⟩ = some (.int .i64 x1)) := hid fun W hW => ⟨cell_heap ((hW.block _ (lt_heap g1)).trans g1) rfl, cell_heap ((hW.block _ (lt_heap g1)).trans g1) rfl⟩
  have HC1 := hid (fun W (hW : Below w0.heap.size w0 W) => at_any x0 (HV0.out.below (on bb hW)))
  have HC2 := hid (fun W (hW : Below w0.heap.size w0 W) => rat_any x0 (HV0.out.below (on bb hW)))
  have HC3 := hid (fun W (hW : Below w0.heap.size w0 W) => get_any name (HV0.out.s.below (on bb hW)))
  have HC4 := hid (fun W (hW : Below w0.heap.size w0 W) => rget_any name (HV0.out.s.below (on bb hW)))
  have HC5 := hid (fun W (hW : Below w0.heap.size w0 W) => check_any (HV0.out.below (on bb hW)))
  have HC6 := hid (fun W (hW : Below w0.heap.size w0 W) => rmay_any (HV0.out.below (on bb hW)))
  have HC7 := hid (fun W (hW : Below w0.heap.size w0 W) => checkShard_any (HV0.out.s.below (on bb hW)))
  have HC8 := hid (fun W (hW : Below w0.heap.size w0 W) => rshard_any (HV0.out.s.below (on bb hW)))
  have HC9 := hid (fun W (hW : Below w0.heap.size w0 W) => info_any x0 x1 (HV0.out.below (on bb hW)))
  have HC10 := hid (fun W (hW : Below w0.heap.size w0 W) => rinfo_any x0 x1 (HV0.out.below (on bb hW)))
  have HC11 := hid (fun W => head_any v.now W)
  have HC12 := hid (fun W (hW : Below w0.heap.size w0 W) => same_any (HV0.out.below (on bb hW)) (HV0.out.below (on bb hW)))
  rw [bz_true rfl] at HC12
  generalize atH (pH v) x0 = O at *
  generalize find name (v.now.I.map pI) = Q at *
  generalize bz (okH (pH v)) = T1 at *
  generalize bz (okS (pS v.now)) = T2 at *
  have hE1 : (er T1 != er T1) = false := by simp
  have hE2 : (er T2 != er T2) = false := by simp
  have hE := errno_any
  unfold vH at HC1 HC2 HC5 HC6 HC9 HC10 HC12 ⊢
  unfold vS at HC3 HC4 HC7 HC8 HC11
  unfold HCells at hw0
  clear hv bb hsz g0 g1
  go_enter Try.func3, Try.ntmps3
  go_upto_region 1 with (fail)
  rw [← hw0]
  clear hw0
  obtain ⟨k0, k1, k2, k3, k4, k5, k6⟩ := HKh.out w0 (Below.refl _ _)
  obtain ⟨z0, z1⟩ := HKa.out w0 (Below.refl _ _)
  have hC := HC1.out w0 (Below.refl _ _)
  go_upto_region 2 with (go_at_call 9; refine hC.mono ?_; rintro r wx1 ⟨u1, rfl, H1⟩; unfold vS; clear hC k0 k1 k2 k3 k4 k5 k6 z0 z1)
  obtain ⟨w1, hw1⟩ : ∃ w1, w1 = wx1.alloc (.cells #[.int .i64 u1.pl, .int .i64 u1.si, .slice u1.x1 u1.n1 u1.c1, .slice u1.x2 u1.n2 u1.c2, .slice u1.x3 u1.n3 u1.c3] 26) := ⟨_, rfl⟩
  have b1 : Below wx1.heap.size wx1 w1 := by rw [hw1]; exact al _ _
  have g1 : w1.heap[wx1.heap.size]? = some (.cells #[.int .i64 u1.pl, .int .i64 u1.si, .slice u1.x1 u1.n1 u1.c1, .slice u1.x2 u1.n2 u1.c2, .slice u1.x3 u1.n3 u1.c3] 26 (0, 0)) := by rw [hw1]; exact heap_alloc_new _ _
  obtain ⟨p1, hp1⟩ : ∃ p1, p1 = wx1.heap.size := ⟨_, rfl⟩
  rw [← hw1, ← hp1]
  rw [← hp1] at g1
  have HD1 := hid (on H1.out.2.2 b1)
  have HB1 := hid (HD1.out)
  have HK1 : Hid (∀ W, Below w1.heap.size w1 W → W.cell? ⟨p1, 0, none⟩ = some (.int .i64 u1.pl) ∧ W.cell? ⟨p1, 1, none⟩ = some (.int .i64 u1.si) ∧ W.cell? ⟨p1, 2, none⟩ = some (.slice u1.x1 u1.n1 u1.c1) ∧ W.cell? ⟨p1, 3, none⟩ = some (.slice u1.x2 u1.n2 u1.c2) ∧ W.cell? ⟨p1, 4, none⟩ = some (.slice u1.x3 u1.n3 u1.c3)) := hid fun W hW => ⟨cell_heap ((hW.block _ (lt_heap g1)).trans g1) rfl, cell_heap ((hW.block _ (lt_heap g1)).trans g1) rfl, cell_heap ((hW.block _ (lt_heap g1)).trans g1) rfl, cell_heap ((hW.block _ (lt_heap g1)).trans g1) rfl, cell_heap ((hW.block _ (lt_heap g1)).trans g1) rfl⟩
  have HU1 := hid (And.intro (H1.out.1.below b1) H1.out.2.1)
  clear hw1 b1 g1 hp1 H1
  obtain ⟨k0, k1, k2, k3, k4, k5, k6⟩ := HKh.out w1 HB1.out
  obtain ⟨z0, z1⟩ := HKa.out w1 HB1.out
  have hC := HC2.out w1 HB1.out
  go_upto_region 3 with (go_at_call 10; refine hC.mono ?_; rintro r wx2 ⟨u2, rfl, H2⟩; unfold vS; clear hC k0 k1 k2 k3 k4 k5 k6 z0 z1)
  obtain ⟨w2, hw2⟩ : ∃ w2, w2 = wx2.alloc (.cells #[.int .i64 u2.pl, .int .i64 u2.si, .slice u2.x1 u2.n1 u2.c1, .slice u2.x2 u2.n2 u2.c2, .slice u2.x3 u2.n3 u2.c3] 26) := ⟨_, rfl⟩
  have b2 : Below wx2.heap.size wx2 w2 := by rw [hw2]; exact al _ _
  have g2 : w2.heap[wx2.heap.size]? = some (.cells #[.int .i64 u2.pl, .int .i64 u2.si, .slice u2.x1 u2.n1 u2.c1, .slice u2.x2 u2.n2 u2.c2, .slice u2.x3 u2.n3 u2.c3] 26 (0, 0)) := by rw [hw2]; exact heap_alloc_new _ _
  obtain ⟨p2, hp2⟩ : ∃ p2, p2 = wx2.heap.size := ⟨_, rfl⟩
  rw [← hw2, ← hp2]
  rw [← hp2] at g2
  have HD2 := hid (on H2.out.2.2 b2)
  have HB2 := hid (on HB1.out HD2.out)
  have HK2 : Hid (∀ W, Below w2.heap.size w2 W → W.cell? ⟨p2, 0, none⟩ = some (.int .i64 u2.pl) ∧ W.cell? ⟨p2, 1, none⟩ = some (.int .i64 u2.si) ∧ W.cell? ⟨p2, 2, none⟩ = some (.slice u2.x1 u2.n1 u2.c1) ∧ W.cell? ⟨p2, 3, none⟩ = some (.slice u2.x2 u2.n2 u2.c2) ∧ W.cell? ⟨p2, 4, none⟩ = some (.slice u2.x3 u2.n3 u2.c3)) := hid fun W hW => ⟨cell_heap ((hW.block _ (lt_heap g2)).trans g2) rfl, cell_heap ((hW.block _ (lt_heap g2)).trans g2) rfl, cell_heap ((hW.block _ (lt_heap g2)).trans g2) rfl, cell_heap ((hW.block _ (lt_heap g2)).trans g2) rfl, cell_heap ((hW.block _ (lt_heap g2)).trans g2) rfl⟩
  have HU2 := hid (And.intro (H2.out.1.below b2) H2.out.2.1)
  clear hw2 b2 g2 hp2 H2
  obtain ⟨k0, k1, k2, k3, k4, k5, k6⟩ := HKh.out w2 HB2.out
  have hC := HC3.out w2 HB2.out
  go_upto_region 4 with (go_at_call 11; refine hC.mono ?_; rintro r wx3 ⟨u3, rfl, H3⟩; unfold vC; clear hC k0 k1 k2 k3 k4 k5 k6)
  obtain ⟨w3, hw3⟩ : ∃ w3, w3 = wx3.alloc (.cells #[.int .i64 u3.sz, .slice u3.x u3.n u3.c, .int .u32 u3.sum] 36) := ⟨_, rfl⟩
  have b3 : Below wx3.heap.size wx3 w3 := by rw [hw3]; exact al _ _
  have g3 : w3.heap[wx3.heap.size]? = some (.cells #[.int .i64 u3.sz, .slice u3.x u3.n u3.c, .int .u32 u3.sum] 36 (0, 0)) := by rw [hw3]; exact heap_alloc_new _ _
  obtain ⟨p3, hp3⟩ : ∃ p3, p3 = wx3.heap.size := ⟨_, rfl⟩
  rw [← hw3, ← hp3]
  rw [← hp3] at g3
  have HD3 := hid (on H3.out.2.2 b3)
  have HB3 := hid (on HB2.out HD3.out)
  have HK3 : Hid (∀ W, Below w3.heap.size w3 W → W.cell? ⟨p3, 0, none⟩ = some (.int .i64 u3.sz) ∧ W.cell? ⟨p3, 1, none⟩ = some (.slice u3.x u3.n u3.c) ∧ W.cell? ⟨p3, 2, none⟩ = some (.int .u32 u3.sum)) := hid fun W hW => ⟨cell_heap ((hW.block _ (lt_heap g3)).trans g3) rfl, cell_heap ((hW.block _ (lt_heap g3)).trans g3) rfl, cell_heap ((hW.block _ (lt_heap g3)).trans g3) rfl⟩
  have HU3 := hid (And.intro (H3.out.1.below b3) H3.out.2.1)
  clear hw3 b3 g3 hp3 H3
  obtain ⟨k0, k1, k2, k3, k4, k5, k6⟩ := HKh.out w3 HB3.out
  have hC := HC4.out w3 HB3.out
  go_upto_region 5 with (go_at_call 12; refine hC.mono ?_; rintro r wx4 ⟨u4, rfl, H4⟩; unfold vC; clear hC k0 k1 k2 k3 k4 k5 k6)
  obtain ⟨w4, hw4⟩ : ∃ w4, w4 = wx4.alloc (.cells #[.int .i64 u4.sz, .slice u4.x u4.n u4.c, .int .u32 u4.sum] 36) := ⟨_, rfl⟩
  have b4 : Below wx4.heap.size wx4 w4 := by rw [hw4]; exact al _ _
  have g4 : w4.heap[wx4.heap.size]? = some (.cells #[.int .i64 u4.sz, .slice u4.x u4.n u4.c, .int .u32 u4.sum] 36 (0, 0)) := by rw [hw4]; exact heap_alloc_new _ _
  obtain ⟨p4, hp4⟩ : ∃ p4, p4 = wx4.heap.size := ⟨_, rfl⟩
  rw [← hw4, ← hp4]
  rw [← hp4] at g4
  have HD4 := hid (on H4.out.2.2 b4)
  have HB4 := hid (on HB3.out HD4.out)
  have HK4 : Hid (∀ W, Below w4.heap.size w4 W → W.cell? ⟨p4, 0, none⟩ = some (.int .i64 u4.sz) ∧ W.cell? ⟨p4, 1, none⟩ = some (.slice u4.x u4.n u4.c) ∧ W.cell? ⟨p4, 2, none⟩ = some (.int .u32 u4.sum)) := hid fun W hW => ⟨cell_heap ((hW.block _ (lt_heap g4)).trans g4) rfl, cell_heap ((hW.block _ (lt_heap g4)).trans g4) rfl, cell_heap ((hW.block _ (lt_heap g4)).trans g4) rfl⟩
  have HU4 := hid (And.intro (H4.out.1.below b4) H4.out.2.1)
  clear hw4 b4 g4 hp4 H4
  haveI := After.ne w4
  obtain ⟨k0, k1, k2, k3, k4, k5, k6⟩ := HKh.out w4 HB4.out
  replace k0 := After.cell k0
  replace k1 := After.cell k1
  replace k2 := After.cell k2
  replace k3 := After.cell k3
  replace k4 := After.cell k4
  replace k5 := After.cell k5
  replace k6 := After.cell k6
  obtain ⟨a0, a1, a2, a3, a4⟩ := HK1.out w4 (on HD2.out (on HD3.out HD4.out))
  replace a0 := After.cell a0
  replace a1 := After.cell a1
  replace a2 := After.cell a2
  replace a3 := After.cell a3
  replace a4 := After.cell a4
  obtain ⟨b0, b1, b2, b3, b4⟩ := HK2.out w4 (on HD3.out HD4.out)
  replace b0 := After.cell b0
  replace b1 := After.cell b1
  replace b2 := After.cell b2
  replace b3 := After.cell b3
  replace b4 := After.cell b4
  obtain ⟨c0, c1, c2⟩ := HK3.out w4 HD4.out
  replace c0 := After.cell c0
  replace c1 := After.cell c1
  replace c2 := After.cell c2
  obtain ⟨d0, d1, d2⟩ := HK4.out w4 (Below.refl _ _)
  replace d0 := After.cell d0
  replace d1 := After.cell d1
  replace d2 := After.cell d2
  have h5 := fun p : After w4 => HC5.out p.W (on HB4.out p.h)
  have h6 := fun p : After w4 => HC6.out p.W (on HB4.out p.h)
  have h7 := fun p : After w4 => HC7.out p.W (on HB4.out p.h)
  have h8 := fun p : After w4 => HC8.out p.W (on HB4.out p.h)
  have hS := fun p : After w4 => rsameShard_any (w := p.W) (HU1.out.1.below (on HD2.out (on HD3.out (on HD4.out p.h)))) (HU2.out.1.below (on HD3.out (on HD4.out p.h)))
  have hC := fun p : After w4 => rsameChunk_any (w := p.W) (HU3.out.1.below (on HD4.out p.h)) (HU4.out.1.below p.h)
  rw [bz_true (HU1.out.2.trans HU2.out.2.symm)] at hS
  rw [bz_true (HU3.out.2.trans HU4.out.2.symm)] at hC
  unfold vS at hS
  unfold vC at hC
  generalize O.isSome = t1 at *
  generalize Q.isSome = t2 at *
  have hE3 : (t1 != t1) = false := by simp
  have hE4 : (t2 != t2) = false := by simp
  go_upto_region 5 with (fail)
  refine wp_region_after (by kernel_rfl) (by kernel_rfl) ?_
  repeat (go_big_quiet_step (first
    | (go_at_call 13; refine Calls.after_of (h5 _))
    | (go_at_call 15; refine Calls.after_of (h6 _))
    | (go_at_call 16; refine Calls.after_of (h7 _))
    | (go_at_call 17; refine Calls.after_of (h8 _))
    | (go_at_call 14; refine Calls.after_same (hE _ _))
    | (go_at_call 18; refine Calls.after_of (hS _))
    | (go_at_call 19; refine Calls.after_of (hC _))))
  refine wpQuiet_nil ?_
  rintro _ ⟨Z, rfl⟩
  clear h5 h6 h7 h8 hS hC hE1 hE2 hE3 hE4 hE k0 k1 k2 k3 k4 k5 k6 a0 a1 a2 a3 a4 b0 b1 b2 b3 b4 c0 c1 c2 d0 d1 d2
  go_upto_region 7 with (fail)
  have HS : Hid (∀ W, Below w0.heap.size w0 W → W.cell? ⟨w.heap.size, 0, none⟩ = some (.int .i64 v.fe) ∧ W.cell? ⟨w.heap.size, 1, none⟩ = some (.int .i64 v.now.pl) ∧ W.cell? ⟨w.heap.size, 2, none⟩ = some (.int .i64 v.now.si) ∧ W.cell? ⟨w.heap.size, 3, none⟩ = some (.slice v.now.x1 v.now.n1 v.now.c1) ∧ W.cell? ⟨w.heap.size, 4, none⟩ = some (.slice v.now.x2 v.now.n2 v.now.c2) ∧ W.cell? ⟨w.heap.size, 5, none⟩ = some (.slice v.now.x3 v.now.n3 v.now.c3) ∧ W.cell? ⟨w.heap.size, 6, none⟩ = some (.slice v.x v.n v.c) ∧ W.cell? ⟨w.heap.size + 1, 0, none⟩ = some (.int .i64 x0) ∧ W.cell? ⟨w.heap.size + 1, 1, none⟩ = some (.int .i64 x1)) := hid fun W hW => ⟨(HKh.out W hW).1, (HKh.out W hW).2.1, (HKh.out W hW).2.2.1, (HKh.out W hW).2.2.2.1, (HKh.out W hW).2.2.2.2.1, (HKh.out W hW).2.2.2.2.2.1, (HKh.out W hW).2.2.2.2.2.2, (HKa.out W hW).1, (HKa.out W hW).2⟩
  have bD : Below w0.heap.size w0 Z.W.drew := on (on HB4.out Z.h) (Below.refl _ _).drew
  refine wp_region_tail (fun W => W.cell? ⟨w.heap.size, 0, none⟩ = some (.int .i64 v.fe) ∧ W.cell? ⟨w.heap.size, 1, none⟩ = some (.int .i64 v.now.pl) ∧ W.cell? ⟨w.heap.size, 2, none⟩ = some (.int .i64 v.now.si) ∧ W.cell? ⟨w.heap.size, 3, none⟩ = some (.slice v.now.x1 v.now.n1 v.now.c1) ∧ W.cell? ⟨w.heap.size, 4, none⟩ = some (.slice v.now.x2 v.now.n2 v.now.c2) ∧ W.cell? ⟨w.heap.size, 5, none⟩ = some (.slice v.now.x3 v.now.n3 v.now.c3) ∧ W.cell? ⟨w.heap.size, 6, none⟩ = some (.slice v.x v.n v.c) ∧ W.cell? ⟨w.heap.size + 1, 0, none⟩ = some (.int .i64 x0) ∧ W.cell? ⟨w.heap.size + 1, 1, none⟩ = some (.int .i64 x1)) [] (by kernel_rfl) (HS.out _ bD) (fun hS => ?_)
  have HBD := hid bD
  clear bD
  generalize Z.W.drew = wD at *
  refine By.tk 0 ?_
  refine By.tk 1 ?_
  refine By.tk 2 ?_
  refine By.tk 3 ?_
  refine By.tk 4 ?_
  refine By.tk 6 ?_
  refine By.tk 7 ?_
  refine By.tk 8 ?_
  refine By.tk 9 ?_
  refine By.tk 10 ?_
  refine wpAnyT_one (i := 5) (by kernel_rfl) rfl (fun K hK => ?_)
  go_simp
  refine (HC9.out wD HBD.out).mono ?_
  rintro r wE ⟨xx, cx, rfl, HE⟩
  have HBE := hid (on HBD.out HE.out.2)
  have S1 := HS.out wE HBE.out
  clear hS
  refine hK.out _ _ (fun _ => S1) ?_
  clear hK K
  refine wpAnyT_one (i := 11) (by kernel_rfl) rfl (fun K hK => ?_)
  go_simp
  refine (HC10.out wE HBE.out).mono ?_
  rintro r wF ⟨xy, cy, rfl, HF⟩
  have HBF := hid (on HBE.out HF.out.2)
  have S2 := HS.out wF HBF.out
  clear S1
  refine hK.out _ _ (fun _ => S2) ?_
  clear hK K
  refine wpAnyT_one (i := 12) (by kernel_rfl) rfl (fun K hK => ?_)
  go_simp
  refine (rsameInfo_yes x0 x1 v.now.si v.now.n2 (HE.out.1.below HF.out.2) HF.out.1).mono ?_
  rintro r wG ⟨rfl, bG⟩
  have HBG := hid (on HBF.out bG)
  have S3 := HS.out wG HBG.out
  clear S2 bG
  refine hK.out _ _ (fun _ => S3) ?_
  clear hK K
  refine By.tk 13 ?_
  refine By.tk 14 ?_
  refine By.tk 15 ?_
  refine By.tk 17 ?_
  refine By.tk 18 ?_
  refine By.tk 19 ?_
  refine By.tk 20 ?_
  refine wpAnyT_one (i := 16) (by kernel_rfl) rfl (fun K hK => ?_)
  go_simp
  refine (HC11.out wG).mono ?_
  rintro r wI ⟨rfl, bI⟩
  have HBI := hid (on HBG.out bI)
  have S4 := HS.out wI HBI.out
  clear S3 bI
  refine hK.out _ _ (fun _ => S4) ?_
  clear hK K
  refine By.tk 21 ?_
  refine By.tk 22 ?_
  refine By.tk 23 ?_
  refine By.tk 24 ?_
  refine By.tk 25 ?_
  refine wpAnyT_one (i := 26) (by kernel_rfl) rfl (fun K hK => ?_)
  go_simp
  refine (HC12.out wI HBI.out).mono ?_
  rintro r wJ ⟨rfl, bJ⟩
  have HBJ := hid (on HBI.out bJ)
  have S5 := HS.out wJ HBJ.out
  clear S4 bJ
  refine hK.out _ _ (fun _ => S5) ?_
  clear hK K
  refine By.tk 27 ?_
  refine By.tk 28 ?_
  refine wpAnyT_one (i := 29) (by kernel_rfl) rfl (fun K hK => ?_)
  go_simp
  refine (awake_any wJ).mono ?_
  rintro r wL ⟨rfl, bL⟩
  have HBL := hid (on HBJ.out bL)
  have S6 := HS.out wL HBL.out
  clear S5 bL
  refine hK.out _ _ (fun _ => S6) ?_
  clear hK K
  refine By.tk 30 ?_
  refine By.tk 31 ?_
  refine wpAnyT_done (by kernel_rfl) ?_ _
  go_wp2_with fail
  go_ret
  exact ⟨rfl, on HB0.out HBL.out⟩

set_option maxRecDepth 100000 in
theorem lifted (os : Os) (started : os.Started) (H : Type) (enc : TypeId × Value → H) (F : Stop.Interp) :
    ReturnsInHanded {} Try.checked os 3 .any ((Rows.OpenSpec.upto Rows.shardChecksSpec).pre6 enc Try.prog Try.f3 Rows.shardChecksUptoRow.domain false) (((Rows.OpenSpec.upto Rows.shardChecksSpec).at F).post enc Try.prog Try.f3 false true false false) := by
  refine returnsInHanded_of_cond (C := Try.checked) (s := Rows.OpenSpec.upto Rows.shardChecksSpec) (k := Rows.uptoSmall) rfl own started (by kernel_rfl) Try.func3
    (OpenSpec.witness (enc := enc) (C := Try.checked) (s := Rows.OpenSpec.upto Rows.shardChecksSpec) (k := Rows.uptoSmall) rfl false ⟨#[], #[.agg #[.int .i64 0, .int .i64 0, .int .i64 0, .slice none 0 0, .slice none 0 0, .slice none 0 0, .slice none 0 0], .agg #[.int .i64 0, .int .i64 0], .string ⟨#[]⟩], []⟩ 8 (by kernel_rfl) (by kernel_rfl) (by kernel_rfl)
      (x := ([.agg [.lit (.int .i64 0), .agg [.lit (.int .i64 0), .lit (.int .i64 0), .nil, .nil, .nil], .nil], .agg [.lit (.int .i64 0), .lit (.int .i64 0)], .lit (.string [])], [], [])) (by kernel_rfl) rfl (by kernel_rfl)) ?_
  intro W base args ds gs before hval0 hW _ hk0 _
  have hk : Rows.uptoBulkAll (ds ++ gs) ≤ 1048576 := of_decide_eq_true hk0
  have hval : ∀ (j : Nat) t v, Try.f3.params[j]? = some t → args[j]? = some v → Value.okWide Try.prog W .any base t v := hval0
  have hW' := hW
  obtain ⟨p, q, hA0, hV, rfl, hfz, hnd⟩ := hW
  have hA : DataW.TrodAll enc Try.prog W 0 (fun _ => true) true Try.f3.params.toList args.toList ds p := hA0
  rw [Try.params3] at hA hval
  obtain ⟨v0, vs0, d0, ds0, p0, q0, hargs, rfl, rfl, h0, r0⟩ := trodAll_cons hA
  obtain ⟨v1, vs1, d1, ds1, p1, q1, rfl, rfl, rfl, h1, r1⟩ := trodAll_cons r0
  obtain ⟨v2, vs2, d2, ds2, p2, q2, rfl, rfl, rfl, h2, r2⟩ := trodAll_cons r1
  obtain ⟨rfl, rfl, rfl⟩ := trodAll_nil r2
  obtain rfl : args = #[v0, v1, v2] := by cases args; simp_all
  obtain ⟨rfl, rfl⟩ := trodVars_none hV
  simp only [List.append_nil, Rows.uptoBulkAll] at hk
  have k0 := h0
  have lt0 : ∀ x ∈ p0, x.block < W.heap.size := by obtain ⟨m, hm⟩ := k0; exact DataW.trod_lt m _ _ _ hm
  have s0 : Rows.uptoBulk d0 ≤ 1048576 := by omega
  obtain ⟨V0, rfl, w0⟩ := Sh.holder_arg (okWide_struct Try.underlying29 (hval 0 29 v0 rfl rfl)) h0 s0
  have k1 := h1
  have lt1 : ∀ x ∈ p1, x.block < W.heap.size := by obtain ⟨m, hm⟩ := k1; exact DataW.trod_lt m _ _ _ hm
  have s1 : Rows.uptoBulk d1 ≤ 1048576 := by omega
  obtain ⟨V1, U1, rfl⟩ := Sh.two_in (Sh.okWide_array Try.underlying30 (hval 1 30 v1 rfl rfl)) h1
  obtain ⟨a2, rfl, rfl, rfl, w2⟩ := open_string Try.underlying9 (hval 2 9 v2 rfl rfl) h2
  have s2 : a2.size ≤ 1048576 := by have e : a2.data.toList.length = a2.size := Array.length_toList; simp only [Rows.uptoBulk] at hk; omega
  clear hA0 hval0
  refine (walk V0 V1 U1 a2 W w0 s2).mono fun e W' ⟨he, bel⟩ => ?_
  subst he
  exact ⟨_, rfl, _, _, _, [], _, [], hW', trodAll_mk1 (shut_bool Try.underlying4 _), (trodAll_cons_mk (Below.trod laidOut (by kernel_rfl) (of_decide_eq_true (by kernel_rfl)) k0 bel lt0) (trodAll_cons_mk (Below.trod laidOut (by kernel_rfl) (of_decide_eq_true (by kernel_rfl)) k1 bel lt1) (trodAll_cons_mk (shut_string Try.underlying9 w2) trodAll_mk0))), rfl, bel.frame _, fun h => by cases h⟩

theorem over : Rows.shardChecksUptoRow.holds Try.pinned (Rows.OpenSpec.upto Rows.shardChecksSpec) :=
  OpenClaim.holds_of_cond 3 Try.f3 rfl rfl rfl rfl rfl rfl rfl ⟨rfl, rfl, rfl, rfl, rfl⟩ rfl rfl rfl rfl rfl (by kernel_rfl) Try.func3 (by kernel_rfl)
    (of_decide_eq_true (by kernel_rfl)) (by unfold Func.isWrapper; first | (rw [if_pos (by decide +kernel)]; kernel_rfl) | (rw [if_neg (by decide +kernel)]; exact ⟨rfl, rfl⟩))
    (fun os started H enc _ F => lifted os started H enc F)

theorem proved : Rows.ShardChecksUptoSaid := over
#print axioms proved
end Go.Proofs.Ytnfflmndejbepaa.shardChecks
