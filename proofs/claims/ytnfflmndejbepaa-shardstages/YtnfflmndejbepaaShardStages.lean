/-
  ShardStages: what comes of any holder that is asked, or to which a shard is staged.
  Conditions: none.
-/
import Derived.Test.YtnfflmndejbepaaRows
import Derived.WalkKit
import Derived.ProofKit
import Derived.OpenShut
import Derived.SizedLaws
import Derived.ShutString
import Derived.ChangeOld
import Derived.Below
import Derived.JoinedCond
import Derived.Test.YtnfflmndejbepaaJByRows
import Derived.Test.YtnfflmndejbepaaJShWrP
import Derived.ChangeMaps5
import Derived.Test.YtnfflmndejbepaaShLawP
namespace Go.Proofs.Ytnfflmndejbepaa.shardStages
open Go.ChangeShapes Go.WideShapes Go.ChangeAt Go.RowKit Go.ChangeMaps By
open Fl Sh
set_option linter.unusedVariables false
set_option linter.unusedSimpArgs false
set_option maxRecDepth 100000

theorem own : ownKnob Try.prog.godebug = none := by kernel_rfl
theorem laidOut : laidOutB Try.prog = true := by kernel_rfl

set_option maxHeartbeats 12800000 in
theorem walk (v : HV) (s : SV) (since : Int) (w : World) (hv : HIn w v) (hs : SIn w (fun _ => True) s) :
    Calls Try.prog 5 #[vH v, vS s, .int .i64 since] w fun e w' => e = .returned (.bool true) ∧ Below w.heap.size w w' := by
  obtain ⟨hdz⟩ := dz_some
  haveI := hdz
  obtain ⟨bb, hsz, g0, g1⟩ := two_boxes2 w (HCells v) (SCells s) 29 26
  obtain ⟨w0, hw0⟩ : ∃ w0, w0 = (w.alloc (.cells (HCells v) 29)).alloc (.cells (SCells s) 26) := ⟨_, rfl⟩
  rw [← hw0] at bb hsz g0 g1
  have HV0 := hid (And.intro hv.at_.lt hs.1.lt)
  have HB0 := hid bb
  have HKh : Hid (∀ W, Below w0.heap.size w0 W → _) := hid fun W hW => hcells ((hW.block _ (lt_heap g0)).trans g0)
  have HKs : Hid (∀ W, Below w0.heap.size w0 W → _) := hid fun W hW => scells ((hW.block _ (lt_heap g1)).trans g1)
  have HC1 := hid (fun W (hW : Below w0.heap.size w0 W) => l_ask (B := w.heap.size) since (HV0.out.1.below (on bb hW)))
  have HC2 := hid (fun W (hW : Below w0.heap.size w0 W) => l_rask since (HV0.out.1.below (on bb hW)))
  have HC3 := hid (fun W (hW : Below w0.heap.size w0 W) => l_stage (B := w.heap.size) (HV0.out.1.below (on bb hW)) (HV0.out.2.below (on bb hW)))
  have HC4 := hid (fun W (hW : Below w0.heap.size w0 W) => l_rstage (HV0.out.1.below (on bb hW)) (HV0.out.2.below (on bb hW)))
  generalize askP (pH v) since = P1 at *
  generalize stageP (pH v) (pS s) = P2 at *
  unfold vH at HC1 HC2 HC3 HC4 ⊢
  unfold vS at HC3 HC4 ⊢
  unfold HCells SCells at hw0
  clear hv hs bb hsz g0 g1
  go_enter Try.func5, Try.ntmps5
  go_upto_region 1 with (fail)
  rw [← hw0]
  clear hw0
  obtain ⟨k0, k1, k2, k3, k4, k5, k6⟩ := HKh.out w0 (Below.refl _ _)
  have hC := HC1.out w0 (Below.refl _ _)
  go_upto_region 2 with (go_at_call 28; refine hC.mono ?_; rintro r wx1 ⟨u1, rfl, H1⟩; unfold vH; clear hC k0 k1 k2 k3 k4 k5 k6)
  obtain ⟨w1, hw1⟩ : ∃ w1, w1 = wx1.alloc (.cells #[.int .i64 u1.fe, .int .i64 u1.now.pl, .int .i64 u1.now.si, .slice u1.now.x1 u1.now.n1 u1.now.c1, .slice u1.now.x2 u1.now.n2 u1.now.c2, .slice u1.now.x3 u1.now.n3 u1.now.c3, .slice u1.x u1.n u1.c] 29) := ⟨_, rfl⟩
  have b1 : Below wx1.heap.size wx1 w1 := by rw [hw1]; exact al _ _
  have g1 : w1.heap[wx1.heap.size]? = some (.cells (HCells u1) 29 (0, 0)) := by rw [hw1]; exact heap_alloc_new _ _
  obtain ⟨p1, hp1⟩ : ∃ p1, p1 = wx1.heap.size := ⟨_, rfl⟩
  rw [← hw1, ← hp1]
  rw [← hp1] at g1
  have HB1 := hid (on H1.out.2.2 b1)
  have HG1 := hid g1
  have HK1 : Hid (∀ W, Below w1.heap.size w1 W → _) := hid fun W hW => hcells ((hW.block _ (lt_heap g1)).trans g1)
  have HU1 := hid (And.intro (H1.out.1.below b1) H1.out.2.1)
  have HP1 := hid (And.intro (show p1 < w1.heap.size from lt_heap g1) (show w0.heap.size ≤ p1 by rw [hp1]; exact H1.out.2.2.size))
  clear hw1 b1 g1 hp1 H1
  obtain ⟨k0, k1, k2, k3, k4, k5, k6⟩ := HKh.out w1 HB1.out
  have hC := HC2.out w1 HB1.out
  go_upto_region 3 with (go_at_call 29; refine hC.mono ?_; rintro r wx2 ⟨u2, rfl, H2⟩; unfold vH; clear hC k0 k1 k2 k3 k4 k5 k6)
  obtain ⟨w2, hw2⟩ : ∃ w2, w2 = wx2.alloc (.cells #[.int .i64 u2.fe, .int .i64 u2.now.pl, .int .i64 u2.now.si, .slice u2.now.x1 u2.now.n1 u2.now.c1, .slice u2.now.x2 u2.now.n2 u2.now.c2, .slice u2.now.x3 u2.now.n3 u2.now.c3, .slice u2.x u2.n u2.c] 29) := ⟨_, rfl⟩
  have b2 : Below wx2.heap.size wx2 w2 := by rw [hw2]; exact al _ _
  have g2 : w2.heap[wx2.heap.size]? = some (.cells (HCells u2) 29 (0, 0)) := by rw [hw2]; exact heap_alloc_new _ _
  obtain ⟨p2, hp2⟩ : ∃ p2, p2 = wx2.heap.size := ⟨_, rfl⟩
  rw [← hw2, ← hp2]
  rw [← hp2] at g2
  have HB2 := hid (on H2.out.2.2 b2)
  have HG2 := hid g2
  have HK2 : Hid (∀ W, Below w2.heap.size w2 W → _) := hid fun W hW => hcells ((hW.block _ (lt_heap g2)).trans g2)
  have HU2 := hid (And.intro (H2.out.1.below b2) H2.out.2.1)
  have HP2 := hid (And.intro (show p2 < w2.heap.size from lt_heap g2) (show w1.heap.size ≤ p2 by rw [hp2]; exact H2.out.2.2.size))
  clear hw2 b2 g2 hp2 H2
  obtain ⟨k0, k1, k2, k3, k4, k5, k6⟩ := HKh.out w2 (on HB1.out HB2.out)
  obtain ⟨e0, e1, e2, e3, e4⟩ := HKs.out w2 (on HB1.out HB2.out)
  have hC := HC3.out w2 (on HB1.out HB2.out)
  go_upto_region 4 with (go_at_call 30; refine hC.mono ?_; rintro r wx3 ⟨u3, rfl, H3⟩; unfold vH; clear hC k0 k1 k2 k3 k4 k5 k6 e0 e1 e2 e3 e4)
  obtain ⟨w3, hw3⟩ : ∃ w3, w3 = wx3.alloc (.cells #[.int .i64 u3.fe, .int .i64 u3.now.pl, .int .i64 u3.now.si, .slice u3.now.x1 u3.now.n1 u3.now.c1, .slice u3.now.x2 u3.now.n2 u3.now.c2, .slice u3.now.x3 u3.now.n3 u3.now.c3, .slice u3.x u3.n u3.c] 29) := ⟨_, rfl⟩
  have b3 : Below wx3.heap.size wx3 w3 := by rw [hw3]; exact al _ _
  have g3 : w3.heap[wx3.heap.size]? = some (.cells (HCells u3) 29 (0, 0)) := by rw [hw3]; exact heap_alloc_new _ _
  obtain ⟨p3, hp3⟩ : ∃ p3, p3 = wx3.heap.size := ⟨_, rfl⟩
  rw [← hw3, ← hp3]
  rw [← hp3] at g3
  have HB3 := hid (on H3.out.2.2 b3)
  have HG3 := hid g3
  have HK3 : Hid (∀ W, Below w3.heap.size w3 W → _) := hid fun W hW => hcells ((hW.block _ (lt_heap g3)).trans g3)
  have HU3 := hid (And.intro (H3.out.1.below b3) H3.out.2.1)
  have HP3 := hid (And.intro (show p3 < w3.heap.size from lt_heap g3) (show w2.heap.size ≤ p3 by rw [hp3]; exact H3.out.2.2.size))
  clear hw3 b3 g3 hp3 H3
  obtain ⟨k0, k1, k2, k3, k4, k5, k6⟩ := HKh.out w3 (on (on HB1.out HB2.out) HB3.out)
  obtain ⟨e0, e1, e2, e3, e4⟩ := HKs.out w3 (on (on HB1.out HB2.out) HB3.out)
  have hC := HC4.out w3 (on (on HB1.out HB2.out) HB3.out)
  go_upto_region 5 with (go_at_call 31; refine hC.mono ?_; rintro r wx4 ⟨u4, rfl, H4⟩; unfold vH; clear hC k0 k1 k2 k3 k4 k5 k6 e0 e1 e2 e3 e4)
  obtain ⟨w4, hw4⟩ : ∃ w4, w4 = wx4.alloc (.cells #[.int .i64 u4.fe, .int .i64 u4.now.pl, .int .i64 u4.now.si, .slice u4.now.x1 u4.now.n1 u4.now.c1, .slice u4.now.x2 u4.now.n2 u4.now.c2, .slice u4.now.x3 u4.now.n3 u4.now.c3, .slice u4.x u4.n u4.c] 29) := ⟨_, rfl⟩
  have b4 : Below wx4.heap.size wx4 w4 := by rw [hw4]; exact al _ _
  have g4 : w4.heap[wx4.heap.size]? = some (.cells (HCells u4) 29 (0, 0)) := by rw [hw4]; exact heap_alloc_new _ _
  obtain ⟨p4, hp4⟩ : ∃ p4, p4 = wx4.heap.size := ⟨_, rfl⟩
  rw [← hw4, ← hp4]
  rw [← hp4] at g4
  have HB4 := hid (on H4.out.2.2 b4)
  have HG4 := hid g4
  have HK4 : Hid (∀ W, Below w4.heap.size w4 W → _) := hid fun W hW => hcells ((hW.block _ (lt_heap g4)).trans g4)
  have HU4 := hid (And.intro (H4.out.1.below b4) H4.out.2.1)
  have HP4 := hid (And.intro (show p4 < w4.heap.size from lt_heap g4) (show w3.heap.size ≤ p4 by rw [hp4]; exact H4.out.2.2.size))
  clear hw4 b4 g4 hp4 H4
  obtain ⟨m10, m11, m12, m13, m14, m15, m16⟩ := HK1.out w4 (on (on HB2.out HB3.out) HB4.out)
  obtain ⟨m20, m21, m22, m23, m24, m25, m26⟩ := HK2.out w4 (on HB3.out HB4.out)
  obtain ⟨m30, m31, m32, m33, m34, m35, m36⟩ := HK3.out w4 HB4.out
  obtain ⟨m40, m41, m42, m43, m44, m45, m46⟩ := HK4.out w4 (Below.refl _ _)
  have HS1 := hid (fun W (hW : Below w4.heap.size w4 W) => same_yes (z := P1.2) ((HU1.out.1.below (on (on HB2.out HB3.out) HB4.out)).below hW) ((HU2.out.1.below (on HB3.out HB4.out)).below hW) (HU1.out.2.trans HU2.out.2.symm))
  have HS2 := hid (fun W (hW : Below w4.heap.size w4 W) => same_yes (z := P2.2) ((HU3.out.1.below HB4.out).below hW) (HU4.out.1.below hW) (HU3.out.2.trans HU4.out.2.symm))
  unfold vH at HS1 HS2
  have HA := hid awake_any
  go_wp2_with (first
    | (go_at_call 32; with_reducible refine (HS1.out _ (Below.refl _ _)).mono ?_; rintro r w5 ⟨rfl, b5⟩; replace m30 := keep b5 m30; replace m31 := keep b5 m31; replace m32 := keep b5 m32; replace m33 := keep b5 m33; replace m34 := keep b5 m34; replace m35 := keep b5 m35; replace m36 := keep b5 m36; replace m40 := keep b5 m40; replace m41 := keep b5 m41; replace m42 := keep b5 m42; replace m43 := keep b5 m43; replace m44 := keep b5 m44; replace m45 := keep b5 m45; replace m46 := keep b5 m46; clear HS1)
    | (go_at_call 32; with_reducible refine (HS2.out _ b5).mono ?_; rintro r w6 ⟨rfl, b6⟩; clear HS2)
    | (go_at_call 25; refine (HA.out _).mono ?_; rintro r w7 ⟨rfl, b7⟩))
  go_ret
  exact ⟨rfl, on (on (on (on (on HB0.out HB1.out) HB2.out) HB3.out) HB4.out) (on b5 (on b6 b7))⟩

set_option maxRecDepth 100000 in
theorem lifted (os : Os) (started : os.Started) (H : Type) (enc : TypeId × Value → H) (F : Stop.Interp) :
    ReturnsInHanded {} Try.checked os 5 .any ((Rows.OpenSpec.upto Rows.shardStagesSpec).pre6 enc Try.prog Try.f5 Rows.shardStagesUptoRow.domain false) (((Rows.OpenSpec.upto Rows.shardStagesSpec).at F).post enc Try.prog Try.f5 false true false false) := by
  refine returnsInHanded_of_cond (C := Try.checked) (s := Rows.OpenSpec.upto Rows.shardStagesSpec) (k := Rows.uptoSmall) rfl own started (by kernel_rfl) Try.func5
    (OpenSpec.witness (enc := enc) (C := Try.checked) (s := Rows.OpenSpec.upto Rows.shardStagesSpec) (k := Rows.uptoSmall) rfl false ⟨#[], #[.agg #[.int .i64 0, .int .i64 0, .int .i64 0, .slice none 0 0, .slice none 0 0, .slice none 0 0, .slice none 0 0], .agg #[.int .i64 0, .int .i64 0, .slice none 0 0, .slice none 0 0, .slice none 0 0], .int .i64 0], []⟩ 8 (by kernel_rfl) (by kernel_rfl) (by kernel_rfl)
      (x := ([.agg [.lit (.int .i64 0), .agg [.lit (.int .i64 0), .lit (.int .i64 0), .nil, .nil, .nil], .nil], .agg [.lit (.int .i64 0), .lit (.int .i64 0), .nil, .nil, .nil], .lit (.int .i64 0)], [], [])) (by kernel_rfl) rfl (by kernel_rfl)) ?_
  intro W base args ds gs before hval0 hW _ hk0 _
  have hk : Rows.uptoBulkAll (ds ++ gs) ≤ 1048576 := of_decide_eq_true hk0
  have hval : ∀ (j : Nat) t v, Try.f5.params[j]? = some t → args[j]? = some v → Value.okWide Try.prog W .any base t v := hval0
  have hW' := hW
  obtain ⟨p, q, hA0, hV, rfl, hfz, hnd⟩ := hW
  have hA : DataW.TrodAll enc Try.prog W 0 (fun _ => true) true Try.f5.params.toList args.toList ds p := hA0
  rw [Try.params5] at hA hval
  obtain ⟨v0, vs0, d0, ds0, p0, q0, hargs, rfl, rfl, h0, r0⟩ := trodAll_cons hA
  obtain ⟨v1, vs1, d1, ds1, p1, q1, rfl, rfl, rfl, h1, r1⟩ := trodAll_cons r0
  obtain ⟨v2, vs2, d2, ds2, p2, q2, rfl, rfl, rfl, h2, r2⟩ := trodAll_cons r1
  obtain ⟨rfl, rfl, rfl⟩ := trodAll_nil r2
  obtain rfl : args = #[v0, v1, v2] := by cases args; simp_all
  obtain ⟨rfl, rfl⟩ := trodVars_none hV
  simp only [List.append_nil, Rows.uptoBulkAll] at hk
  have k0 := h0
  have lt0 : ∀ x ∈ p0, x.block < W.heap.size := by obtain ⟨m, hm⟩ := k0; exact DataW.trod_lt m _ _ _ hm
  have s0 : Rows.uptoBulk d0 ≤ 1048576 := by omega
  obtain ⟨V0, rfl, w0⟩ := Sh.holder_arg (okWide_struct Try.underlying29 (hval 0 29 v0 rfl rfl)) h0 s0
  have k1 := h1
  have lt1 : ∀ x ∈ p1, x.block < W.heap.size := by obtain ⟨m, hm⟩ := k1; exact DataW.trod_lt m _ _ _ hm
  have s1 : Rows.uptoBulk d1 ≤ 1048576 := by omega
  obtain ⟨V1, rfl, w1⟩ := Sh.shard_arg (okWide_struct Try.underlying26 (hval 1 26 v1 rfl rfl)) h1 s1
  obtain ⟨a2, rfl, rfl, rfl, w2⟩ := open_int Try.underlying3 (hval 2 3 v2 rfl rfl) h2
  clear hA0 hval0
  refine (walk V0 V1 a2 W w0 w1).mono fun e W' ⟨he, bel⟩ => ?_
  subst he
  exact ⟨_, rfl, _, _, _, [], _, [], hW', trodAll_mk1 (shut_bool Try.underlying4 _), (trodAll_cons_mk (Below.trod laidOut (by kernel_rfl) (of_decide_eq_true (by kernel_rfl)) k0 bel lt0) (trodAll_cons_mk (Below.trod laidOut (by kernel_rfl) (of_decide_eq_true (by kernel_rfl)) k1 bel lt1) (trodAll_cons_mk (shut_int Try.underlying3 w2) trodAll_mk0))), rfl, bel.frame _, fun h => by cases h⟩

theorem over : Rows.shardStagesUptoRow.holds Try.pinned (Rows.OpenSpec.upto Rows.shardStagesSpec) :=
  OpenClaim.holds_of_cond 5 Try.f5 rfl rfl rfl rfl rfl rfl rfl ⟨rfl, rfl, rfl, rfl, rfl⟩ rfl rfl rfl rfl rfl (by kernel_rfl) Try.func5 (by kernel_rfl)
    (of_decide_eq_true (by kernel_rfl)) (by unfold Func.isWrapper; first | (rw [if_pos (by decide +kernel)]; kernel_rfl) | (rw [if_neg (by decide +kernel)]; exact ⟨rfl, rfl⟩))
    (fun os started H enc _ F => lifted os started H enc F)

theorem proved : Rows.ShardStagesUptoSaid := over
#print axioms proved
end Go.Proofs.Ytnfflmndejbepaa.shardStages
