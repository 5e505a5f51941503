/-
  ShardBacks: what comes of any shard of which the last entries are taken back.
  Conditions: none.
-/
import Derived.Test.YtnfflmndejbepaaRows
import Derived.WalkKit
import Derived.ProofKit
import Derived.OpenShut
import Derived.SizedLaws
import Derived.ShutString
import Derived.ChangeOld
import Derived.Below
import Derived.JoinedCond
import Derived.Test.YtnfflmndejbepaaJByRows
import Derived.Test.YtnfflmndejbepaaJShWrP
import Derived.ChangeMaps5
import Derived.Test.YtnfflmndejbepaaShLawP
namespace Go.Proofs.Ytnfflmndejbepaa.shardBacks
open Go.ChangeShapes Go.WideShapes Go.ChangeAt Go.RowKit Go.ChangeMaps By
open Fl Sh
set_option linter.unusedVariables false
set_option linter.unusedSimpArgs false
set_option maxRecDepth 100000

theorem own : ownKnob Try.prog.godebug = none := by kernel_rfl
theorem laidOut : laidOutB Try.prog = true := by kernel_rfl

set_option maxHeartbeats 6400000 in
theorem walk (v : SV) (head : Int) (w : World) (hv : SIn w (fun _ => True) v) :
    Calls Try.prog 4 #[vS v, .int .i64 head] w fun e w' => e = .returned (.bool true) ∧ Below w.heap.size w w' := by
  obtain ⟨hdz⟩ := dz_some
  haveI := hdz
  obtain ⟨w1, hw1⟩ : ∃ w1, w1 = w.alloc (.cells (SCells v) 26) := ⟨_, rfl⟩
  have b1 : Below w.heap.size w w1 := by rw [hw1]; exact al _ _
  have g0 : w1.heap[w.heap.size]? = some (.cells (SCells v) 26 (0, 0)) := by rw [hw1]; exact heap_alloc_new _ _
  have hC1 := back_any head (hv.1.below b1) (by have := hv.2.1; have := hv.2.2.2; omega)
  have HC2 := hid (fun W (hW : Below w1.heap.size w1 W) => rback_any head (hv.1.below (on b1 hW)) (by have := hv.2.1; have := hv.2.2.2; omega))
  have HB := hid b1
  have HK : Hid (∀ W, Below w1.heap.size w1 W → _) := hid fun W hW => scells ((hW.block _ (lt_heap g0)).trans g0)
  generalize backP (pS v) head = PP at *
  obtain ⟨k0, k1, k2, k3, k4⟩ := HK.out w1 (Below.refl _ _)
  have HW := hid hw1
  clear b1 g0 hv
  unfold vS at hC1 HC2 ⊢
  unfold SCells at hw1
  go_enter Try.func4, Try.ntmps4
  go_upto_region 1 with (fail)
  rw [← hw1]
  clear hw1
  go_upto_region 2 with (go_at_call 26; refine hC1.mono ?_; rintro r w2 ⟨s, rfl, H2⟩; unfold vS; clear hC1 k0 k1 k2 k3 k4)
  obtain ⟨w3, hw3⟩ : ∃ w3, w3 = w2.alloc (.cells #[.int .i64 s.pl, .int .i64 s.si, .slice s.x1 s.n1 s.c1, .slice s.x2 s.n2 s.c2, .slice s.x3 s.n3 s.c3] 26) := ⟨_, rfl⟩
  have b3 : Below w2.heap.size w2 w3 := by rw [hw3]; exact al _ _
  have g3 : w3.heap[w2.heap.size]? = some (.cells (SCells s) 26 (0, 0)) := by rw [hw3]; exact heap_alloc_new _ _
  have HB3 := hid (on H2.out.2.2 b3)
  have HK3 : Hid (∀ W, Below w3.heap.size w3 W → _) := hid fun W hW => scells ((hW.block _ (lt_heap g3)).trans g3)
  have HS := hid (And.intro (H2.out.1.below b3) H2.out.2.1)
  rw [← hw3]
  clear hw3 b3 g3 H2
  obtain ⟨k0, k1, k2, k3, k4⟩ := HK.out w3 HB3.out
  have hC2 := HC2.out w3 HB3.out
  go_upto_region 3 with (go_at_call 27; refine hC2.mono ?_; rintro r w4 ⟨t, rfl, H4⟩; unfold vS; clear hC2 k0 k1 k2 k3 k4)
  obtain ⟨w5, hw5⟩ : ∃ w5, w5 = w4.alloc (.cells #[.int .i64 t.pl, .int .i64 t.si, .slice t.x1 t.n1 t.c1, .slice t.x2 t.n2 t.c2, .slice t.x3 t.n3 t.c3] 26) := ⟨_, rfl⟩
  have b5 : Below w4.heap.size w4 w5 := by rw [hw5]; exact al _ _
  have g5 : w5.heap[w4.heap.size]? = some (.cells (SCells t) 26 (0, 0)) := by rw [hw5]; exact heap_alloc_new _ _
  have HB5 := hid (on H4.out.2.2 b5)
  have hSm := rsameShard_any (HS.out.1.below HB5.out) (H4.out.1.below b5)
  rw [bz_true (HS.out.2.trans H4.out.2.1.symm)] at hSm
  unfold vS at hSm
  obtain ⟨m0, m1, m2, m3, m4⟩ := HK3.out w5 HB5.out
  obtain ⟨n0, n1, n2, n3, n4⟩ := scells g5
  rw [← hw5]
  clear hw5 b5 g5 H4
  have HA := hid awake_any
  go_wp2_with (first
    | (go_at_call 18; refine hSm.mono ?_; rintro r w6 ⟨rfl, b6⟩; clear hSm)
    | (go_at_call 25; refine (HA.out _).mono ?_; rintro r w7 ⟨rfl, b7⟩))
  go_ret
  exact ⟨rfl, on HB.out (on HB3.out (on HB5.out (on b6 b7)))⟩


set_option maxRecDepth 100000 in
theorem lifted (os : Os) (started : os.Started) (H : Type) (enc : TypeId × Value → H) (F : Stop.Interp) :
    ReturnsInHanded {} Try.checked os 4 .any ((Rows.OpenSpec.upto Rows.shardBacksSpec).pre6 enc Try.prog Try.f4 Rows.shardBacksUptoRow.domain false) (((Rows.OpenSpec.upto Rows.shardBacksSpec).at F).post enc Try.prog Try.f4 false true false false) := by
  refine returnsInHanded_of_cond (C := Try.checked) (s := Rows.OpenSpec.upto Rows.shardBacksSpec) (k := Rows.uptoSmall) rfl own started (by kernel_rfl) Try.func4
    (OpenSpec.witness (enc := enc) (C := Try.checked) (s := Rows.OpenSpec.upto Rows.shardBacksSpec) (k := Rows.uptoSmall) rfl false ⟨#[], #[.agg #[.int .i64 0, .int .i64 0, .slice none 0 0, .slice none 0 0, .slice none 0 0], .int .i64 0], []⟩ 8 (by kernel_rfl) (by kernel_rfl) (by kernel_rfl)
      (x := ([.agg [.lit (.int .i64 0), .lit (.int .i64 0), .nil, .nil, .nil], .lit (.int .i64 0)], [], [])) (by kernel_rfl) rfl (by kernel_rfl)) ?_
  intro W base args ds gs before hval0 hW _ hk0 _
  have hk : Rows.uptoBulkAll (ds ++ gs) ≤ 1048576 := of_decide_eq_true hk0
  have hval : ∀ (j : Nat) t v, Try.f4.params[j]? = some t → args[j]? = some v → Value.okWide Try.prog W .any base t v := hval0
  have hW' := hW
  obtain ⟨p, q, hA0, hV, rfl, hfz, hnd⟩ := hW
  have hA : DataW.TrodAll enc Try.prog W 0 (fun _ => true) true Try.f4.params.toList args.toList ds p := hA0
  rw [Try.params4] at hA hval
  obtain ⟨v0, vs0, d0, ds0, p0, q0, hargs, rfl, rfl, h0, r0⟩ := trodAll_cons hA
  obtain ⟨v1, vs1, d1, ds1, p1, q1, rfl, rfl, rfl, h1, r1⟩ := trodAll_cons r0
  obtain ⟨rfl, rfl, rfl⟩ := trodAll_nil r1
  obtain rfl : args = #[v0, v1] := by cases args; simp_all
  obtain ⟨rfl, rfl⟩ := trodVars_none hV
  simp only [List.append_nil, Rows.uptoBulkAll] at hk
  have k0 := h0
  have lt0 : ∀ x ∈ p0, x.block < W.heap.size := by obtain ⟨m, hm⟩ := k0; exact DataW.trod_lt m _ _ _ hm
  have s0 : Rows.uptoBulk d0 ≤ 1048576 := by omega
  obtain ⟨V0, rfl, w0⟩ := Sh.shard_arg (okWide_struct Try.underlying26 (hval 0 26 v0 rfl rfl)) h0 s0
  obtain ⟨a1, rfl, rfl, rfl, w1⟩ := open_int Try.underlying3 (hval 1 3 v1 rfl rfl) h1
  clear hA0 hval0
  refine (walk V0 a1 W w0).mono fun e W' ⟨he, bel⟩ => ?_
  subst he
  exact ⟨_, rfl, _, _, _, [], _, [], hW', trodAll_mk1 (shut_bool Try.underlying4 _), (trodAll_cons_mk (Below.trod laidOut (by kernel_rfl) (of_decide_eq_true (by kernel_rfl)) k0 bel lt0) (trodAll_cons_mk (shut_int Try.underlying3 w1) trodAll_mk0)), rfl, bel.frame _, fun h => by cases h⟩

theorem over : Rows.shardBacksUptoRow.holds Try.pinned (Rows.OpenSpec.upto Rows.shardBacksSpec) :=
  OpenClaim.holds_of_cond 4 Try.f4 rfl rfl rfl rfl rfl rfl rfl ⟨rfl, rfl, rfl, rfl, rfl⟩ rfl rfl rfl rfl rfl (by kernel_rfl) Try.func4 (by kernel_rfl)
    (of_decide_eq_true (by kernel_rfl)) (by unfold Func.isWrapper; first | (rw [if_pos (by decide +kernel)]; kernel_rfl) | (rw [if_neg (by decide +kernel)]; exact ⟨rfl, rfl⟩))
    (fun os started H enc _ F => lifted os started H enc F)

theorem proved : Rows.ShardBacksUptoSaid := over
#print axioms proved
end Go.Proofs.Ytnfflmndejbepaa.shardBacks
