/-
  PeerTells: which interval any info has, or lacks.
  Conditions: none.
-/
import Derived.Test.YtgcjecmgjncclaaRows
import Derived.WalkKit
import Derived.ProofKit
import Derived.OpenShut
import Derived.SizedLaws
import Derived.ShutString
import Derived.ChangeOld
import Derived.Below
import Derived.Test.YtgcjecmgjncclaaByRows
import Derived.Test.YtgcjecmgjncclaaPeItem
import Derived.Test.YtgcjecmgjncclaaPeAwake
namespace Go.Proofs.Ytgcjecmgjncclaa.peerTells
open Go.ChangeShapes Go.WideShapes Go.ChangeAt Go.RowKit By
open Fl Pz Pe
attribute [local go_sem] Oper.semAt_some
set_option linter.unusedVariables false
set_option linter.unusedSimpArgs false
set_option maxRecDepth 100000

theorem own : ownKnob Try.prog.godebug = none := by kernel_rfl
theorem laidOut : laidOutB Try.prog = true := by kernel_rfl

theorem has_lacks {x : Itv} {i : Inf} (h : (hasI x i).isSome = true) : lacks x i = false := by
  unfold lacks
  cases e : hasI x i with
  | none => rw [e] at h; cases h
  | some z => simp

set_option maxHeartbeats 6400000 in
theorem walk (v : JV) (u : FV) (w : World) (hv : JAt w (fun _ => True) v) (hu : FIn w (fun _ => True) u) :
    Calls Try.prog 3 #[vJ v, vF u] w fun e w' => e = .returned (.bool true) ∧ Below w.heap.size w w' := by
  obtain ⟨w1, hw1⟩ : ∃ w1, w1 = (w.alloc (.cells (JCells v) 24)).alloc (.cells (FCells u) 27) := ⟨_, rfl⟩
  obtain ⟨bb, hsz, g0, g1⟩ := two_boxes2 w (JCells v) (FCells u) 24 27
  rw [← hw1] at bb hsz g0 g1
  have HB := hid bb
  have HJ : Hid (∀ W, Below w1.heap.size w1 W → JAt W (fun _ => True) v) := hid fun W hW => hv.below (on bb hW)
  have HF : Hid (∀ W, Below w1.heap.size w1 W → FAt W (fun _ => True) u) := hid fun W hW => FAt.below hu.1 (on bb hW)
  have HKj : Hid (∀ W, Below w1.heap.size w1 W → W.heap[w.heap.size]? = some (.cells (JCells v) 24 (0, 0))) := hid fun W hW => (hW.block _ (lt_heap g0)).trans g0
  have HKf : Hid (∀ W, Below w1.heap.size w1 W → W.heap[w.heap.size + 1]? = some (.cells (FCells u) 27 (0, 0))) := hid fun W hW => (hW.block _ (lt_heap g1)).trans g1
  have C1 : Hid (∀ W, Below w1.heap.size w1 W → _) := hid fun W hW => phas_any (HJ.out W hW) (HF.out W hW)
  have C2 : Hid (∀ W, Below w1.heap.size w1 W → _) := hid fun W hW => has_any (HJ.out W hW) (HF.out W hW)
  have C3 : Hid (∀ W, Below w1.heap.size w1 W → _) := hid fun W hW => placks_any (HJ.out W hW) (HF.out W hW)
  have C4 : Hid (∀ W, Below w1.heap.size w1 W → _) := hid fun W hW => lacks_any (HJ.out W hW) (HF.out W hW)
  have HL := hid (has_lacks (x := pJ v) (i := pF u))
  generalize (hasI (pJ v) (pF u)).getD 0 = z at *
  generalize (hasI (pJ v) (pF u)).isSome = s at *
  generalize lacks (pJ v) (pF u) = l at *
  have hs : s = true → l = false := HL.out
  unfold JCells FCells at hw1
  unfold vJ vF at C1 C2 C3 C4 ⊢
  clear hv hu bb hsz g0 g1 HL HJ HF
  go_enter Try.func3, Try.ntmps3
  go_upto_region 1 with (fail)
  rw [← hw1]
  clear hw1
  obtain ⟨p0, p1, p2, p3, p4, p5⟩ := jcells (HKj.out w1 (Below.refl _ _))
  obtain ⟨q0, q1, q2, q3, q4⟩ := fcells (HKf.out w1 (Below.refl _ _))
  go_upto_region 3 with (first
    | (go_at_call 8; refine (C1.out w1 (Below.refl _ _)).mono ?_; rintro e wa ⟨rfl, hb⟩; have HBa := hid hb; obtain ⟨a0, a1, a2, a3, a4, a5⟩ := jcells (HKj.out wa hb); obtain ⟨b0, b1, b2, b3, b4⟩ := fcells (HKf.out wa hb); clear hb p0 p1 p2 p3 p4 p5 q0 q1 q2 q3 q4)
    | (go_at_call 9; refine (C2.out wa HBa.out).mono ?_; rintro e wb ⟨rfl, hb⟩; have HBb := hid (on HBa.out hb); clear hb a0 a1 a2 a3 a4 a5 b0 b1 b2 b3 b4))
  obtain ⟨p0, p1, p2, p3, p4, p5⟩ := jcells (HKj.out wb HBb.out)
  obtain ⟨q0, q1, q2, q3, q4⟩ := fcells (HKf.out wb HBb.out)
  have p0 := After.cell p0
  have p1 := After.cell p1
  have p2 := After.cell p2
  have p3 := After.cell p3
  have p4 := After.cell p4
  have p5 := After.cell p5
  have q0 := After.cell q0
  have q1 := After.cell q1
  have q2 := After.cell q2
  have q3 := After.cell q3
  have q4 := After.cell q4
  have c3 := fun p : After wb => C3.out p.W (on HBb.out p.h)
  have c4 := fun p : After wb => C4.out p.W (on HBb.out p.h)
  have cA := fun p : After wb => awake_any p.W
  haveI := After.ne wb
  cases s with
  | true =>
    obtain rfl : l = false := hs rfl
    refine wp_region_after (by kernel_rfl) (by kernel_rfl) ?_
    repeat (go_big_quiet_step ((first
      | (go_at_call 10; with_reducible refine Calls.after_of (c3 _))
      | (go_at_call 11; with_reducible refine Calls.after_of (c4 _))
      | (go_at_call 12; with_reducible refine Calls.after_of (cA _)))))
    refine wpQuiet_nil ?_
    rintro _ ⟨q, rfl⟩
    go_wp2_with fail
    go_ret
    exact ⟨rfl, on HB.out (on HBb.out q.h)⟩
  | false =>
    cases l <;> (
      refine wp_region_after (by kernel_rfl) (by kernel_rfl) ?_
      repeat (go_big_quiet_step ((first
        | (go_at_call 10; with_reducible refine Calls.after_of (c3 _))
        | (go_at_call 11; with_reducible refine Calls.after_of (c4 _))
        | (go_at_call 12; with_reducible refine Calls.after_of (cA _)))))
      refine wpQuiet_nil ?_
      rintro _ ⟨q, rfl⟩
      go_wp2_with fail
      go_ret
      exact ⟨rfl, on HB.out (on HBb.out q.h)⟩)

set_option maxRecDepth 100000 in
theorem lifted (os : Os) (started : os.Started) (H : Type) (enc : TypeId × Value → H) :
    ReturnsInHanded {} Try.checked os 3 .any (Rows.peerTellsSpec.pre6 enc Try.prog Try.f3 Rows.peerTellsRow.domain false) (Rows.peerTellsSpec.post enc Try.prog Try.f3 false true false false) := by
  refine returnsInHanded_of_change_sized (C := Try.checked) own started (by kernel_rfl) Try.func3
    (ChangeSpec.witness6 (enc := enc) (C := Try.checked) false ⟨#[], #[.agg #[.int .i64 0, .int .i64 0, .slice none 0 0, .slice none 0 0, .slice none 0 0, .int .i64 0], .agg #[.int .i64 0, .int .i64 0, .int .i64 0, .int .i64 0, .slice none 0 0]], []⟩ 8 (by kernel_rfl) (by kernel_rfl) (by kernel_rfl) (by kernel_rfl)) ?_
  intro W base args ds gs before hval0 hW hcnd hsz0 _
  have hsz : (DataW.weightsEach Try.prog (Try.f3.params.toList ++ Rows.peerTellsSpec.plain.varTypes Try.prog) (ds ++ gs)).all (· ≤ reachBytes) = true := hsz0
  have hval : ∀ (j : Nat) t v, Try.f3.params[j]? = some t → args[j]? = some v → Value.okWide Try.prog W .any base t v := hval0
  have hW' := hW
  obtain ⟨p, q, hA0, hV, rfl, hfz, hnd⟩ := hW
  have hA : DataW.TrodAll enc Try.prog W 0 (fun _ => true) true Try.f3.params.toList args.toList ds p := hA0
  rw [Try.params3] at hA hval hsz
  obtain ⟨v0, vs0, d0, ds0, p0, q0, hargs, rfl, rfl, h0, r0⟩ := trodAll_cons hA
  obtain ⟨v1, vs1, d1, ds1, p1, q1, rfl, rfl, rfl, h1, r1⟩ := trodAll_cons r0
  obtain ⟨rfl, rfl, rfl⟩ := trodAll_nil r1
  obtain rfl : args = #[v0, v1] := by cases args; simp_all
  obtain ⟨rfl, rfl⟩ := trodVars_none hV
  have k0 := h0
  have lt0 : ∀ x ∈ p0, x.block < W.heap.size := by obtain ⟨m, hm⟩ := k0; exact DataW.trod_lt m _ _ _ hm
  have s0 : ∀ x ∈ d0.weights Try.prog 24, x ≤ reachBytes := fun x hx => by
    have := List.all_eq_true.1 hsz x (DataW.weights_mem_each (j := 0) rfl rfl x hx)
    simpa using this
  obtain ⟨V0, rfl, w0⟩ := Pe.itv_arg (okWide_struct Try.underlying24 (hval 0 24 v0 rfl rfl)) h0 s0
  have k1 := h1
  have lt1 : ∀ x ∈ p1, x.block < W.heap.size := by obtain ⟨m, hm⟩ := k1; exact DataW.trod_lt m _ _ _ hm
  have s1 : ∀ x ∈ d1.weights Try.prog 27, x ≤ reachBytes := fun x hx => by
    have := List.all_eq_true.1 hsz x (DataW.weights_mem_each (j := 1) rfl rfl x hx)
    simpa using this
  obtain ⟨V1, rfl, w1⟩ := Pe.info_arg (okWide_struct Try.underlying27 (hval 1 27 v1 rfl rfl)) h1 s1
  clear hA0 hval0
  refine (walk V0 V1 W w0 w1).mono fun e W' ⟨he, bel⟩ => ?_
  subst he
  exact ⟨_, rfl, _, _, _, [], _, [], hW', trodAll_mk1 (shut_bool Try.underlying4 _), (trodAll_cons_mk (Below.trod laidOut (by kernel_rfl) (of_decide_eq_true (by kernel_rfl)) k0 bel lt0) (trodAll_cons_mk (Below.trod laidOut (by kernel_rfl) (of_decide_eq_true (by kernel_rfl)) k1 bel lt1) trodAll_mk0)), rfl, bel.frame _, fun h => by cases h⟩

theorem over : Rows.peerTellsRow.holds Try.pinned (OpenSpec.ofChange Rows.peerTellsSpec) :=
  OpenClaim.holds_of_wide 3 Try.f3 rfl rfl rfl rfl rfl rfl rfl ⟨rfl, rfl, rfl, rfl, rfl⟩ rfl rfl rfl rfl rfl (by kernel_rfl) Try.func3 (by kernel_rfl)
    (of_decide_eq_true (by kernel_rfl)) (by unfold Func.isWrapper; first | (rw [if_pos (by decide +kernel)]; kernel_rfl) | (rw [if_neg (by decide +kernel)]; exact ⟨rfl, rfl⟩))
    (fun os started H enc _ => lifted os started H enc)

theorem proved : Rows.PeerTellsSaid := over
#print axioms proved
end Go.Proofs.Ytgcjecmgjncclaa.peerTells
