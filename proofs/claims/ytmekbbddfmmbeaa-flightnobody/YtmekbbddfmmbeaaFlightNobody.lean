/-
  A flight that nobody made, nil or the zero one, has nothing on its way: 'mooringlaw10.FlightNobody' returns true and leaves its argument as it was.
  Conditions: none.
-/
import Derived.Test.YtmekbbddfmmbeaaRows
import Derived.WalkKit
import Derived.ProofKit
import Derived.OpenShut
import Derived.SizedLaws
import Derived.ShutString
import Derived.ChangeOld
import Derived.Below
import Derived.Test.YtmekbbddfmmbeaaByRows
import Derived.Test.YtmekbbddfmmbeaaFlItem
import Derived.Test.YtmekbbddfmmbeaaFlNobody
namespace Go.Proofs.Ytmekbbddfmmbeaa.flightNobody
open Go.ChangeShapes Go.WideShapes Go.ChangeAt Go.RowKit By
open Fl
set_option linter.unusedVariables false
set_option linter.unusedSimpArgs false
set_option maxRecDepth 100000

theorem own : ownKnob Try.prog.godebug = none := by kernel_rfl
theorem laidOut : laidOutB Try.prog = true := by kernel_rfl

set_option maxHeartbeats 2000000 in
set_option maxRecDepth 100000 in
theorem walk (V : ActV) (w : World) (h : ActIn w V) :
    Calls Try.prog 6 #[.agg #[.int .i64 V.do_, .int .i64 V.a, .int .i64 V.b, .slice V.x V.n V.c]] w fun e w' => e = .returned (.bool true) ∧ Below w.heap.size w w' := by
  obtain ⟨D, a, b, x, n, c, d⟩ := V
  simp only
  clear h
  have hn : ∀ w, Void none w := fun _ => .inl rfl
  have HB : Hid (Below w.heap.size w (((((w.alloc (.cells #[.int .i64 D, .int .i64 a, .int .i64 b, .slice x n c] 33)).alloc (.cells #[.int .i64 a] 3)).alloc (.cells #[.slice none 0 0, .map none] 49)).alloc (.cells #[.int .i64 a] 3)))) := by
    refine Below.alloc (Below.alloc (Below.alloc (Below.alloc (Below.refl _ _) (Nat.le_refl _) _) ?_ _) ?_ _) ?_ _
    all_goals (simp; try omega)
  go_enter Try.func6, Try.ntmps6
  go_wp2_with fail
  refine wp_loop_rounds 3 ?_
  rw [rounds_succ]
  go_wp2_with (first
    | (go_at_call 19; refine (vpart (hn _) _ _).mono ?_; rintro e w' ⟨rfl, hw⟩; subst w')
    | (go_at_call 20; refine (vheal (hn _)).mono ?_; rintro e w' ⟨rfl, hw⟩; subst w')
    | (go_at_call 13; refine (vlook (hn _)).mono ?_; rintro e w' ⟨rfl, hw⟩; subst w')
    | (go_at_call 15; refine (vdeliver (hn _)).mono ?_; rintro e w' ⟨rfl, hw⟩; subst w')
    | (go_at_call 17; refine (vpost (hn _) _ _ _ _ _).mono ?_; rintro e w' ⟨rfl, hw⟩; subst w')
    | (go_at_call 10; refine (vlen (hn _)).mono ?_; rintro e w' ⟨rfl, hw⟩; subst w')
    | (go_at_call 18; refine (vdrop (hn _)).mono ?_; rintro e w' ⟨rfl, hw⟩; subst w')
    | (go_at_call 16; refine (vtwice (hn _)).mono ?_; rintro e w' ⟨rfl, hw⟩; subst w')
    | (go_at_call 11; refine (vparted (hn _) _ _).mono ?_; rintro e w' ⟨rfl, hw⟩; subst w')
    | (go_at_call 21; refine (vclear (hn _) _).mono ?_; rintro e w' ⟨rfl, hw⟩; subst w'))
  have hz : Void (some ⟨w.heap.size + 1 + 1, 0, none⟩) (((w.alloc (.cells #[.int .i64 D, .int .i64 a, .int .i64 b, .slice x n c] 33)).alloc (.cells #[.int .i64 a] 3)).alloc (.cells #[.slice none 0 0, .map none] 49)) := by
    have key : ∀ W : World, Void (some ⟨W.heap.size, 0, none⟩) (W.alloc (.cells #[.slice none 0 0, .map none] 49)) := fun W => .inr ⟨W.heap.size, rfl, by simp, by simp⟩
    have := key ((w.alloc (.cells #[.int .i64 D, .int .i64 a, .int .i64 b, .slice x n c] 33)).alloc (.cells #[.int .i64 a] 3))
    rwa [show ((w.alloc (.cells #[.int .i64 D, .int .i64 a, .int .i64 b, .slice x n c] 33)).alloc (.cells #[.int .i64 a] 3)).heap.size = w.heap.size + 1 + 1 by simp] at this
  rw [rounds_succ]
  go_wp2_with (first
    | (go_at_call 19; refine (vpart hz _ _).mono ?_; rintro e w' ⟨rfl, hw⟩; subst w')
    | (go_at_call 20; refine (vheal hz).mono ?_; rintro e w' ⟨rfl, hw⟩; subst w')
    | (go_at_call 13; refine (vlook hz).mono ?_; rintro e w' ⟨rfl, hw⟩; subst w')
    | (go_at_call 15; refine (vdeliver hz).mono ?_; rintro e w' ⟨rfl, hw⟩; subst w')
    | (go_at_call 17; refine (vpost hz _ _ _ _ _).mono ?_; rintro e w' ⟨rfl, hw⟩; subst w')
    | (go_at_call 10; refine (vlen hz).mono ?_; rintro e w' ⟨rfl, hw⟩; subst w')
    | (go_at_call 18; refine (vdrop hz).mono ?_; rintro e w' ⟨rfl, hw⟩; subst w')
    | (go_at_call 16; refine (vtwice hz).mono ?_; rintro e w' ⟨rfl, hw⟩; subst w')
    | (go_at_call 11; refine (vparted hz _ _).mono ?_; rintro e w' ⟨rfl, hw⟩; subst w')
    | (go_at_call 21; refine (vclear hz _).mono ?_; rintro e w' ⟨rfl, hw⟩; subst w'))
  rw [rounds_succ]
  go_wp2_with (go_at_call 14; refine (awake_any _).mono ?_; rintro e w5 ⟨rfl, hb5⟩)
  go_ret
  exact ⟨rfl, HB.out.trans (hb5.mono HB.out.size)⟩

set_option maxRecDepth 100000 in
theorem lifted (os : Os) (started : os.Started) (H : Type) (enc : TypeId × Value → H) :
    ReturnsInHanded {} Try.checked os 6 .any (Rows.flightNobodySpec.pre6 enc Try.prog Try.f6 Rows.flightNobodyRow.domain false) (Rows.flightNobodySpec.post enc Try.prog Try.f6 false true false false) := by
  refine returnsInHanded_of_change_sized (C := Try.checked) own started (by kernel_rfl) Try.func6
    (ChangeSpec.witness6 (enc := enc) (C := Try.checked) false ⟨#[], #[.agg #[.int .i64 0, .int .i64 0, .int .i64 0, .slice none 0 0]], []⟩ 8 (by kernel_rfl) (by kernel_rfl) (by kernel_rfl) (by kernel_rfl)) ?_
  intro W base args ds gs before hval0 hW hcnd hsz0 _
  have hsz : (DataW.weightsEach Try.prog (Try.f6.params.toList ++ Rows.flightNobodySpec.plain.varTypes Try.prog) (ds ++ gs)).all (· ≤ reachBytes) = true := hsz0
  have hval : ∀ (j : Nat) t v, Try.f6.params[j]? = some t → args[j]? = some v → Value.okWide Try.prog W .any base t v := hval0
  have hW' := hW
  obtain ⟨p, q, hA0, hV, rfl, hfz, hnd⟩ := hW
  have hA : DataW.TrodAll enc Try.prog W 0 (fun _ => true) true Try.f6.params.toList args.toList ds p := hA0
  rw [Try.params6] at hA hval hsz
  obtain ⟨v0, vs0, d0, ds0, p0, q0, hargs, rfl, rfl, h0, r0⟩ := trodAll_cons hA
  obtain ⟨rfl, rfl, rfl⟩ := trodAll_nil r0
  obtain rfl : args = #[v0] := by cases args; simp_all
  obtain ⟨rfl, rfl⟩ := trodVars_none hV
  have k0 := h0
  have lt0 : ∀ x ∈ p0, x.block < W.heap.size := by obtain ⟨m, hm⟩ := k0; exact DataW.trod_lt m _ _ _ hm
  have s0 : ∀ x ∈ d0.weights Try.prog 33, x ≤ reachBytes := fun x hx => by
    have := List.all_eq_true.1 hsz x (DataW.weights_mem_each (j := 0) rfl rfl x hx)
    simpa using this
  obtain ⟨V0, rfl, w0⟩ := act_in (okWide_struct Try.underlying33 (hval 0 33 v0 rfl rfl)) h0 s0
  clear hA0 hval0
  refine (walk V0 W w0).mono fun e W' ⟨he, bel⟩ => ?_
  subst he
  exact ⟨_, rfl, _, _, _, [], _, [], hW', trodAll_mk1 (shut_bool Try.underlying4 _), (trodAll_cons_mk (Below.trod laidOut (by kernel_rfl) (of_decide_eq_true (by kernel_rfl)) k0 bel lt0) trodAll_mk0), rfl, bel.frame _, fun h => by cases h⟩

theorem over : Rows.flightNobodyRow.holds Try.pinned (OpenSpec.ofChange Rows.flightNobodySpec) :=
  OpenClaim.holds_of_wide 6 Try.f6 rfl rfl rfl rfl rfl rfl rfl ⟨rfl, rfl, rfl, rfl, rfl⟩ rfl rfl rfl rfl rfl (by kernel_rfl) Try.func6 (by kernel_rfl)
    (of_decide_eq_true (by kernel_rfl)) (by unfold Func.isWrapper; first | (rw [if_pos (by decide +kernel)]; kernel_rfl) | (rw [if_neg (by decide +kernel)]; exact ⟨rfl, rfl⟩))
    (fun os started H enc _ => lifted os started H enc)

theorem proved : Rows.FlightNobodySaid := over
#print axioms proved
end Go.Proofs.Ytmekbbddfmmbeaa.flightNobody
