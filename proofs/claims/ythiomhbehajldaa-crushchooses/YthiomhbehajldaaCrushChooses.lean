/-
  Who of any map is chosen by any rule, place by place, is who the document says (of a map that may be only where it has at most 24 OSDs and the rule asks for at most 12): 'mooringlaw17.CrushChooses' returns true and leaves its arguments as they were.
  Conditions: none.
-/
import Derived.Test.YthiomhbehajldaaRows
import Derived.WalkKit
import Derived.ProofKit
import Derived.OpenShut
import Derived.SizedLaws
import Derived.ShutString
import Derived.ChangeOld
import Derived.Below
import Derived.Test.YthiomhbehajldaaByRows
import Derived.Test.YthiomhbehajldaaCrItem
import Derived.Test.YthiomhbehajldaaJ02
namespace Go.Proofs.Ythiomhbehajldaa.crushChooses
open Go.ChangeShapes Go.WideShapes Go.ChangeAt Go.RowKit By
open Fl At Cr
set_option linter.unusedVariables false
set_option linter.unusedSimpArgs false
set_option maxRecDepth 100000

theorem own : ownKnob Try.prog.godebug = none := by kernel_rfl
theorem laidOut : laidOutB Try.prog = true := by kernel_rfl

set_option maxHeartbeats 3200000 in
theorem walk (V0 : MpV) (dom want : Int) (a2 : Int) (w : World) (h0 : MapIn w V0) (w2 : (Lit.int .u32 a2).wf = true) :
    Calls Try.prog 4 #[vM V0.m.ep V0.m.pool V0.x V0.n V0.c, .agg #[.int .i64 dom, .int .i64 want], .int .u32 a2] w fun e w' => e = .returned (.bool true) ∧ Below w.heap.size w w' := by
  have b1 := bounds_u32 w2
  obtain ⟨y, rfl⟩ := Int.eq_ofNat_of_zero_le b1.1
  have hy : y < 4294967296 := by omega
  clear w2 b1
  obtain ⟨m, x, n, c⟩ := V0
  have hO := h0.os
  have hk := h0.k
  dsimp only at hO hk ⊢
  obtain ⟨w0, hw0⟩ : ∃ w0, w0 = (w.alloc (.cells #[.int .i64 m.ep, .int .i64 m.pool.k, .int .i64 m.pool.m, .int .i64 m.pool.pgs, .int .i64 m.pool.dom, .slice x n c] 26)).alloc (.cells #[.int .i64 dom, .int .i64 want] 34) := ⟨_, rfl⟩
  have b0 : Below w.heap.size w w0 := by rw [hw0]; exact on (al _ _) (al _ _)
  have cM := rmay_any m (hO.below b0)
  have HO := hid hO
  have HC : Hid (∀ W, Below w.heap.size w W → Calls Try.prog 14 #[vM m.ep m.pool x n c, .agg #[.int .i64 dom, .int .i64 want], .int .u32 (y : Nat)] W fun e w' => ∃ (x' : Option Addr) (n' c' : Nat), e = .returned (.tuple #[.slice x' n' c', .int .i64 (chE m dom want)]) ∧ Hid (Below W.heap.size W w' ∧ Nu w' x' n' c' (chL m dom want y))) := fun W hb => cchoose_any m (HO.out.below hb) hk dom want y hy
  have HD : Hid (∀ W, Below w.heap.size w W → Calls Try.prog 15 #[vM m.ep m.pool x n c, .agg #[.int .i64 dom, .int .i64 want], .int .u32 (y : Nat)] W fun e w' => ∃ (x' : Option Addr) (n' c' : Nat), e = .returned (.tuple #[.slice x' n' c', .int .i64 (chE m dom want)]) ∧ Hid (Below W.heap.size W w' ∧ Nu w' x' n' c' (chL m dom want y))) := fun W hb => rcchoose_any m (HO.out.below hb) dom want y hy
  have HI : Hid (∀ (W : World) (x1 : Option Addr) (n1 c1 : Nat) (x2 : Option Addr) (n2 c2 : Nat), Nu W x1 n1 c1 (chL m dom want y) → Nu W x2 n2 c2 (chL m dom want y) → Calls Try.prog 16 #[.slice x1 n1 c1, .slice x2 n2 c2] W fun e w' => e = .returned (.bool true) ∧ Below W.heap.size W w') := fun W x1 n1 c1 x2 n2 c2 h1 h2 => by
    have := ints_any h1 h2 (by rw [← h1.len]; have := chL_len m dom want y; omega)
    rw [decide_eq_true rfl] at this
    exact this
  have cL := fun W => light_any m x n c dom want W
  have cA := fun W => awake_any W
  have q0 : w0.cell? ⟨w.heap.size, 0, none⟩ = some (.int .i64 m.ep) := by rw [hw0]; go_simp
  have q1 : w0.cell? ⟨w.heap.size, 1, none⟩ = some (.int .i64 m.pool.k) := by rw [hw0]; go_simp
  have q2 : w0.cell? ⟨w.heap.size, 2, none⟩ = some (.int .i64 m.pool.m) := by rw [hw0]; go_simp
  have q3 : w0.cell? ⟨w.heap.size, 3, none⟩ = some (.int .i64 m.pool.pgs) := by rw [hw0]; go_simp
  have q4 : w0.cell? ⟨w.heap.size, 4, none⟩ = some (.int .i64 m.pool.dom) := by rw [hw0]; go_simp
  have q5 : w0.cell? ⟨w.heap.size, 5, none⟩ = some (.slice x n c) := by rw [hw0]; go_simp
  have q6 : w0.cell? ⟨w.heap.size + 1, 0, none⟩ = some (.int .i64 dom) := by rw [hw0]; go_simp
  have q7 : w0.cell? ⟨w.heap.size + 1, 1, none⟩ = some (.int .i64 want) := by rw [hw0]; go_simp
  have HQ : Hid (∀ W, Below w0.heap.size w0 W → W.cell? ⟨w.heap.size, 0, none⟩ = some (.int .i64 m.ep) ∧ W.cell? ⟨w.heap.size, 1, none⟩ = some (.int .i64 m.pool.k) ∧ W.cell? ⟨w.heap.size, 2, none⟩ = some (.int .i64 m.pool.m) ∧ W.cell? ⟨w.heap.size, 3, none⟩ = some (.int .i64 m.pool.pgs) ∧ W.cell? ⟨w.heap.size, 4, none⟩ = some (.int .i64 m.pool.dom) ∧ W.cell? ⟨w.heap.size, 5, none⟩ = some (.slice x n c) ∧ W.cell? ⟨w.heap.size + 1, 0, none⟩ = some (.int .i64 dom) ∧ W.cell? ⟨w.heap.size + 1, 1, none⟩ = some (.int .i64 want)) := fun W hb => ⟨keep hb q0, keep hb q1, keep hb q2, keep hb q3, keep hb q4, keep hb q5, keep hb q6, keep hb q7⟩
  have HB := hid b0
  have HW := hid hw0
  rw [hw0] at cM
  unfold vM at cM cL HC HD ⊢
  clear h0 hO hk b0 hw0 q0 q1 q2 q3 q4 q5 q6 q7
  generalize chL m dom want y = LL at *
  generalize chE m dom want = EE at *
  have hEE : (EE == EE) = true := by simp
  cases hm : mayM m with
  | false =>
    rw [hm] at cM
    clear hm cL
    go_enter Try.func4, Try.ntmps4
    go_wp2_with (first
      | (go_at_call 12; refine cM.mono ?_; rintro e w1 ⟨rfl, hb1⟩; clear cM; rw [← HW.out] at hb1; obtain ⟨p0, p1, p2, p3, p4, p5, p6, p7⟩ := HQ.out _ hb1; have cC := HC.out _ (on HB.out hb1))
      | (go_at_call 14; refine cC.mono ?_; rintro e w3 ⟨x3, n3, c3, rfl, H3⟩; clear cC p0 p1 p2 p3 p4 p5 p6 p7; obtain ⟨p0, p1, p2, p3, p4, p5, p6, p7⟩ := HQ.out _ (on hb1 H3.out.1); have cD := HD.out _ (on HB.out (on hb1 H3.out.1)))
      | (go_at_call 15; refine cD.mono ?_; rintro e w4 ⟨x4, n4, c4, rfl, H4⟩; clear cD p0 p1 p2 p3 p4 p5 p6 p7; have cI := HI.out _ _ _ _ _ _ _ (H3.out.2.below H4.out.1) H4.out.2)
      | (go_at_call 16; refine cI.mono ?_; rintro e w5 ⟨rfl, hb5⟩; clear cI)
      | (go_at_call 11; refine (cA _).mono ?_; rintro e w6 ⟨rfl, hb6⟩; clear cA))
    go_ret
    exact ⟨rfl, on HB.out (on hb1 (on H3.out.1 (on H4.out.1 (on hb5 hb6))))⟩
  | true =>
    rw [hm] at cM
    clear hm
    cases hl : litB n want with
    | false =>
      rw [hl] at cL
      clear hl HC HD HI
      go_enter Try.func4, Try.ntmps4
      go_wp2_with (first
        | (go_at_call 12; refine cM.mono ?_; rintro e w1 ⟨rfl, hb1⟩; clear cM; rw [← HW.out] at hb1; obtain ⟨p0, p1, p2, p3, p4, p5, p6, p7⟩ := HQ.out _ hb1)
        | (go_at_call 13; refine (cL _).mono ?_; rintro e w2 ⟨rfl, hb2⟩; clear cL)
        | (go_at_call 11; refine (cA _).mono ?_; rintro e w6 ⟨rfl, hb6⟩; clear cA))
      go_ret
      exact ⟨rfl, on HB.out (on hb1 (on hb2 hb6))⟩
    | true =>
      rw [hl] at cL
      clear hl
      go_enter Try.func4, Try.ntmps4
      go_wp2_with (first
        | (go_at_call 12; refine cM.mono ?_; rintro e w1 ⟨rfl, hb1⟩; clear cM; rw [← HW.out] at hb1; obtain ⟨p0, p1, p2, p3, p4, p5, p6, p7⟩ := HQ.out _ hb1)
        | (go_at_call 13; refine (cL _).mono ?_; rintro e w2 ⟨rfl, hb2⟩; clear cL p0 p1 p2 p3 p4 p5 p6 p7; obtain ⟨p0, p1, p2, p3, p4, p5, p6, p7⟩ := HQ.out _ (on hb1 hb2); have cC := HC.out _ (on HB.out (on hb1 hb2)))
        | (go_at_call 14; refine cC.mono ?_; rintro e w3 ⟨x3, n3, c3, rfl, H3⟩; clear cC p0 p1 p2 p3 p4 p5 p6 p7; obtain ⟨p0, p1, p2, p3, p4, p5, p6, p7⟩ := HQ.out _ (on hb1 (on hb2 H3.out.1)); have cD := HD.out _ (on HB.out (on hb1 (on hb2 H3.out.1))))
        | (go_at_call 15; refine cD.mono ?_; rintro e w4 ⟨x4, n4, c4, rfl, H4⟩; clear cD p0 p1 p2 p3 p4 p5 p6 p7; have cI := HI.out _ _ _ _ _ _ _ (H3.out.2.below H4.out.1) H4.out.2)
        | (go_at_call 16; refine cI.mono ?_; rintro e w5 ⟨rfl, hb5⟩; clear cI)
        | (go_at_call 11; refine (cA _).mono ?_; rintro e w6 ⟨rfl, hb6⟩; clear cA))
      go_ret
      exact ⟨rfl, on HB.out (on hb1 (on hb2 (on H3.out.1 (on H4.out.1 (on hb5 hb6)))))⟩

set_option maxRecDepth 100000 in
theorem lifted (os : Os) (started : os.Started) (H : Type) (enc : TypeId × Value → H) :
    ReturnsInHanded {} Try.checked os 4 .any (Rows.crushChoosesSpec.pre6 enc Try.prog Try.f4 Rows.crushChoosesRow.domain false) (Rows.crushChoosesSpec.post enc Try.prog Try.f4 false true false false) := by
  refine returnsInHanded_of_change_sized (C := Try.checked) own started (by kernel_rfl) Try.func4
    (ChangeSpec.witness6 (enc := enc) (C := Try.checked) false ⟨#[], #[.agg #[.int .i64 0, .int .i64 0, .int .i64 0, .int .i64 0, .int .i64 0, .slice none 0 0], .agg #[.int .i64 0, .int .i64 0], .int .u32 0], []⟩ 8 (by kernel_rfl) (by kernel_rfl) (by kernel_rfl) (by kernel_rfl)) ?_
  intro W base args ds gs before hval0 hW hcnd hsz0 _
  have hsz : (DataW.weightsEach Try.prog (Try.f4.params.toList ++ Rows.crushChoosesSpec.plain.varTypes Try.prog) (ds ++ gs)).all (· ≤ reachBytes) = true := hsz0
  have hval : ∀ (j : Nat) t v, Try.f4.params[j]? = some t → args[j]? = some v → Value.okWide Try.prog W .any base t v := hval0
  have hW' := hW
  obtain ⟨p, q, hA0, hV, rfl, hfz, hnd⟩ := hW
  have hA : DataW.TrodAll enc Try.prog W 0 (fun _ => true) true Try.f4.params.toList args.toList ds p := hA0
  rw [Try.params4] at hA hval hsz
  obtain ⟨v0, vs0, d0, ds0, p0, q0, hargs, rfl, rfl, h0, r0⟩ := trodAll_cons hA
  obtain ⟨v1, vs1, d1, ds1, p1, q1, rfl, rfl, rfl, h1, r1⟩ := trodAll_cons r0
  obtain ⟨v2, vs2, d2, ds2, p2, q2, rfl, rfl, rfl, h2, r2⟩ := trodAll_cons r1
  obtain ⟨rfl, rfl, rfl⟩ := trodAll_nil r2
  obtain rfl : args = #[v0, v1, v2] := by cases args; simp_all
  obtain ⟨rfl, rfl⟩ := trodVars_none hV
  have k0 := h0
  have lt0 : ∀ x ∈ p0, x.block < W.heap.size := by obtain ⟨m, hm⟩ := k0; exact DataW.trod_lt m _ _ _ hm
  have s0 : ∀ x ∈ d0.weights Try.prog 26, x ≤ reachBytes := fun x hx => by
    have := List.all_eq_true.1 hsz x (DataW.weights_mem_each (j := 0) rfl rfl x hx)
    simpa using this
  obtain ⟨V0, rfl, w0⟩ := At.map_in (okWide_struct Try.underlying26 (hval 0 26 v0 rfl rfl)) h0 s0
  have k1 := h1
  have lt1 : ∀ x ∈ p1, x.block < W.heap.size := by obtain ⟨m, hm⟩ := k1; exact DataW.trod_lt m _ _ _ hm
  have s1 : ∀ x ∈ d1.weights Try.prog 34, x ≤ reachBytes := fun x hx => by
    have := List.all_eq_true.1 hsz x (DataW.weights_mem_each (j := 1) rfl rfl x hx)
    simpa using this
  obtain ⟨V1, U1, rfl⟩ := Cr.rule_in (okWide_struct Try.underlying34 (hval 1 34 v1 rfl rfl)) h1
  obtain ⟨a2, rfl, rfl, rfl, w2⟩ := open_int Try.underlying27 (hval 2 27 v2 rfl rfl) h2
  clear hA0 hval0
  refine (walk V0 V1 U1 a2 W w0 w2).mono fun e W' ⟨he, bel⟩ => ?_
  subst he
  exact ⟨_, rfl, _, _, _, [], _, [], hW', trodAll_mk1 (shut_bool Try.underlying4 _), (trodAll_cons_mk (Below.trod laidOut (by kernel_rfl) (of_decide_eq_true (by kernel_rfl)) k0 bel lt0) (trodAll_cons_mk (Below.trod laidOut (by kernel_rfl) (of_decide_eq_true (by kernel_rfl)) k1 bel lt1) (trodAll_cons_mk (shut_int Try.underlying27 w2) trodAll_mk0))), rfl, bel.frame _, fun h => by cases h⟩

theorem over : Rows.crushChoosesRow.holds Try.pinned (OpenSpec.ofChange Rows.crushChoosesSpec) :=
  OpenClaim.holds_of_wide 4 Try.f4 rfl rfl rfl rfl rfl rfl rfl ⟨rfl, rfl, rfl, rfl, rfl⟩ rfl rfl rfl rfl rfl (by kernel_rfl) Try.func4 (by kernel_rfl)
    (of_decide_eq_true (by kernel_rfl)) (by unfold Func.isWrapper; first | (rw [if_pos (by decide +kernel)]; kernel_rfl) | (rw [if_neg (by decide +kernel)]; exact ⟨rfl, rfl⟩))
    (fun os started H enc _ => lifted os started H enc)

theorem proved : Rows.CrushChoosesSaid := over
#print axioms proved
end Go.Proofs.Ythiomhbehajldaa.crushChooses
