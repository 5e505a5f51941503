/-
  Which OSD any descent finds in any map, for any two numbers of 32 bits, and how much room there is of any domain, are what the document says: 'mooringlaw17.CrushDescends' returns true and leaves its arguments as they were.
  Conditions: none.
-/
import Derived.Test.YthiomhbehajldaaRows
import Derived.WalkKit
import Derived.ProofKit
import Derived.OpenShut
import Derived.SizedLaws
import Derived.ShutString
import Derived.ChangeOld
import Derived.Below
import Derived.Test.YthiomhbehajldaaByRows
import Derived.Test.YthiomhbehajldaaCrItem
import Derived.Test.YthiomhbehajldaaCrRefR
import Derived.Test.YthiomhbehajldaaCrAwake
namespace Go.Proofs.Ythiomhbehajldaa.crushDescends
open Go.ChangeShapes Go.WideShapes Go.ChangeAt Go.RowKit By
open Fl At Cr
set_option linter.unusedVariables false
set_option linter.unusedSimpArgs false
set_option maxRecDepth 100000

theorem own : ownKnob Try.prog.godebug = none := by kernel_rfl
theorem laidOut : laidOutB Try.prog = true := by kernel_rfl

set_option maxHeartbeats 3200000 in
theorem walk (V0 : MpV) (a1 : Int) (V2 U2 : Int) (w : World) (h0 : MapIn w V0) (w1 : (Lit.int .u32 a1).wf = true) :
    Calls Try.prog 3 #[vM V0.m.ep V0.m.pool V0.x V0.n V0.c, .int .u32 a1, .agg #[.int .i64 V2, .int .i64 U2]] w fun e w' => e = .returned (.bool true) ∧ Below w.heap.size w w' := by
  have b1 := bounds_u32 w1
  obtain ⟨y, rfl⟩ := Int.eq_ofNat_of_zero_le b1.1
  have hy : y < 4294967296 := by omega
  clear w1 b1
  obtain ⟨m, x, n, c⟩ := V0
  have hO := h0.os
  have hk := h0.k
  dsimp only at hO hk ⊢
  obtain ⟨r, hr⟩ : ∃ r, r = (V2 % 4294967296).toNat := ⟨_, rfl⟩
  have hr2 : r < 4294967296 := by omega
  have hconv : IntKind.u32.wrap V2 = (r : Int) := by rw [IntKind.wrap_u32]; omega
  obtain ⟨w0, hw0⟩ : ∃ w0, w0 = (w.alloc (.cells #[.int .i64 m.ep, .int .i64 m.pool.k, .int .i64 m.pool.m, .int .i64 m.pool.pgs, .int .i64 m.pool.dom, .slice x n c] 26)).alloc (.cells #[.int .i64 V2, .int .i64 U2] 28) := ⟨_, rfl⟩
  have b0 : Below w.heap.size w w0 := by rw [hw0]; exact on (al _ _) (al _ _)
  have c1 := fun p : After w0 => cdescend_any m (hO.below (on b0 p.h)) hk y r hy hr2
  have c2 := fun p : After w0 => rdescend_any m (hO.below (on b0 p.h)) y r hy hr2
  have c3 := fun p : After w0 => croom_any m (hO.below (on b0 p.h)) hk U2
  have c4 := fun p : After w0 => rroom_any m (hO.below (on b0 p.h)) U2
  have c5 := fun p : After w0 => awake_any p.W
  generalize desP m y r = R1 at *
  generalize roomP m U2 = R2 at *
  unfold vM at c1 c2 c3 c4 ⊢
  have q0 : ∀ p : After w0, p.W.cell? ⟨w.heap.size, 0, none⟩ = some (.int .i64 m.ep) := After.cell (by rw [hw0]; go_simp)
  have q1 : ∀ p : After w0, p.W.cell? ⟨w.heap.size, 1, none⟩ = some (.int .i64 m.pool.k) := After.cell (by rw [hw0]; go_simp)
  have q2 : ∀ p : After w0, p.W.cell? ⟨w.heap.size, 2, none⟩ = some (.int .i64 m.pool.m) := After.cell (by rw [hw0]; go_simp)
  have q3 : ∀ p : After w0, p.W.cell? ⟨w.heap.size, 3, none⟩ = some (.int .i64 m.pool.pgs) := After.cell (by rw [hw0]; go_simp)
  have q4 : ∀ p : After w0, p.W.cell? ⟨w.heap.size, 4, none⟩ = some (.int .i64 m.pool.dom) := After.cell (by rw [hw0]; go_simp)
  have q5 : ∀ p : After w0, p.W.cell? ⟨w.heap.size, 5, none⟩ = some (.slice x n c) := After.cell (by rw [hw0]; go_simp)
  have q6 : ∀ p : After w0, p.W.cell? ⟨w.heap.size + 1, 0, none⟩ = some (.int .i64 V2) := After.cell (by rw [hw0]; go_simp)
  have q7 : ∀ p : After w0, p.W.cell? ⟨w.heap.size + 1, 1, none⟩ = some (.int .i64 U2) := After.cell (by rw [hw0]; go_simp)
  have HB := hid b0
  have HW := hid hw0
  clear h0 hO hk b0 hw0 hr
  haveI := After.ne w0
  go_enter Try.func3, Try.ntmps3
  go_wp2_with fail
  rw [← HW.out]
  refine wp_region_after (by kernel_rfl) (by kernel_rfl) ?_
  repeat (go_big_quiet_step ((first
    | (go_at_call 7; with_reducible refine Calls.after_of (c1 _))
    | (go_at_call 8; with_reducible refine Calls.after_of (c2 _))
    | (go_at_call 9; with_reducible refine Calls.after_of (c3 _))
    | (go_at_call 10; with_reducible refine Calls.after_of (c4 _))
    | (go_at_call 11; with_reducible refine Calls.after_of (c5 _)))))
  refine wpQuiet_nil ?_
  rintro _ ⟨P, rfl⟩
  go_wp2_with fail
  go_ret
  exact ⟨rfl, on HB.out P.h⟩

set_option maxRecDepth 100000 in
theorem lifted (os : Os) (started : os.Started) (H : Type) (enc : TypeId × Value → H) :
    ReturnsInHanded {} Try.checked os 3 .any (Rows.crushDescendsSpec.pre6 enc Try.prog Try.f3 Rows.crushDescendsRow.domain false) (Rows.crushDescendsSpec.post enc Try.prog Try.f3 false true false false) := by
  refine returnsInHanded_of_change_sized (C := Try.checked) own started (by kernel_rfl) Try.func3
    (ChangeSpec.witness6 (enc := enc) (C := Try.checked) false ⟨#[], #[.agg #[.int .i64 0, .int .i64 0, .int .i64 0, .int .i64 0, .int .i64 0, .slice none 0 0], .int .u32 0, .agg #[.int .i64 0, .int .i64 0]], []⟩ 8 (by kernel_rfl) (by kernel_rfl) (by kernel_rfl) (by kernel_rfl)) ?_
  intro W base args ds gs before hval0 hW hcnd hsz0 _
  have hsz : (DataW.weightsEach Try.prog (Try.f3.params.toList ++ Rows.crushDescendsSpec.plain.varTypes Try.prog) (ds ++ gs)).all (· ≤ reachBytes) = true := hsz0
  have hval : ∀ (j : Nat) t v, Try.f3.params[j]? = some t → args[j]? = some v → Value.okWide Try.prog W .any base t v := hval0
  have hW' := hW
  obtain ⟨p, q, hA0, hV, rfl, hfz, hnd⟩ := hW
  have hA : DataW.TrodAll enc Try.prog W 0 (fun _ => true) true Try.f3.params.toList args.toList ds p := hA0
  rw [Try.params3] at hA hval hsz
  obtain ⟨v0, vs0, d0, ds0, p0, q0, hargs, rfl, rfl, h0, r0⟩ := trodAll_cons hA
  obtain ⟨v1, vs1, d1, ds1, p1, q1, rfl, rfl, rfl, h1, r1⟩ := trodAll_cons r0
  obtain ⟨v2, vs2, d2, ds2, p2, q2, rfl, rfl, rfl, h2, r2⟩ := trodAll_cons r1
  obtain ⟨rfl, rfl, rfl⟩ := trodAll_nil r2
  obtain rfl : args = #[v0, v1, v2] := by cases args; simp_all
  obtain ⟨rfl, rfl⟩ := trodVars_none hV
  have k0 := h0
  have lt0 : ∀ x ∈ p0, x.block < W.heap.size := by obtain ⟨m, hm⟩ := k0; exact DataW.trod_lt m _ _ _ hm
  have s0 : ∀ x ∈ d0.weights Try.prog 26, x ≤ reachBytes := fun x hx => by
    have := List.all_eq_true.1 hsz x (DataW.weights_mem_each (j := 0) rfl rfl x hx)
    simpa using this
  obtain ⟨V0, rfl, w0⟩ := At.map_in (okWide_struct Try.underlying26 (hval 0 26 v0 rfl rfl)) h0 s0
  obtain ⟨a1, rfl, rfl, rfl, w1⟩ := open_int Try.underlying27 (hval 1 27 v1 rfl rfl) h1
  have k2 := h2
  have lt2 : ∀ x ∈ p2, x.block < W.heap.size := by obtain ⟨m, hm⟩ := k2; exact DataW.trod_lt m _ _ _ hm
  have s2 : ∀ x ∈ d2.weights Try.prog 28, x ≤ reachBytes := fun x hx => by
    have := List.all_eq_true.1 hsz x (DataW.weights_mem_each (j := 2) rfl rfl x hx)
    simpa using this
  obtain ⟨V2, U2, rfl⟩ := Sr.two_in (Sr.okWide_array Try.underlying28 (hval 2 28 v2 rfl rfl)) h2
  clear hA0 hval0
  refine (walk V0 a1 V2 U2 W w0 w1).mono fun e W' ⟨he, bel⟩ => ?_
  subst he
  exact ⟨_, rfl, _, _, _, [], _, [], hW', trodAll_mk1 (shut_bool Try.underlying4 _), (trodAll_cons_mk (Below.trod laidOut (by kernel_rfl) (of_decide_eq_true (by kernel_rfl)) k0 bel lt0) (trodAll_cons_mk (shut_int Try.underlying27 w1) (trodAll_cons_mk (Below.trod laidOut (by kernel_rfl) (of_decide_eq_true (by kernel_rfl)) k2 bel lt2) trodAll_mk0))), rfl, bel.frame _, fun h => by cases h⟩

theorem over : Rows.crushDescendsRow.holds Try.pinned (OpenSpec.ofChange Rows.crushDescendsSpec) :=
  OpenClaim.holds_of_wide 3 Try.f3 rfl rfl rfl rfl rfl rfl rfl ⟨rfl, rfl, rfl, rfl, rfl⟩ rfl rfl rfl rfl rfl (by kernel_rfl) Try.func3 (by kernel_rfl)
    (of_decide_eq_true (by kernel_rfl)) (by unfold Func.isWrapper; first | (rw [if_pos (by decide +kernel)]; kernel_rfl) | (rw [if_neg (by decide +kernel)]; exact ⟨rfl, rfl⟩))
    (fun os started H enc _ => lifted os started H enc)

theorem proved : Rows.CrushDescendsSaid := over
#print axioms proved
end Go.Proofs.Ythiomhbehajldaa.crushDescends
