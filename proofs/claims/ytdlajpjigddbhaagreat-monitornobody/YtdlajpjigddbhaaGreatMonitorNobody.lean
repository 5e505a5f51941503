/-
  A monitor that nobody made has no map: 'mooringlaw14.MonitorNobody' returns true and leaves its argument as it was.
  Conditions: none.
-/
import Derived.Test.YtdlajpjigddbhaaGreatRows
import Derived.WalkKit
import Derived.ProofKit
import Derived.OpenShut
import Derived.SizedLaws
import Derived.ShutString
import Derived.ChangeOld
import Derived.Below
import Derived.Test.YtdlajpjigddbhaaGreatJ01
import Derived.Test.YtdlajpjigddbhaaGreatJ08
import Derived.Test.YtdlajpjigddbhaaGreatJ27
namespace Go.Proofs.YtdlajpjigddbhaaGreat.monitorNobody
open Go.ChangeShapes Go.WideShapes Go.ChangeAt Go.RowKit By
open Fl Px At Mo
set_option linter.unusedVariables false
set_option linter.unusedSimpArgs false
set_option maxRecDepth 100000

theorem own : ownKnob Tryz.prog.godebug = none := by kernel_rfl
theorem laidOut : laidOutB Tryz.prog = true := by kernel_rfl

set_option maxHeartbeats 6400000 in
set_option maxRecDepth 100000 in
theorem walk (V0 : Ch) (w : World) : Calls Tryz.prog 6 #[vC V0] w fun e w' => e = .returned (.bool true) ∧ Below w.heap.size w w' := by
  have hAsk := fun (W : World) (q : Option Addr) (h : VoidM q W) => vmask h V0
  obtain ⟨ck, c0, c1, c2, c3, c4, c5, c6, c7⟩ := V0
  unfold vC at *
  dsimp only at hAsk ⊢
  have b0 := al w (.cells #[.int .i64 ck, .int .i64 c0, .bool c1, .bool c2, .int .i64 c3, .int .i64 c4, .int .i64 c5, .int .i64 c6, .int .i64 c7] 37)
  have p0 := heap_alloc_new w (.cells #[.int .i64 ck, .int .i64 c0, .bool c1, .bool c2, .int .i64 c3, .int .i64 c4, .int .i64 c5, .int .i64 c6, .int .i64 c7] 37)
  have H0 := hid (And.intro b0 p0)
  clear b0 p0
  go_enter Tryz.func6, Tryz.ntmps6
  go_wp2_with fail
  go_loopw [3, 4, 5, 6, 7, 8] (fun i _ _ _ _ _ wr => ∃ k : Nat, k ≤ 2 ∧ i = .int .i64 k ∧ Hid (Below w.heap.size w wr ∧ wr.heap[w.heap.size]? = some (.cells #[.int .i64 ck, .int .i64 c0, .bool c1, .bool c2, .int .i64 c3, .int .i64 c4, .int .i64 c5, .int .i64 c6, .int .i64 c7] 37 (0, 0)))) (fun i _ _ _ _ _ _ => 2 - (intOf i).toNat)
  case atStart => exact ⟨0, by omega, rfl, H0.out⟩
  case round =>
    clear H0
    obtain ⟨k, hk, rfl, HB⟩ := hrel
    by_cases hk0 : k = 0
    · subst hk0
      have hz : VoidM none wr := .inl rfl
      have HBZ := hid HB.out
      have hMp := vmmap hz 0
      have HZ := hid hz
      unfold vM noP at hMp
      dsimp only at hMp
      go_wp2_with (first
        | (go_at_call 22; refine (vmcrash hz).mono ?_; rintro e w' ⟨rfl, hw⟩; subst w')
        | (go_at_call 23; refine (vmreceive hz _).mono ?_; rintro e w' ⟨rfl, hw⟩; subst w')
        | (
           go_at_call 19; refine hMp.mono ?_; rintro e w1 ⟨rfl, hb1⟩; clear hMp hz
           have bM := al w1 (.cells #[.int .i64 0, .int .i64 0, .int .i64 0, .int .i64 0, .int .i64 0, .slice none 0 0] 56)
           have hz1 := HZ.out.below (on hb1 bM)
           have HB1 := hid (And.intro (on HBZ.out.1 (on hb1 bM)) (heap_keep (on hb1 bM) HBZ.out.2))
           have j0 := cell_heap HB1.out.2 (j := 0) (v := .int .i64 ck) rfl
           have j1 := cell_heap HB1.out.2 (j := 1) (v := .int .i64 c0) rfl
           have j2 := cell_heap HB1.out.2 (j := 2) (v := .bool c1) rfl
           have j3 := cell_heap HB1.out.2 (j := 3) (v := .bool c2) rfl
           have j4 := cell_heap HB1.out.2 (j := 4) (v := .int .i64 c3) rfl
           have j5 := cell_heap HB1.out.2 (j := 5) (v := .int .i64 c4) rfl
           have j6 := cell_heap HB1.out.2 (j := 6) (v := .int .i64 c5) rfl
           have j7 := cell_heap HB1.out.2 (j := 7) (v := .int .i64 c6) rfl
           have j8 := cell_heap HB1.out.2 (j := 8) (v := .int .i64 c7) rfl
           have hA1 := hAsk _ _ hz1
           have HZ1 := hid hz1
           clear bM hb1 hz1)
        | (
           go_at_call 21; refine hA1.mono ?_; rintro e w2 ⟨rfl, hb2⟩; clear hA1
           have hz2 := HZ1.out.below hb2
           have HB2 := hid (And.intro (on HB1.out.1 hb2) (heap_keep hb2 HB1.out.2))
           clear hb2)
        | (go_at_call 14; refine (vmtick hz2).mono ?_; rintro e w' ⟨rfl, hw⟩; subst w')
        | (go_at_call 10; refine (vmepoch hz2).mono ?_; rintro e w' ⟨rfl, hw⟩; subst w')
        | (go_at_call 24; refine (vmchanges hz2).mono ?_; rintro e w' ⟨rfl, hw⟩; subst w')
        | (go_at_call 16; refine (vmpending hz2).mono ?_; rintro e w' ⟨rfl, hw⟩; subst w'))
      go_roundw
      case rel => exact ⟨1, by omega, by go_num, HB2.out⟩
      case measure => simp [intOf]
    · by_cases hk1 : k = 1
      · subst hk1
        have hz := voidm_new wr
        have bz := al wr (.cells #[.pointer none, .int .i64 0, .slice none 0 0, .int .i64 0, .int .i64 0, .int .i64 0, .int .i64 0, .int .i64 0, .slice none 0 0] 67)
        have HBZ : Hid (Below w.heap.size w _ ∧ _) := hid (And.intro (on HB.out.1 bz) (heap_keep bz HB.out.2))
        clear bz
        have hMp := vmmap hz 0
        have HZ := hid hz
        unfold vM noP at hMp
        dsimp only at hMp
        go_wp2_with (first
          | (go_at_call 22; refine (vmcrash hz).mono ?_; rintro e w' ⟨rfl, hw⟩; subst w')
          | (go_at_call 23; refine (vmreceive hz _).mono ?_; rintro e w' ⟨rfl, hw⟩; subst w')
          | (
             go_at_call 19; refine hMp.mono ?_; rintro e w1 ⟨rfl, hb1⟩; clear hMp hz
             have bM := al w1 (.cells #[.int .i64 0, .int .i64 0, .int .i64 0, .int .i64 0, .int .i64 0, .slice none 0 0] 56)
             have hz1 := HZ.out.below (on hb1 bM)
             have HB1 := hid (And.intro (on HBZ.out.1 (on hb1 bM)) (heap_keep (on hb1 bM) HBZ.out.2))
             have j0 := cell_heap HB1.out.2 (j := 0) (v := .int .i64 ck) rfl
             have j1 := cell_heap HB1.out.2 (j := 1) (v := .int .i64 c0) rfl
             have j2 := cell_heap HB1.out.2 (j := 2) (v := .bool c1) rfl
             have j3 := cell_heap HB1.out.2 (j := 3) (v := .bool c2) rfl
             have j4 := cell_heap HB1.out.2 (j := 4) (v := .int .i64 c3) rfl
             have j5 := cell_heap HB1.out.2 (j := 5) (v := .int .i64 c4) rfl
             have j6 := cell_heap HB1.out.2 (j := 6) (v := .int .i64 c5) rfl
             have j7 := cell_heap HB1.out.2 (j := 7) (v := .int .i64 c6) rfl
             have j8 := cell_heap HB1.out.2 (j := 8) (v := .int .i64 c7) rfl
             have hA1 := hAsk _ _ hz1
             have HZ1 := hid hz1
             clear bM hb1 hz1)
          | (
             go_at_call 21; refine hA1.mono ?_; rintro e w2 ⟨rfl, hb2⟩; clear hA1
             have hz2 := HZ1.out.below hb2
             have HB2 := hid (And.intro (on HB1.out.1 hb2) (heap_keep hb2 HB1.out.2))
             clear hb2)
          | (go_at_call 14; refine (vmtick hz2).mono ?_; rintro e w' ⟨rfl, hw⟩; subst w')
          | (go_at_call 10; refine (vmepoch hz2).mono ?_; rintro e w' ⟨rfl, hw⟩; subst w')
          | (go_at_call 24; refine (vmchanges hz2).mono ?_; rintro e w' ⟨rfl, hw⟩; subst w')
          | (go_at_call 16; refine (vmpending hz2).mono ?_; rintro e w' ⟨rfl, hw⟩; subst w'))
        go_roundw
        case rel => exact ⟨2, by omega, by go_num, HB2.out⟩
        case measure => simp [intOf]
      · obtain rfl : k = 2 := by omega
        have hA := mawake_any wr
        go_wp2_with (go_at_call 12; refine hA.mono ?_; rintro e w2 ⟨rfl, hb2⟩; clear hA)
        go_ret
        exact ⟨rfl, on HB.out.1 hb2⟩

set_option maxRecDepth 100000 in
theorem lifted (os : Os) (started : os.Started) (H : Type) (enc : TypeId × Value → H) :
    ReturnsInHanded {} Tryz.checked os 6 .any (Rows.monitorNobodySpec.pre6 enc Tryz.prog Tryz.f6 Rows.monitorNobodyRow.domain false) (Rows.monitorNobodySpec.post enc Tryz.prog Tryz.f6 false true false false) := by
  refine returnsInHanded_of_change_sized (C := Tryz.checked) own started (by kernel_rfl) Tryz.func6
    (ChangeSpec.witness6 (enc := enc) (C := Tryz.checked) false ⟨#[], #[.agg #[.int .i64 0, .int .i64 0, .bool false, .bool false, .int .i64 0, .int .i64 0, .int .i64 0, .int .i64 0, .int .i64 0]], []⟩ 8 (by kernel_rfl) (by kernel_rfl) (by kernel_rfl) (by kernel_rfl)) ?_
  intro W base args ds gs before hval0 hW hcnd hsz0 _
  have hsz : (DataW.weightsEach Tryz.prog (Tryz.f6.params.toList ++ Rows.monitorNobodySpec.plain.varTypes Tryz.prog) (ds ++ gs)).all (· ≤ reachBytes) = true := hsz0
  have hval : ∀ (j : Nat) t v, Tryz.f6.params[j]? = some t → args[j]? = some v → Value.okWide Tryz.prog W .any base t v := hval0
  have hW' := hW
  obtain ⟨p, q, hA0, hV, rfl, hfz, hnd⟩ := hW
  have hA : DataW.TrodAll enc Tryz.prog W 0 (fun _ => true) true Tryz.f6.params.toList args.toList ds p := hA0
  rw [Tryz.params6] at hA hval hsz
  obtain ⟨v0, vs0, d0, ds0, p0, q0, hargs, rfl, rfl, h0, r0⟩ := trodAll_cons hA
  obtain ⟨rfl, rfl, rfl⟩ := trodAll_nil r0
  obtain rfl : args = #[v0] := by cases args; simp_all
  obtain ⟨rfl, rfl⟩ := trodVars_none hV
  have k0 := h0
  have lt0 : ∀ x ∈ p0, x.block < W.heap.size := by obtain ⟨m, hm⟩ := k0; exact DataW.trod_lt m _ _ _ hm
  have s0 : ∀ x ∈ d0.weights Tryz.prog 37, x ≤ reachBytes := fun x hx => by
    have := List.all_eq_true.1 hsz x (DataW.weights_mem_each (j := 0) rfl rfl x hx)
    simpa using this
  obtain ⟨V0, rfl⟩ := At.ch_in (okWide_struct Tryz.underlying37 (hval 0 37 v0 rfl rfl)) h0
  clear hA0 hval0
  refine (walk V0 W ).mono fun e W' ⟨he, bel⟩ => ?_
  subst he
  exact ⟨_, rfl, _, _, _, [], _, [], hW', trodAll_mk1 (shut_bool Tryz.underlying4 _), (trodAll_cons_mk (Below.trod laidOut (by kernel_rfl) (of_decide_eq_true (by kernel_rfl)) k0 bel lt0) trodAll_mk0), rfl, bel.frame _, fun h => by cases h⟩

theorem over : Rows.monitorNobodyRow.holds Tryz.pinned (OpenSpec.ofChange Rows.monitorNobodySpec) :=
  OpenClaim.holds_of_wide 6 Tryz.f6 rfl rfl rfl rfl rfl rfl rfl ⟨rfl, rfl, rfl, rfl, rfl⟩ rfl rfl rfl rfl rfl (by kernel_rfl) Tryz.func6 (by kernel_rfl)
    (of_decide_eq_true (by kernel_rfl)) (by unfold Func.isWrapper; first | (rw [if_pos (by decide +kernel)]; kernel_rfl) | (rw [if_neg (by decide +kernel)]; exact ⟨rfl, rfl⟩))
    (fun os started H enc _ => lifted os started H enc)

theorem proved : Rows.MonitorNobodySaid := over
#print axioms proved
end Go.Proofs.YtdlajpjigddbhaaGreat.monitorNobody
