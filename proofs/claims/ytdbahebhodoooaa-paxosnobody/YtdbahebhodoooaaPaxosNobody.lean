/-
  A monitor that nobody made, nil or the zero one, knows nothing: 'mooringlaw12.PaxosNobody' returns true and leaves its argument as it was.
  Conditions: none.
-/
import Derived.Test.YtdbahebhodoooaaRows
import Derived.WalkKit
import Derived.ProofKit
import Derived.OpenShut
import Derived.SizedLaws
import Derived.ShutString
import Derived.ChangeOld
import Derived.Below
import Derived.Test.YtdbahebhodoooaaJ01
import Derived.Test.YtdbahebhodoooaaJ17
namespace Go.Proofs.Ytdbahebhodoooaa.paxosNobody
open Go.ChangeShapes Go.WideShapes Go.ChangeAt Go.RowKit By
open Px
set_option linter.unusedVariables false
set_option linter.unusedSimpArgs false
set_option maxRecDepth 100000

theorem own : ownKnob Try.prog.godebug = none := by kernel_rfl
theorem laidOut : laidOutB Try.prog = true := by kernel_rfl

set_option maxHeartbeats 3200000 in
set_option maxRecDepth 100000 in
theorem walk (x : Option Addr) (n c : Nat) (f : Nat → Nat) (w : World) (h : BytesIn w x n c f) :
    Calls Try.prog 7 #[.slice x n c] w fun e w' => e = .returned (.bool true) ∧ Below w.heap.size w w' := by
  clear h
  go_enter Try.func7, Try.ntmps7
  go_wp2_with fail
  go_loopw [3, 4, 5, 6, 7, 8] (fun i _ _ _ _ _ wr => ∃ k : Nat, k ≤ 2 ∧ i = .int .i64 k ∧ Hid (Below w.heap.size w wr)) (fun i _ _ _ _ _ _ => 2 - (intOf i).toNat)
  case atStart => exact ⟨0, by omega, rfl, Below.refl _ _⟩
  case round =>
    obtain ⟨k, hk, rfl, HB⟩ := hrel
    by_cases hk0 : k = 0
    · subst hk0
      have hz : VoidN none wr := .inl rfl
      go_wp2_with (first
        | (go_at_call 23; refine (vcrash hz).mono ?_; rintro e w' ⟨rfl, hw⟩; subst w')
        | (go_at_call 22; refine (vreceive hz _).mono ?_; rintro e w' ⟨rfl, hw⟩; subst w')
        | (go_at_call 24; refine (vget hz).mono ?_; rintro e w' ⟨rfl, hw⟩; subst w')
        | (go_at_call 16; refine (vprop hz _).mono ?_; rintro e w' ⟨rfl, hw⟩; subst w')
        | (go_at_call 19; refine (vtick hz).mono ?_; rintro e w' ⟨rfl, hw⟩; subst w')
        | (go_at_call 12; refine (vlen hz).mono ?_; rintro e w' ⟨rfl, hw⟩; subst w')
        | (go_at_call 14; refine (vpending hz).mono ?_; rintro e w' ⟨rfl, hw⟩; subst w'))
      go_roundw
      case rel => exact ⟨1, by omega, by go_num, HB.out⟩
      case measure => simp [intOf]
    · by_cases hk1 : k = 1
      · subst hk1
        have hz := void_new wr
        have HB2 : Hid (Below w.heap.size w (wr.alloc (.cells #[.int .i64 0, .int .i64 0, .slice none 0 0, .map none, .int .i64 0, .slice none 0 0, .pointer none, .int .i64 0] 63))) := HB.out.alloc HB.out.size _
        go_wp2_with (first
          | (go_at_call 23; refine (vcrash hz).mono ?_; rintro e w' ⟨rfl, hw⟩; subst w')
          | (go_at_call 22; refine (vreceive hz _).mono ?_; rintro e w' ⟨rfl, hw⟩; subst w')
          | (go_at_call 24; refine (vget hz).mono ?_; rintro e w' ⟨rfl, hw⟩; subst w')
          | (go_at_call 16; refine (vprop hz _).mono ?_; rintro e w' ⟨rfl, hw⟩; subst w')
          | (go_at_call 19; refine (vtick hz).mono ?_; rintro e w' ⟨rfl, hw⟩; subst w')
          | (go_at_call 12; refine (vlen hz).mono ?_; rintro e w' ⟨rfl, hw⟩; subst w')
          | (go_at_call 14; refine (vpending hz).mono ?_; rintro e w' ⟨rfl, hw⟩; subst w'))
        go_roundw
        case rel => exact ⟨2, by omega, by go_num, HB2.out⟩
        case measure => simp [intOf]
      · obtain rfl : k = 2 := by omega
        have hA := Px.awake_any wr
        go_wp2_with (first
          | (go_at_call 13; refine hA.mono ?_; rintro e w2 ⟨rfl, hb2⟩; clear hA))
        go_ret
        exact ⟨rfl, HB.out.trans (hb2.mono HB.out.size)⟩

set_option maxRecDepth 100000 in
theorem lifted (os : Os) (started : os.Started) (H : Type) (enc : TypeId × Value → H) :
    ReturnsInHanded {} Try.checked os 7 .any (Rows.paxosNobodySpec.pre6 enc Try.prog Try.f7 Rows.paxosNobodyRow.domain false) (Rows.paxosNobodySpec.post enc Try.prog Try.f7 false true false false) := by
  refine returnsInHanded_of_change_sized (C := Try.checked) own started (by kernel_rfl) Try.func7
    (ChangeSpec.witness6 (enc := enc) (C := Try.checked) false ⟨#[], #[.slice none 0 0], []⟩ 8 (by kernel_rfl) (by kernel_rfl) (by kernel_rfl) (by kernel_rfl)) ?_
  intro W base args ds gs before hval0 hW hcnd hsz0 _
  have hsz : (DataW.weightsEach Try.prog (Try.f7.params.toList ++ Rows.paxosNobodySpec.plain.varTypes Try.prog) (ds ++ gs)).all (· ≤ reachBytes) = true := hsz0
  have hval : ∀ (j : Nat) t v, Try.f7.params[j]? = some t → args[j]? = some v → Value.okWide Try.prog W .any base t v := hval0
  have hW' := hW
  obtain ⟨p, q, hA0, hV, rfl, hfz, hnd⟩ := hW
  have hA : DataW.TrodAll enc Try.prog W 0 (fun _ => true) true Try.f7.params.toList args.toList ds p := hA0
  rw [Try.params7] at hA hval hsz
  obtain ⟨v0, vs0, d0, ds0, p0, q0, hargs, rfl, rfl, h0, r0⟩ := trodAll_cons hA
  obtain ⟨rfl, rfl, rfl⟩ := trodAll_nil r0
  obtain rfl : args = #[v0] := by cases args; simp_all
  obtain ⟨rfl, rfl⟩ := trodVars_none hV
  have k0 := h0
  have lt0 : ∀ x ∈ p0, x.block < W.heap.size := by obtain ⟨m, hm⟩ := k0; exact DataW.trod_lt m _ _ _ hm
  have s0 : ∀ x ∈ d0.weights Try.prog 35, x ≤ reachBytes := fun x hx => by
    have := List.all_eq_true.1 hsz x (DataW.weights_mem_each (j := 0) rfl rfl x hx)
    simpa using this
  obtain ⟨b0, nn0, cc0, rfl⟩ := okWide_slice Try.underlying35 (hval 0 35 v0 rfl rfl)
  obtain ⟨fu0, hf0⟩ := h0
  obtain ⟨a0, len0, cap0, f0, e0, w0⟩ := bytes_in hf0 s0
  simp [Value.cells] at e0
  obtain ⟨rfl, rfl, rfl⟩ := e0
  clear hA0 hval0
  refine (walk b0 nn0 cc0 f0 W w0).mono fun e W' ⟨he, bel⟩ => ?_
  subst he
  exact ⟨_, rfl, _, _, _, [], _, [], hW', trodAll_mk1 (shut_bool Try.underlying4 _), (trodAll_cons_mk (Below.trod laidOut (by kernel_rfl) (of_decide_eq_true (by kernel_rfl)) k0 bel lt0) trodAll_mk0), rfl, bel.frame _, fun h => by cases h⟩

theorem over : Rows.paxosNobodyRow.holds Try.pinned (OpenSpec.ofChange Rows.paxosNobodySpec) :=
  OpenClaim.holds_of_wide 7 Try.f7 rfl rfl rfl rfl rfl rfl rfl ⟨rfl, rfl, rfl, rfl, rfl⟩ rfl rfl rfl rfl rfl (by kernel_rfl) Try.func7 (by kernel_rfl)
    (of_decide_eq_true (by kernel_rfl)) (by unfold Func.isWrapper; first | (rw [if_pos (by decide +kernel)]; kernel_rfl) | (rw [if_neg (by decide +kernel)]; exact ⟨rfl, rfl⟩))
    (fun os started H enc _ => lifted os started H enc)

theorem proved : Rows.PaxosNobodySaid := over
#print axioms proved
end Go.Proofs.Ytdbahebhodoooaa.paxosNobody
