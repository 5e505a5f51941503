/-
  There is room for 16384 messages, and no more: 'mooringlaw10.FlightFull' returns true.
  Conditions: none.
-/
import Derived.Test.YtmekbbddfmmbeaaRows
import Derived.WalkKit
import Derived.ProofKit
import Derived.OpenShut
import Derived.SizedLaws
import Derived.ShutString
import Derived.ChangeOld
import Derived.Below
import Derived.Test.YtmekbbddfmmbeaaByRows
import Derived.Test.YtmekbbddfmmbeaaFlItem
import Derived.Test.YtmekbbddfmmbeaaFlAwake
namespace Go.Proofs.Ytmekbbddfmmbeaa.flightFull
open Go.ChangeShapes Go.WideShapes Go.ChangeAt Go.RowKit By
open Fl
set_option linter.unusedVariables false
set_option linter.unusedSimpArgs false
set_option maxRecDepth 100000

theorem own : ownKnob Try.prog.godebug = none := by kernel_rfl
theorem laidOut : laidOutB Try.prog = true := by kernel_rfl

theorem tail_in {w : World} {B p mb nb : Nat} {D : DataW Value} {R : Value} {L : List MV} {S : Int → Int → Bool} (h : FlAt w B p mb nb D R L S) (h1 : 1 ≤ L.length) (h2 : L.length ≤ 16384) (t : Bool) (ht : t = decide (L.length < 16384)) :
    Calls Try.prog 16 #[.pointer (some ⟨p, 0, none⟩), .int .i64 0] w fun e w1 => e = .returned (.bool t) ∧
    Calls Try.prog 18 #[.pointer (some ⟨p, 0, none⟩), .int .i64 0] w1 fun e w2 => e = .returned (.bool true) ∧
    Calls Try.prog 17 #[.pointer (some ⟨p, 0, none⟩), .int .i64 1, .int .i64 2, .slice none 0 0] w2 fun e w3 => e = .returned (.bool true) ∧
    Calls Try.prog 14 #[] w3 fun e w4 => e = .returned (.bool true) ∧ Hid (Below B w w4) := by
  have rest : ∀ (w1 : World) (R1 : Value) (L1 : List MV), FlAt w1 B p mb nb D R1 L1 S → 1 ≤ L1.length → L1.length ≤ 16384 → Below B w w1 →
      Calls Try.prog 18 #[.pointer (some ⟨p, 0, none⟩), .int .i64 0] w1 fun e w2 => e = .returned (.bool true) ∧
      Calls Try.prog 17 #[.pointer (some ⟨p, 0, none⟩), .int .i64 1, .int .i64 2, .slice none 0 0] w2 fun e w3 => e = .returned (.bool true) ∧
      Calls Try.prog 14 #[] w3 fun e w4 => e = .returned (.bool true) ∧ Hid (Below B w w4) := fun w1 R1 L1 k1 l1 l2 b1 => by
    refine (drop_yes k1 0 (by omega)).mono fun e w2 ⟨e2, H2⟩ => ⟨e2, ?_⟩
    obtain ⟨R2, k2, t2⟩ := H2.out
    have b2 := b1.trans (k1.out t2 k1.bw)
    have hl2 := del_len L1 0 (by omega)
    refine (post_yes k2 1 2 (wfi_small (by omega) (by omega)) (wfi_small (by omega) (by omega)) none 0 0 [] (Sl.empty _) (by omega) (by omega)).mono fun e w3 ⟨e3, H3⟩ => ⟨e3, ?_⟩
    obtain ⟨R3, m, k3, _, _, _, _, _, t3⟩ := H3.out
    have b3 := b2.trans (k2.out t3 k2.bw)
    refine (awake_any w3).mono fun e w4 ⟨e4, b4⟩ => ⟨e4, b3.trans (b4.mono k3.bw)⟩
  by_cases hf : L.length < 16384
  · have : t = true := by rw [ht]; simp [hf]
    subst this
    refine (twice_yes h 0 (L[0]'(by omega)) (List.getElem?_eq_getElem (by omega)) hf).mono fun e w1 ⟨e1, H1⟩ => ⟨e1, ?_⟩
    obtain ⟨R1, k1, t1⟩ := H1.out
    exact rest w1 R1 _ k1 (by simp) (by simp; omega) (h.out t1 h.bw)
  · have : t = false := by rw [ht]; simp [hf]
    subst this
    refine (twice_full h 0 (by omega) (by omega)).mono fun e w1 ⟨e1, hw⟩ => ⟨e1, ?_⟩
    subst hw
    exact rest w1 R L h h1 h2 (Below.refl _ _)

set_option maxHeartbeats 2000000 in
set_option maxRecDepth 100000 in
theorem walk (a : Int) (w : World) (h : (Lit.int .u8 a).wf = true) :
    Calls Try.prog 5 #[.int .u8 a] w fun e w' => e = .returned (.bool true) ∧ Below w.heap.size w w' := by
  have hN := new_any w
  have hb := bounds_u8 h
  clear h
  go_enter Try.func5, Try.ntmps5
  go_wp2_with (go_at_call 8; refine hN.mono ?_; rintro e w1 ⟨p, mb, rfl, H1⟩; clear hN)
  obtain ⟨k, hk, hk1, hk2⟩ : ∃ k : Nat, 16382 + a % 4 = (k : Int) ∧ 1 ≤ k ∧ k ≤ 16385 := ⟨(16382 + a % 4).toNat, by omega, by omega, by omega⟩
  rw [hk]
  have hkz : (k : Int) ≤ 16385 := by omega
  clear hk hb
  go_loopw [5] (fun i wr => ∃ j : Nat, j ≤ k ∧ i = .int .i64 j ∧ Hid (Below w.heap.size w wr ∧ ∃ R L, L.length = min j 16384 ∧ FlAt wr w.heap.size p mb 0 (.map []) R L (fun _ _ => false))) (fun i _ => k - (intOf i).toNat)
  case atStart => exact ⟨0, by omega, rfl, H1.out.1, _, _, by simp, H1.out.2⟩
  case round =>
    obtain ⟨j, hj, rfl, HR⟩ := hrel
    clear H1
    obtain ⟨hb, R, L, hL, hF⟩ := HR.out
    by_cases hlt : j < k
    · have hjk : (j : Int) < (k : Int) := by omega
      by_cases hf : j < 16384
      · have hjz : (j : Int) < 16384 := by omega
        have hP : Calls Try.prog 17 #[.pointer (some ⟨p, 0, none⟩), .int .i64 1, .int .i64 (j : Int), .slice none 0 0] wr fun e w' => e = .returned (.bool true) ∧ Hid (Below w.heap.size w w' ∧ ∃ R L, L.length = min (j + 1) 16384 ∧ FlAt w' w.heap.size p mb 0 (.map []) R L (fun _ _ => false)) := by
          refine (post_yes hF 1 j (wfi_small (by omega) (by omega)) (wfi_small (by omega) (by omega)) none 0 0 [] (Sl.empty _) (by omega) (by omega)).mono fun e w' ⟨e1, H⟩ => ⟨e1, ?_⟩
          obtain ⟨R', m, h1, _, _, _, _, _, t1⟩ := H.out
          exact ⟨hb.trans (hF.out t1 hF.bw), R', _, by simp; omega, h1⟩
        clear hF hL hb HR
        go_wp2_with (go_at_call 17; refine hP.mono ?_; rintro e w2 ⟨rfl, HN⟩; clear hP)
        go_roundw
        case rel => exact ⟨j + 1, by omega, by go_num, HN.out⟩
        case measure => simp [intOf]; omega
      · have hjz : ¬ (j : Int) < 16384 := by omega
        have hP : Calls Try.prog 17 #[.pointer (some ⟨p, 0, none⟩), .int .i64 1, .int .i64 (j : Int), .slice none 0 0] wr fun e w' => e = .returned (.bool false) ∧ Hid (Below w.heap.size w w' ∧ ∃ R L, L.length = min (j + 1) 16384 ∧ FlAt w' w.heap.size p mb 0 (.map []) R L (fun _ _ => false)) := by
          refine (post_no hF 1 j _ (by omega)).mono fun e w' ⟨e1, hw⟩ => ⟨e1, ?_⟩
          subst hw
          exact ⟨hb, R, L, by omega, hF⟩
        clear hF hL hb HR
        go_wp2_with (go_at_call 17; refine hP.mono ?_; rintro e w2 ⟨rfl, HN⟩; clear hP)
        go_roundw
        case rel => exact ⟨j + 1, by omega, by go_num, HN.out⟩
        case measure => simp [intOf]; omega
    · obtain rfl : j = k := by omega
      have hT := tail_in hF (by omega) (by omega) (decide (j < 16384)) (by rw [hL]; simp; omega)
      have HB : Hid (Below w.heap.size w wr) := hb
      clear hF hL hb HR
      by_cases hf : j < 16384
      · have hjz : (j : Int) < 16384 := by omega
        rw [show decide (j < 16384) = true by simpa using hf] at hT
        clear hf
        go_wp2_with (first
          | (go_at_call 16; refine hT.mono ?_; rintro e w2 ⟨rfl, hD⟩; clear hT)
          | (go_at_call 18; refine hD.mono ?_; rintro e w3 ⟨rfl, hP⟩; clear hD)
          | (go_at_call 17; refine hP.mono ?_; rintro e w4 ⟨rfl, hA⟩; clear hP)
          | (go_at_call 14; refine hA.mono ?_; rintro e w5 ⟨rfl, HN⟩; clear hA))
        go_ret
        exact ⟨rfl, HB.out.trans HN.out⟩
      · have hjz : ¬ (j : Int) < 16384 := by omega
        rw [show decide (j < 16384) = false by simpa using hf] at hT
        clear hf
        go_wp2_with (first
          | (go_at_call 16; refine hT.mono ?_; rintro e w2 ⟨rfl, hD⟩; clear hT)
          | (go_at_call 18; refine hD.mono ?_; rintro e w3 ⟨rfl, hP⟩; clear hD)
          | (go_at_call 17; refine hP.mono ?_; rintro e w4 ⟨rfl, hA⟩; clear hP)
          | (go_at_call 14; refine hA.mono ?_; rintro e w5 ⟨rfl, HN⟩; clear hA))
        go_ret
        exact ⟨by show Ending.returned (.bool (!decide ((j : Int) < 16384))) = _; simp [hjz], HB.out.trans HN.out⟩

set_option maxRecDepth 100000 in
theorem lifted (os : Os) (started : os.Started) (H : Type) (enc : TypeId × Value → H) :
    ReturnsInHanded {} Try.checked os 5 .any (Rows.flightFullSpec.pre6 enc Try.prog Try.f5 Rows.flightFullRow.domain false) (Rows.flightFullSpec.post enc Try.prog Try.f5 false true false false) := by
  refine returnsInHanded_of_change_sized (C := Try.checked) own started (by kernel_rfl) Try.func5
    (ChangeSpec.witness6 (enc := enc) (C := Try.checked) false ⟨#[], #[.int .u8 0], []⟩ 8 (by kernel_rfl) (by kernel_rfl) (by kernel_rfl) (by kernel_rfl)) ?_
  intro W base args ds gs before hval0 hW hcnd hsz0 _
  have hsz : (DataW.weightsEach Try.prog (Try.f5.params.toList ++ Rows.flightFullSpec.plain.varTypes Try.prog) (ds ++ gs)).all (· ≤ reachBytes) = true := hsz0
  have hval : ∀ (j : Nat) t v, Try.f5.params[j]? = some t → args[j]? = some v → Value.okWide Try.prog W .any base t v := hval0
  have hW' := hW
  obtain ⟨p, q, hA0, hV, rfl, hfz, hnd⟩ := hW
  have hA : DataW.TrodAll enc Try.prog W 0 (fun _ => true) true Try.f5.params.toList args.toList ds p := hA0
  rw [Try.params5] at hA hval hsz
  obtain ⟨v0, vs0, d0, ds0, p0, q0, hargs, rfl, rfl, h0, r0⟩ := trodAll_cons hA
  obtain ⟨rfl, rfl, rfl⟩ := trodAll_nil r0
  obtain rfl : args = #[v0] := by cases args; simp_all
  obtain ⟨rfl, rfl⟩ := trodVars_none hV
  obtain ⟨a0, rfl, rfl, rfl, w0⟩ := open_int Try.underlying5 (hval 0 5 v0 rfl rfl) h0
  clear hA0 hval0
  refine (walk a0 W w0).mono fun e W' ⟨he, bel⟩ => ?_
  subst he
  exact ⟨_, rfl, _, _, _, [], _, [], hW', trodAll_mk1 (shut_bool Try.underlying4 _), (trodAll_cons_mk (shut_int Try.underlying5 w0) trodAll_mk0), rfl, bel.frame _, fun h => by cases h⟩

theorem over : Rows.flightFullRow.holds Try.pinned (OpenSpec.ofChange Rows.flightFullSpec) :=
  OpenClaim.holds_of_wide 5 Try.f5 rfl rfl rfl rfl rfl rfl rfl ⟨rfl, rfl, rfl, rfl, rfl⟩ rfl rfl rfl rfl rfl (by kernel_rfl) Try.func5 (by kernel_rfl)
    (of_decide_eq_true (by kernel_rfl)) (by unfold Func.isWrapper; first | (rw [if_pos (by decide +kernel)]; kernel_rfl) | (rw [if_neg (by decide +kernel)]; exact ⟨rfl, rfl⟩))
    (fun os started H enc _ => lifted os started H enc)

theorem proved : Rows.FlightFullSaid := over
#print axioms proved
end Go.Proofs.Ytmekbbddfmmbeaa.flightFull
