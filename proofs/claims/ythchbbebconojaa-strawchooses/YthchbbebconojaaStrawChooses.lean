/-
  Who of any list is chosen, for any two numbers of 32 bits, and all weights, added, are what the document says: 'mooringlaw16.StrawChooses' returns true and leaves its arguments as they were.
  Conditions: none.
-/
import Derived.Test.YthchbbebconojaaRows
import Derived.WalkKit
import Derived.ProofKit
import Derived.OpenShut
import Derived.SizedLaws
import Derived.ShutString
import Derived.ChangeOld
import Derived.Below
import Derived.Test.YthchbbebconojaaByRows
import Derived.Test.YthchbbebconojaaSrItem
import Derived.Test.YthchbbebconojaaSrTotal
namespace Go.Proofs.Ythchbbebconojaa.strawChooses
open Go.ChangeShapes Go.WideShapes Go.ChangeAt Go.RowKit By
open Fl Mi Sr
set_option linter.unusedVariables false
set_option linter.unusedSimpArgs false
set_option maxRecDepth 100000

theorem own : ownKnob Try.prog.godebug = none := by kernel_rfl
theorem laidOut : laidOutB Try.prog = true := by kernel_rfl

set_option maxHeartbeats 1600000 in
theorem walk (x : Option Addr) (n c : Nat) (L : List Wd) (a1 : Int) (a2 : Int) (w : World) (h : Ws w x n c L) (w1 : (Lit.int .u32 a1).wf = true) (w2 : (Lit.int .u32 a2).wf = true) :
    Calls Try.prog 4 #[.slice x n c, .int .u32 a1, .int .u32 a2] w fun e w' => e = .returned (.bool true) ∧ Below w.heap.size w w' := by
  have b1 := bounds_u32 w1
  obtain ⟨y, rfl⟩ := Int.eq_ofNat_of_zero_le b1.1
  have hy : y < 4294967296 := by omega
  have b2 := bounds_u32 w2
  obtain ⟨r, rfl⟩ := Int.eq_ofNat_of_zero_le b2.1
  have hr : r < 4294967296 := by omega
  clear w1 w2 b1 b2
  have c1 := choose_any h y r hy hr
  have HO : Hid (Ws w x n c L) := h
  have C2 : Hid (∀ W, Below w.heap.size w W → Calls Try.prog 12 #[.slice x n c, .int .u32 (y : Nat), .int .u32 (r : Nat)] W fun e w' => e = .returned (.int .i64 (cho (DL y r L) n)) ∧ Below W.heap.size W w') := fun W hb => rchoose_any (HO.out.below hb) y r hy hr
  have C3 : Hid (∀ W, Below w.heap.size w W → Calls Try.prog 13 #[.slice x n c] W fun e w' => e = .returned (.int .i64 (tot wrap64 L n)) ∧ Below W.heap.size W w') := fun W hb => total_any (HO.out.below hb)
  have hm := h.small
  have HL : Hid (L.length = n) := h.len
  clear h
  generalize cho (DL y r L) n = R at *
  go_enter Try.func4, Try.ntmps4
  go_wp2_with fail
  go_loop [8, 7] (fun i a => ∃ (k : Nat) (C : Int), k ≤ n ∧ i = .int .i64 k ∧ a = .int .i64 C ∧ Hid (tot wrap64 L k = C)) (fun i _ => n - (intOf i).toNat)
  case atStart => exact ⟨0, 0, by omega, rfl, rfl, rfl⟩
  case round =>
    obtain ⟨k, C, hk, rfl, rfl, HR⟩ := hrel
    by_cases hlt : k < n
    · have hkn : (k : Int) < (n : Int) := by omega
      obtain ⟨m, hLm⟩ : ∃ m, L[k]? = some m := ⟨L[k]'(by have := HL.out; omega), List.getElem?_eq_getElem (by have := HL.out; omega)⟩
      rcases HO.out.row with h0 | ⟨b, o, rfl, hbl, hcell⟩
      · omega
      obtain ⟨k0, k1⟩ := hcell k m hLm
      have HY : Hid (okB m = true → tot wrap64 L (k + 1) = wrap64 (C + m.wt)) := fun q => by rw [tot_yes hLm q, HR.out]
      have HN : Hid (okB m = false → tot wrap64 L (k + 1) = C) := fun q => by rw [tot_no hLm q, HR.out]
      clear hLm hcell
      obtain ⟨id, wt⟩ := m
      unfold okB at HY HN
      dsimp only at k0 k1 HY HN
      by_cases h1 : 1 ≤ wt
      · by_cases h2 : wt ≤ 1073741824
        · have HY2 := hid (HY.out (decide_eq_true ⟨h1, h2⟩))
          clear HY HN
          go_wp2_with fail
          go_round
          case rel => exact ⟨k + 1, wrap64 (C + wt), by omega, by go_num, rfl, HY2.out⟩
          case measure => simp [intOf]; omega
        · have HN2 := hid (HN.out (decide_eq_false (fun q => h2 q.2)))
          have h3 : decide (wt ≤ 1073741824) = false := decide_eq_false h2
          clear HY HN h2
          go_wp2_with fail
          go_round
          case rel => exact ⟨k + 1, C, by omega, by go_num, rfl, HN2.out⟩
          case measure => simp [intOf]; omega
      · have HN2 := hid (HN.out (decide_eq_false (fun q => h1 q.1)))
        have h3 : decide (1 ≤ wt) = false := decide_eq_false h1
        clear HY HN h1
        go_wp2_with fail
        go_round
        case rel => exact ⟨k + 1, C, by omega, by go_num, rfl, HN2.out⟩
        case measure => simp [intOf]; omega
    · have hk2 : k = n := by omega
      subst hk2
      rw [HR.out] at C3
      go_wp2_with (first
        | (go_at_call 11; refine c1.mono ?_; rintro e w1 ⟨rfl, hb1⟩; have c2 := C2.out _ hb1; clear c1)
        | (go_at_call 12; refine c2.mono ?_; rintro e w2 ⟨rfl, hb2⟩; have c3 := C3.out _ (on hb1 hb2); clear c2)
        | (go_at_call 13; refine c3.mono ?_; rintro e w3 ⟨rfl, hb3⟩; clear c3)
        | (go_at_call 10; refine (awake_any _).mono ?_; rintro e w4 ⟨rfl, hb4⟩))
      go_ret
      exact ⟨rfl, on (on (on hb1 hb2) hb3) hb4⟩

set_option maxRecDepth 100000 in
theorem lifted (os : Os) (started : os.Started) (H : Type) (enc : TypeId × Value → H) :
    ReturnsInHanded {} Try.checked os 4 .any (Rows.strawChoosesSpec.pre6 enc Try.prog Try.f4 Rows.strawChoosesRow.domain false) (Rows.strawChoosesSpec.post enc Try.prog Try.f4 false true false false) := by
  refine returnsInHanded_of_change_sized (C := Try.checked) own started (by kernel_rfl) Try.func4
    (ChangeSpec.witness6 (enc := enc) (C := Try.checked) false ⟨#[], #[.slice none 0 0, .int .u32 0, .int .u32 0], []⟩ 8 (by kernel_rfl) (by kernel_rfl) (by kernel_rfl) (by kernel_rfl)) ?_
  intro W base args ds gs before hval0 hW hcnd hsz0 _
  have hsz : (DataW.weightsEach Try.prog (Try.f4.params.toList ++ Rows.strawChoosesSpec.plain.varTypes Try.prog) (ds ++ gs)).all (· ≤ reachBytes) = true := hsz0
  have hval : ∀ (j : Nat) t v, Try.f4.params[j]? = some t → args[j]? = some v → Value.okWide Try.prog W .any base t v := hval0
  have hW' := hW
  obtain ⟨p, q, hA0, hV, rfl, hfz, hnd⟩ := hW
  have hA : DataW.TrodAll enc Try.prog W 0 (fun _ => true) true Try.f4.params.toList args.toList ds p := hA0
  rw [Try.params4] at hA hval hsz
  obtain ⟨v0, vs0, d0, ds0, p0, q0, hargs, rfl, rfl, h0, r0⟩ := trodAll_cons hA
  obtain ⟨v1, vs1, d1, ds1, p1, q1, rfl, rfl, rfl, h1, r1⟩ := trodAll_cons r0
  obtain ⟨v2, vs2, d2, ds2, p2, q2, rfl, rfl, rfl, h2, r2⟩ := trodAll_cons r1
  obtain ⟨rfl, rfl, rfl⟩ := trodAll_nil r2
  obtain rfl : args = #[v0, v1, v2] := by cases args; simp_all
  obtain ⟨rfl, rfl⟩ := trodVars_none hV
  have k0 := h0
  have lt0 : ∀ x ∈ p0, x.block < W.heap.size := by obtain ⟨m, hm⟩ := k0; exact DataW.trod_lt m _ _ _ hm
  have s0 : ∀ x ∈ d0.weights Try.prog 29, x ≤ reachBytes := fun x hx => by
    have := List.all_eq_true.1 hsz x (DataW.weights_mem_each (j := 0) rfl rfl x hx)
    simpa using this
  obtain ⟨b0, nn0, cc0, rfl⟩ := okWide_slice Try.underlying29 (hval 0 29 v0 rfl rfl)
  obtain ⟨fu0, hf0⟩ := h0
  obtain ⟨a0, len0, cap0, V0, e0, w0⟩ := Sr.ws_in hf0 s0
  simp [Value.cells] at e0
  obtain ⟨rfl, rfl, rfl⟩ := e0
  obtain ⟨a1, rfl, rfl, rfl, w1⟩ := open_int Try.underlying24 (hval 1 24 v1 rfl rfl) h1
  obtain ⟨a2, rfl, rfl, rfl, w2⟩ := open_int Try.underlying24 (hval 2 24 v2 rfl rfl) h2
  clear hA0 hval0
  refine (walk b0 nn0 cc0 V0 a1 a2 W w0 w1 w2).mono fun e W' ⟨he, bel⟩ => ?_
  subst he
  exact ⟨_, rfl, _, _, _, [], _, [], hW', trodAll_mk1 (shut_bool Try.underlying4 _), (trodAll_cons_mk (Below.trod laidOut (by kernel_rfl) (of_decide_eq_true (by kernel_rfl)) k0 bel lt0) (trodAll_cons_mk (shut_int Try.underlying24 w1) (trodAll_cons_mk (shut_int Try.underlying24 w2) trodAll_mk0))), rfl, bel.frame _, fun h => by cases h⟩

theorem over : Rows.strawChoosesRow.holds Try.pinned (OpenSpec.ofChange Rows.strawChoosesSpec) :=
  OpenClaim.holds_of_wide 4 Try.f4 rfl rfl rfl rfl rfl rfl rfl ⟨rfl, rfl, rfl, rfl, rfl⟩ rfl rfl rfl rfl rfl (by kernel_rfl) Try.func4 (by kernel_rfl)
    (of_decide_eq_true (by kernel_rfl)) (by unfold Func.isWrapper; first | (rw [if_pos (by decide +kernel)]; kernel_rfl) | (rw [if_neg (by decide +kernel)]; exact ⟨rfl, rfl⟩))
    (fun os started H enc _ => lifted os started H enc)

theorem proved : Rows.StrawChoosesSaid := over
#print axioms proved
end Go.Proofs.Ythchbbebconojaa.strawChooses
