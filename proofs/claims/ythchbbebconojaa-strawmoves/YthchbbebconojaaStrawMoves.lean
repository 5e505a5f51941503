/-
  If the weight of any one of any list is turned, nobody else's lot moves but to it, or from it: 'mooringlaw16.StrawMoves' returns true and leaves its arguments as they were.
  Conditions: none.
-/
import Derived.Test.YthchbbebconojaaRows
import Derived.WalkKit
import Derived.ProofKit
import Derived.OpenShut
import Derived.SizedLaws
import Derived.ShutString
import Derived.ChangeOld
import Derived.Below
import Derived.Test.YthchbbebconojaaByRows
import Derived.Test.YthchbbebconojaaSrItem
import Derived.Test.YthchbbebconojaaSrTurn
import Derived.Lib.AppendZerosOnto
namespace Go.Proofs.Ythchbbebconojaa.strawMoves
open Go.ChangeShapes Go.WideShapes Go.ChangeAt Go.RowKit By
open Fl Mi Sr
set_option linter.unusedVariables false
set_option linter.unusedSimpArgs false
set_option maxRecDepth 100000

theorem own : ownKnob Try.prog.godebug = none := by kernel_rfl
theorem laidOut : laidOutB Try.prog = true := by kernel_rfl

set_option maxHeartbeats 1600000 in
theorem walk (x : Option Addr) (n c : Nat) (L : List Wd) (a b : Int) (a2 : Int) (w : World) (h : Ws w x n c L) (w2 : (Lit.int .u32 a2).wf = true) :
    Calls Try.prog 5 #[.slice x n c, .agg #[.int .i64 a, .int .i64 b], .int .u32 a2] w fun e w' => e = .returned (.bool true) ∧ Below w.heap.size w w' := by
  have b2 := bounds_u32 w2
  obtain ⟨y, rfl⟩ := Int.eq_ofNat_of_zero_le b2.1
  have hy : y < 4294967296 := by omega
  clear w2 b2
  have hm := h.small
  have b0 := al w (.cells #[.int .i64 a, .int .i64 b] 33)
  by_cases h0 : n = 0
  · subst h0
    go_enter Try.func5, Try.ntmps5
    go_wp2_with (go_at_call 10; refine (awake_any _).mono ?_; rintro e w4 ⟨rfl, hb4⟩)
    go_ret
    exact ⟨rfl, on b0 hb4⟩
  have hn1 : 1 ≤ n := by omega
  have hn0 : ((n : Int) == 0) = false := by simp; omega
  obtain ⟨q0, q1, i, hi, hT⟩ := place_of a n hn1
  obtain ⟨x', c', wC, hcp, HC⟩ := copy_big (h.below b0)
  rw [show (w.alloc (.cells #[.int .i64 a, .int .i64 b] 33)).heap.size = w.heap.size + 1 by simp] at hcp
  have HCC : Hid (Own wC (w.heap.size + 1) 23 2 enW (.slice x' n c') L) := by
    have := HC.out.1
    rw [show (w.alloc (.cells #[.int .i64 a, .int .i64 b] 33)).heap.size = w.heap.size + 1 by simp] at this
    exact this
  have hBC := HC.out.2
  clear HC
  obtain ⟨g, rfl, hg1, hg2, hcc⟩ := own_some HCC.out h.len hn1
  obtain ⟨m, hLm⟩ : ∃ m, L[i]? = some m := ⟨L[i]'(by have := h.len; omega), List.getElem?_eq_getElem (by have := h.len; omega)⟩
  have k1 := keep hBC (b := w.heap.size) (o := 1) (x := .int .i64 b) (by go_simp)
  have hfz : wC.frozen? ⟨g, i * 2 + 1, none⟩ = false := HCC.out.frozen
  have hkc : ∃ v, wC.cell? ⟨g, i * 2 + 1, none⟩ = some v := ⟨_, HCC.out.cell wrow.len hLm (j := 1) rfl⟩
  obtain ⟨v1, k2⟩ := hkc
  have HB : Hid (Below w.heap.size w (wC.setCell ⟨g, i * 2 + 1, none⟩ (.int .i64 b))) := (on b0 hBC).setCell (p := ⟨g, i * 2 + 1, none⟩) (show w.heap.size ≤ g by omega) _
  have ow : Own (wC.setCell ⟨g, i * 2 + 1, none⟩ (.int .i64 b)) (w.heap.size + 1) 23 2 enW (.slice (some ⟨g, 0, none⟩) n c') (L.set i ⟨m.id, b⟩) := own_turn HCC.out hLm b
  have HK : Hid (Ws (wC.setCell ⟨g, i * 2 + 1, none⟩ (.int .i64 b)) (some ⟨g, 0, none⟩) n c' (L.set i ⟨m.id, b⟩)) := own_ws ow (by rw [List.length_set, h.len]; exact hm)
  have c1 := choose_any (h.below HB.out) y 0 hy (by omega)
  have C2 : Hid (∀ W, Below (wC.setCell ⟨g, i * 2 + 1, none⟩ (.int .i64 b)).heap.size (wC.setCell ⟨g, i * 2 + 1, none⟩ (.int .i64 b)) W → Calls Try.prog 11 #[.slice (some ⟨g, 0, none⟩) n c', .int .u32 (y : Nat), .int .u32 0] W fun e w' => e = .returned (.int .i64 (cho (DL y 0 (L.set i ⟨m.id, b⟩)) n)) ∧ Below W.heap.size W w') := fun W hb => choose_any (HK.out.below hb) y 0 hy (by omega)
  have hmv := moves (n := n) (i := i) (fun k hk => (DL_set (y := y) (r := 0) L ⟨m.id, b⟩ hk).symm)
  have HMV := hid hmv
  clear ow hLm h HK HCC hmv
  generalize cho (DL y 0 (L.set i ⟨m.id, b⟩)) n = R at *
  generalize cho (DL y 0 L) n = S at *
  have hfin : S = R ∨ ((S == R) = false ∧ S = i) ∨ ((S == R) = false ∧ (S == (i : Int)) = false ∧ R = i) := by
    by_cases e1 : S = R
    · exact .inl e1
    · right
      by_cases e2 : S = i
      · exact .inl ⟨by simpa using e1, e2⟩
      · rcases HMV.out with q | q | q
        · exact absurd q e1
        · exact absurd q e2
        · exact .inr ⟨by simpa using e1, by simpa using e2, q⟩
  have hii : (i : Int) < (n : Int) := by omega
  have hncc : (n : Int) ≤ (c' : Int) := by omega
  obtain ⟨T, eT⟩ : ∃ T, a.tmod (n : Int) = T := ⟨_, rfl⟩
  rw [eT] at hT q0 q1
  clear HMV h0 hn1
  rcases hT with ⟨ht, HT⟩ | ⟨ht, rfl⟩
  all_goals (
    rcases hfin with rfl | ⟨f1, rfl⟩ | ⟨f1, f2, rfl⟩
    all_goals (
      go_enter Try.func5, Try.ntmps5
      go_wp2_with (first
        | (at_builtin; refine Lib.wpList_append_run _ rfl _ _ _ _ rfl _ _ rfl rfl _ _ hcp ?_)
        | (go_at_call 11; refine c1.mono ?_; rintro e w1 ⟨rfl, hb1⟩; have c2 := C2.out _ hb1; clear c1)
        | (go_at_call 11; refine c2.mono ?_; rintro e w2 ⟨rfl, hb2⟩)
        | (go_at_call 10; refine (awake_any _).mono ?_; rintro e w4 ⟨rfl, hb4⟩))
      go_ret
      exact ⟨rfl, on HB.out (on (on hb1 hb2) hb4)⟩))

set_option maxRecDepth 100000 in
theorem lifted (os : Os) (started : os.Started) (H : Type) (enc : TypeId × Value → H) :
    ReturnsInHanded {} Try.checked os 5 .any (Rows.strawMovesSpec.pre6 enc Try.prog Try.f5 Rows.strawMovesRow.domain false) (Rows.strawMovesSpec.post enc Try.prog Try.f5 false true false false) := by
  refine returnsInHanded_of_change_sized (C := Try.checked) own started (by kernel_rfl) Try.func5
    (ChangeSpec.witness6 (enc := enc) (C := Try.checked) false ⟨#[], #[.slice none 0 0, .agg #[.int .i64 0, .int .i64 0], .int .u32 0], []⟩ 8 (by kernel_rfl) (by kernel_rfl) (by kernel_rfl) (by kernel_rfl)) ?_
  intro W base args ds gs before hval0 hW hcnd hsz0 _
  have hsz : (DataW.weightsEach Try.prog (Try.f5.params.toList ++ Rows.strawMovesSpec.plain.varTypes Try.prog) (ds ++ gs)).all (· ≤ reachBytes) = true := hsz0
  have hval : ∀ (j : Nat) t v, Try.f5.params[j]? = some t → args[j]? = some v → Value.okWide Try.prog W .any base t v := hval0
  have hW' := hW
  obtain ⟨p, q, hA0, hV, rfl, hfz, hnd⟩ := hW
  have hA : DataW.TrodAll enc Try.prog W 0 (fun _ => true) true Try.f5.params.toList args.toList ds p := hA0
  rw [Try.params5] at hA hval hsz
  obtain ⟨v0, vs0, d0, ds0, p0, q0, hargs, rfl, rfl, h0, r0⟩ := trodAll_cons hA
  obtain ⟨v1, vs1, d1, ds1, p1, q1, rfl, rfl, rfl, h1, r1⟩ := trodAll_cons r0
  obtain ⟨v2, vs2, d2, ds2, p2, q2, rfl, rfl, rfl, h2, r2⟩ := trodAll_cons r1
  obtain ⟨rfl, rfl, rfl⟩ := trodAll_nil r2
  obtain rfl : args = #[v0, v1, v2] := by cases args; simp_all
  obtain ⟨rfl, rfl⟩ := trodVars_none hV
  have k0 := h0
  have lt0 : ∀ x ∈ p0, x.block < W.heap.size := by obtain ⟨m, hm⟩ := k0; exact DataW.trod_lt m _ _ _ hm
  have s0 : ∀ x ∈ d0.weights Try.prog 29, x ≤ reachBytes := fun x hx => by
    have := List.all_eq_true.1 hsz x (DataW.weights_mem_each (j := 0) rfl rfl x hx)
    simpa using this
  obtain ⟨b0, nn0, cc0, rfl⟩ := okWide_slice Try.underlying29 (hval 0 29 v0 rfl rfl)
  obtain ⟨fu0, hf0⟩ := h0
  obtain ⟨a0, len0, cap0, V0, e0, w0⟩ := Sr.ws_in hf0 s0
  simp [Value.cells] at e0
  obtain ⟨rfl, rfl, rfl⟩ := e0
  have k1 := h1
  have lt1 : ∀ x ∈ p1, x.block < W.heap.size := by obtain ⟨m, hm⟩ := k1; exact DataW.trod_lt m _ _ _ hm
  have s1 : ∀ x ∈ d1.weights Try.prog 33, x ≤ reachBytes := fun x hx => by
    have := List.all_eq_true.1 hsz x (DataW.weights_mem_each (j := 1) rfl rfl x hx)
    simpa using this
  obtain ⟨V1, U1, rfl⟩ := Sr.two_in (Sr.okWide_array Try.underlying33 (hval 1 33 v1 rfl rfl)) h1
  obtain ⟨a2, rfl, rfl, rfl, w2⟩ := open_int Try.underlying24 (hval 2 24 v2 rfl rfl) h2
  clear hA0 hval0
  refine (walk b0 nn0 cc0 V0 V1 U1 a2 W w0 w2).mono fun e W' ⟨he, bel⟩ => ?_
  subst he
  exact ⟨_, rfl, _, _, _, [], _, [], hW', trodAll_mk1 (shut_bool Try.underlying4 _), (trodAll_cons_mk (Below.trod laidOut (by kernel_rfl) (of_decide_eq_true (by kernel_rfl)) k0 bel lt0) (trodAll_cons_mk (Below.trod laidOut (by kernel_rfl) (of_decide_eq_true (by kernel_rfl)) k1 bel lt1) (trodAll_cons_mk (shut_int Try.underlying24 w2) trodAll_mk0))), rfl, bel.frame _, fun h => by cases h⟩

theorem over : Rows.strawMovesRow.holds Try.pinned (OpenSpec.ofChange Rows.strawMovesSpec) :=
  OpenClaim.holds_of_wide 5 Try.f5 rfl rfl rfl rfl rfl rfl rfl ⟨rfl, rfl, rfl, rfl, rfl⟩ rfl rfl rfl rfl rfl (by kernel_rfl) Try.func5 (by kernel_rfl)
    (of_decide_eq_true (by kernel_rfl)) (by unfold Func.isWrapper; first | (rw [if_pos (by decide +kernel)]; kernel_rfl) | (rw [if_neg (by decide +kernel)]; exact ⟨rfl, rfl⟩))
    (fun os started H enc _ => lifted os started H enc)

theorem proved : Rows.StrawMovesSaid := over
#print axioms proved
end Go.Proofs.Ythchbbebconojaa.strawMoves
