/-
  For any two pieces of bytes (at most 1,048,576 of them, spare places counted, as the statement's second form asks) the sum of the first, gone on over the second, is the whole's, and so are their sums, joined; and Join refuses every length below 0 or above 2^20: 'mooringlaw04.SumJoins' returns true and leaves its arguments as they were.
  Conditions: what comes in is of bulk at most 1,048,576.
-/
import Derived.Test.YthfdfebeemakkaaRows
import Derived.WalkKit
import Derived.ProofKit
import Derived.OpenShut
import Derived.SizedLaws
import Derived.ShutString
import Derived.ChangeOld
import Derived.Below
import Derived.JoinedCond
import Derived.Test.YthfdfebeemakkaaByUpto
import Derived.Test.YthfdfebeemakkaaByRows
import Derived.Test.YthfdfebeemakkaaSuStrip
namespace Go.Proofs.Ythfdfebeemakkaa.sumJoins
open Go.ChangeShapes Go.WideShapes Go.ChangeAt Go.RowKit By
open Su
set_option linter.unusedVariables false
set_option linter.unusedSimpArgs false

theorem own : ownKnob Try.prog.godebug = none := by kernel_rfl
theorem laidOut : laidOutB Try.prog = true := by kernel_rfl

set_option maxHeartbeats 1000000 in
set_option maxRecDepth 100000 in
theorem main (x y : Option Addr) (n c1 m c2 : Nat) (f g : Nat → Nat) (z : Int) (t : Bool) (w : World) (wx : BytesIn w x n c1 f) (wy : BytesIn w y m c2 g) (hn : n ≤ 1048576) (hm : m ≤ 1048576) (ht : decide (0 ≤ z ∧ z ≤ 1048576) = t) :
    Calls Try.prog 4 #[.slice x n c1, .slice y m c2, .int .i64 z] w fun e w' => e = .returned (.bool true) ∧ Below w.heap.size w w' := by
  obtain ⟨g1, k1, w1, hr1, hb1, ho1, _, _, _, _⟩ := bytes_copy w x n c1 f wx.row wx.nil (by omega)
  obtain ⟨R, w2, hr2, ho2, hb2, hnn⟩ := push_row w1 w w.heap.size _ n f ho1 hb1.size hb1 y m c2 g wy.nil (wy.row.below hb1) (by omega)
  obtain ⟨g2, k2, hR, _, _, _, _, hrow2⟩ := own_rowAt ho2 (fun h => by have := hnn h; simp at this)
  subst hR
  have hcat : ∀ i, cat f n g i < 256 := fun i => by
    unfold cat
    split
    · exact wx.lt i
    · exact wy.lt _
  have hrof := rof_any (n + m) k2 (some ⟨g2, 0, none⟩) (cat f n g) w2 hcat (by omega) hrow2
  have hA := sumOf_lt f n wx.lt
  have hB := sumOf_lt g m wy.lt
  have h1 := of_any n c1 x f w2 wx.lt (by omega) (wx.row.below hb2)
  have h3 := of_any m c2 y g w2 wy.lt (by omega) (wy.row.below hb2)
  have hmo := more_any (sumOf f n) m c2 y g w2 hA wy.lt (by omega) (wy.row.below hb2)
  have hj := join_yes (sumOf f n) (sumOf g m) m w2 hA hB hm
  rw [sum_more] at hmo
  rw [sum_join] at hj
  have h2 := h1
  have HB : Hid (Below w.heap.size w w2) := hb2
  generalize sumOf (cat f n g) (n + m) = V at hrof hmo hj
  generalize sumOf f n = A at *
  generalize sumOf g m = B at *
  obtain ⟨s, hs⟩ : ∃ s, s = n + m := ⟨_, rfl⟩
  rw [← hs] at hr2 hrof
  clear wx wy ho1 ho2 hb1 hb2 hnn hrow2 hcat hs
  cases t with
  | true =>
    obtain ⟨hz0, hz1⟩ := of_decide_eq_true ht
    clear ht
    go_enter Try.func4, Try.ntmps4
    go_wp2_with (first
      | (at_builtin; refine wpList_append_run rfl _ _ 22 rfl _ _ rfl rfl hr1 ?_; clear hr1)
      | (at_builtin; refine wpList_append_run rfl _ _ 22 rfl _ _ rfl rfl hr2 ?_; clear hr2)
      | (go_at_call 10; refine hrof.mono ?_; rintro e w' ⟨rfl, rfl⟩; clear hrof)
      | (go_at_call 7; refine h1.mono ?_; rintro e w' ⟨rfl, rfl⟩; clear h1)
      | (go_at_call 13; refine hmo.mono ?_; rintro e w' ⟨rfl, rfl⟩; clear hmo)
      | (go_at_call 7; refine h2.mono ?_; rintro e w' ⟨rfl, rfl⟩; clear h2)
      | (go_at_call 7; refine h3.mono ?_; rintro e w' ⟨rfl, rfl⟩; clear h3)
      | (go_at_call 14; refine hj.mono ?_; rintro e w' ⟨rfl, rfl⟩; clear hj)
      | (go_at_call 12; refine (awake_any _).mono ?_; rintro e x6 ⟨rfl, hb6⟩))
    go_ret
    exact ⟨rfl, HB.out.trans (hb6.mono HB.out.size)⟩
  | false =>
    have hz : z < 0 ∨ 1048576 < z := by
      have := of_decide_eq_false ht
      omega
    have hno := join_no 1 2 z w2 hz
    clear ht
    rcases (show z < 0 ∨ (¬ z < 0 ∧ 1048576 < z) by omega) with h0 | ⟨h0, h9⟩
    · clear hz
      go_enter Try.func4, Try.ntmps4
      go_wp2_with (first
        | (at_builtin; refine wpList_append_run rfl _ _ 22 rfl _ _ rfl rfl hr1 ?_; clear hr1)
        | (at_builtin; refine wpList_append_run rfl _ _ 22 rfl _ _ rfl rfl hr2 ?_; clear hr2)
        | (go_at_call 10; refine hrof.mono ?_; rintro e w' ⟨rfl, rfl⟩; clear hrof)
        | (go_at_call 7; refine h1.mono ?_; rintro e w' ⟨rfl, rfl⟩; clear h1)
        | (go_at_call 13; refine hmo.mono ?_; rintro e w' ⟨rfl, rfl⟩; clear hmo)
        | (go_at_call 7; refine h2.mono ?_; rintro e w' ⟨rfl, rfl⟩; clear h2)
        | (go_at_call 7; refine h3.mono ?_; rintro e w' ⟨rfl, rfl⟩; clear h3)
        | (go_at_call 14; refine hj.mono ?_; rintro e w' ⟨rfl, rfl⟩; clear hj)
        | (go_at_call 14; refine hno.mono ?_; rintro e w' ⟨rfl, rfl⟩; clear hno)
        | (go_at_call 12; refine (awake_any _).mono ?_; rintro e x6 ⟨rfl, hb6⟩))
      go_ret
      exact ⟨rfl, HB.out.trans (hb6.mono HB.out.size)⟩
    · clear hz
      go_enter Try.func4, Try.ntmps4
      go_wp2_with (first
        | (at_builtin; refine wpList_append_run rfl _ _ 22 rfl _ _ rfl rfl hr1 ?_; clear hr1)
        | (at_builtin; refine wpList_append_run rfl _ _ 22 rfl _ _ rfl rfl hr2 ?_; clear hr2)
        | (go_at_call 10; refine hrof.mono ?_; rintro e w' ⟨rfl, rfl⟩; clear hrof)
        | (go_at_call 7; refine h1.mono ?_; rintro e w' ⟨rfl, rfl⟩; clear h1)
        | (go_at_call 13; refine hmo.mono ?_; rintro e w' ⟨rfl, rfl⟩; clear hmo)
        | (go_at_call 7; refine h2.mono ?_; rintro e w' ⟨rfl, rfl⟩; clear h2)
        | (go_at_call 7; refine h3.mono ?_; rintro e w' ⟨rfl, rfl⟩; clear h3)
        | (go_at_call 14; refine hj.mono ?_; rintro e w' ⟨rfl, rfl⟩; clear hj)
        | (go_at_call 14; refine hno.mono ?_; rintro e w' ⟨rfl, rfl⟩; clear hno)
        | (go_at_call 12; refine (awake_any _).mono ?_; rintro e x6 ⟨rfl, hb6⟩))
      go_ret
      exact ⟨rfl, HB.out.trans (hb6.mono HB.out.size)⟩

theorem walk (x : Option Addr) (n c1 : Nat) (f : Nat → Nat) (y : Option Addr) (m c2 : Nat) (g : Nat → Nat) (z : Int) (w : World) (wx : BytesIn w x n c1 f) (hn : n ≤ 1048576) (wy : BytesIn w y m c2 g) (hm : m ≤ 1048576) (w2 : (Lit.int .i64 z).wf = true) :
    Calls Try.prog 4 #[.slice x n c1, .slice y m c2, .int .i64 z] w fun e w' => e = .returned (.bool true) ∧ Below w.heap.size w w' :=
  main x y n c1 m c2 f g z _ w wx wy hn hm rfl

set_option maxRecDepth 100000 in
theorem lifted (os : Os) (started : os.Started) (H : Type) (enc : TypeId × Value → H) (F : Stop.Interp) :
    ReturnsInHanded {} Try.checked os 4 .any ((Rows.OpenSpec.upto Rows.sumJoinsSpec).pre6 enc Try.prog Try.f4 Rows.sumJoinsUptoRow.domain false) (((Rows.OpenSpec.upto Rows.sumJoinsSpec).at F).post enc Try.prog Try.f4 false true false false) := by
  refine returnsInHanded_of_cond (C := Try.checked) (s := Rows.OpenSpec.upto Rows.sumJoinsSpec) (k := Rows.uptoSmall) rfl own started (by kernel_rfl) Try.func4
    (OpenSpec.witness (enc := enc) (C := Try.checked) (s := Rows.OpenSpec.upto Rows.sumJoinsSpec) (k := Rows.uptoSmall) rfl false ⟨#[], #[.slice none 0 0, .slice none 0 0, .int .i64 0], []⟩ 8 (by kernel_rfl) (by kernel_rfl) (by kernel_rfl)
      (x := ([.nil, .nil, .lit (.int .i64 0)], [], [])) (by kernel_rfl) rfl (by kernel_rfl)) ?_
  intro W base args ds gs before hval0 hW _ hk0 _
  have hk : Rows.uptoBulkAll (ds ++ gs) ≤ 1048576 := of_decide_eq_true hk0
  have hval : ∀ (j : Nat) t v, Try.f4.params[j]? = some t → args[j]? = some v → Value.okWide Try.prog W .any base t v := hval0
  have hW' := hW
  obtain ⟨p, q, hA0, hV, rfl, hfz, hnd⟩ := hW
  have hA : DataW.TrodAll enc Try.prog W 0 (fun _ => true) true Try.f4.params.toList args.toList ds p := hA0
  rw [Try.params4] at hA hval
  obtain ⟨v0, vs0, d0, ds0, p0, q0, hargs, rfl, rfl, h0, r0⟩ := trodAll_cons hA
  obtain ⟨v1, vs1, d1, ds1, p1, q1, rfl, rfl, rfl, h1, r1⟩ := trodAll_cons r0
  obtain ⟨v2, vs2, d2, ds2, p2, q2, rfl, rfl, rfl, h2, r2⟩ := trodAll_cons r1
  obtain ⟨rfl, rfl, rfl⟩ := trodAll_nil r2
  obtain rfl : args = #[v0, v1, v2] := by cases args; simp_all
  obtain ⟨rfl, rfl⟩ := trodVars_none hV
  simp only [List.append_nil, Rows.uptoBulkAll] at hk
  have k0 := h0
  have lt0 : ∀ x ∈ p0, x.block < W.heap.size := by obtain ⟨m, hm⟩ := k0; exact DataW.trod_lt m _ _ _ hm
  have s0 : Rows.uptoBulk d0 ≤ 1048576 := by omega
  obtain ⟨b0, nn0, cc0, rfl⟩ := okWide_slice Try.underlying22 (hval 0 22 v0 rfl rfl)
  obtain ⟨fu0, hf0⟩ := h0
  obtain ⟨a0, len0, cap0, f0, e0, w0, m0⟩ := bytes_in_upto hf0 s0
  simp [Value.cells] at e0
  obtain ⟨rfl, rfl, rfl⟩ := e0
  have k1 := h1
  have lt1 : ∀ x ∈ p1, x.block < W.heap.size := by obtain ⟨m, hm⟩ := k1; exact DataW.trod_lt m _ _ _ hm
  have s1 : Rows.uptoBulk d1 ≤ 1048576 := by omega
  obtain ⟨b1, nn1, cc1, rfl⟩ := okWide_slice Try.underlying22 (hval 1 22 v1 rfl rfl)
  obtain ⟨fu1, hf1⟩ := h1
  obtain ⟨a1, len1, cap1, f1, e1, w1, m1⟩ := bytes_in_upto hf1 s1
  simp [Value.cells] at e1
  obtain ⟨rfl, rfl, rfl⟩ := e1
  obtain ⟨a2, rfl, rfl, rfl, w2⟩ := open_int Try.underlying3 (hval 2 3 v2 rfl rfl) h2
  clear hA0 hval0
  refine (walk b0 nn0 cc0 f0 b1 nn1 cc1 f1 a2 W w0 m0 w1 m1 w2).mono fun e W' ⟨he, bel⟩ => ?_
  subst he
  exact ⟨_, rfl, _, _, _, [], _, [], hW', trodAll_mk1 (shut_bool Try.underlying4 _), (trodAll_cons_mk (Below.trod laidOut (by kernel_rfl) (of_decide_eq_true (by kernel_rfl)) k0 bel lt0) (trodAll_cons_mk (Below.trod laidOut (by kernel_rfl) (of_decide_eq_true (by kernel_rfl)) k1 bel lt1) (trodAll_cons_mk (shut_int Try.underlying3 w2) trodAll_mk0))), rfl, bel.frame _, fun h => by cases h⟩

theorem over : Rows.sumJoinsUptoRow.holds Try.pinned (Rows.OpenSpec.upto Rows.sumJoinsSpec) :=
  OpenClaim.holds_of_cond 4 Try.f4 rfl rfl rfl rfl rfl rfl rfl ⟨rfl, rfl, rfl, rfl, rfl⟩ rfl rfl rfl rfl rfl (by kernel_rfl) Try.func4 (by kernel_rfl)
    (of_decide_eq_true (by kernel_rfl)) (by unfold Func.isWrapper; first | (rw [if_pos (by decide +kernel)]; kernel_rfl) | (rw [if_neg (by decide +kernel)]; exact ⟨rfl, rfl⟩))
    (fun os started H enc _ F => lifted os started H enc F)

theorem proved : Rows.SumJoinsUptoSaid := over
#print axioms proved
end Go.Proofs.Ythfdfebeemakkaa.sumJoins
