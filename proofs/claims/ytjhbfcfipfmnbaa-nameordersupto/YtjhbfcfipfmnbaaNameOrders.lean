/-
  Texts are ordered by their runes, strictly and wholly: 'mooringlaw06.NameOrders' returns true and leaves its arguments as they were.
  Conditions: the bulk's bound.
-/
import Derived.Test.YtjhbfcfipfmnbaaRows
import Derived.WalkKit
import Derived.ProofKit
import Derived.OpenShut
import Derived.SizedLaws
import Derived.ShutString
import Derived.ChangeOld
import Derived.Below
import Derived.ChangeMaps5
import Derived.JoinedCond
import Derived.Test.YtjhbfcfipfmnbaaNaRefLess
import Derived.Test.YtjhbfcfipfmnbaaNaWhy
namespace Go.Proofs.Ytjhbfcfipfmnbaa.nameOrders
open Go.ChangeShapes Go.WideShapes Go.ChangeAt Go.RowKit Na Go.ChangeMaps
set_option linter.unusedVariables false
set_option linter.unusedSimpArgs false

theorem own : ownKnob Try.prog.godebug = none := by kernel_rfl
theorem laidOut : laidOutB Try.prog = true := by kernel_rfl

set_option maxHeartbeats 4000000 in
set_option maxRecDepth 100000 in
theorem walk (a b c : ByteArray) (w : World) (ha : a.size ≤ 1048576) (hb : b.size ≤ 1048576) (hc : c.size ≤ 1048576) :
    Calls Try.prog 6 #[.string a, .string b, .string c] w fun e w' => e = .returned (.bool true) ∧ Below w.heap.size w w' := by
  have cA : ∀ v, Calls Try.prog 14 #[] v fun e w' => e = .returned (.bool true) ∧ Below v.heap.size v w' := awake_any
  have cL : ∀ x y v, Calls Try.prog 20 #[.string x, .string y] v fun e w' => e = .returned (.bool (lessN (nat x) (nat y))) ∧ w' = v := fun x y v => less_any x y _ v rfl
  have cR : ∀ v, Calls Try.prog 21 #[.string a, .string b] v fun e w' => e = .returned (.bool (lessN (nat a) (nat b))) ∧ Below v.heap.size v w' := fun v => rless_any a b _ v ha hb rfl
  have haa := less_irrefl (nat a)
  clear ha hb hc
  by_cases hab : a = b
  · subst hab
    go_enter Try.func6, Try.ntmps6
    go_wp2_with (first
      | (go_at_call 20; refine (cL _ _ _).mono ?_; rintro e w' ⟨rfl, rfl⟩)
      | (go_at_call 21; refine (cR _).mono ?_; clear cR; rintro e w2 ⟨rfl, hb2⟩)
      | (go_at_call 14; refine (cA _).mono ?_; clear cA; rintro e w3 ⟨rfl, hb3⟩))
    go_ret
    exact ⟨rfl, below_two hb2 hb3⟩
  · have hne : nat a ≠ nat b := fun e => hab (nat_inj e)
    have hq : (a.toList == b.toList) = false := beq_nat a b false ⟨fun e => absurd e hne, fun e => by cases e⟩
    have htot := less_total (nat a) (nat b) hne
    cases h1 : lessN (nat a) (nat b) with
    | false =>
      have h2 : lessN (nat b) (nat a) = true := by
        cases h2 : lessN (nat b) (nat a) with
        | true => rfl
        | false => rw [h1, h2] at htot; exact absurd rfl htot
      rw [h1] at cR
      clear htot hne hab
      go_enter Try.func6, Try.ntmps6
      go_wp2_with (first
        | (go_at_call 20; refine (cL _ _ _).mono ?_; rintro e w' ⟨rfl, rfl⟩)
        | (go_at_call 21; refine (cR _).mono ?_; clear cR; rintro e w2 ⟨rfl, hb2⟩)
        | (go_at_call 14; refine (cA _).mono ?_; clear cA; rintro e w3 ⟨rfl, hb3⟩))
      go_ret
      exact ⟨rfl, below_two hb2 hb3⟩
    | true =>
      have h2 : lessN (nat b) (nat a) = false := less_asym _ _ h1
      rw [h1] at cR
      cases h3 : lessN (nat b) (nat c) with
      | false =>
        clear htot hne hab
        go_enter Try.func6, Try.ntmps6
        go_wp2_with (first
          | (go_at_call 20; refine (cL _ _ _).mono ?_; rintro e w' ⟨rfl, rfl⟩)
          | (go_at_call 21; refine (cR _).mono ?_; clear cR; rintro e w2 ⟨rfl, hb2⟩)
          | (go_at_call 14; refine (cA _).mono ?_; clear cA; rintro e w3 ⟨rfl, hb3⟩))
        go_ret
        exact ⟨rfl, below_two hb2 hb3⟩
      | true =>
        have h4 := less_trans _ _ _ h1 h3
        clear htot hne hab
        go_enter Try.func6, Try.ntmps6
        go_wp2_with (first
          | (go_at_call 20; refine (cL _ _ _).mono ?_; rintro e w' ⟨rfl, rfl⟩)
          | (go_at_call 21; refine (cR _).mono ?_; clear cR; rintro e w2 ⟨rfl, hb2⟩)
          | (go_at_call 14; refine (cA _).mono ?_; clear cA; rintro e w3 ⟨rfl, hb3⟩))
        go_ret
        exact ⟨rfl, below_two hb2 hb3⟩

set_option maxRecDepth 100000 in
theorem lifted (os : Os) (started : os.Started) (H : Type) (enc : TypeId × Value → H) (F : Stop.Interp) :
    ReturnsInHanded {} Try.checked os 6 .any ((Rows.OpenSpec.upto Rows.nameOrdersSpec).pre6 enc Try.prog Try.f6 Rows.nameOrdersUptoRow.domain false) (((Rows.OpenSpec.upto Rows.nameOrdersSpec).at F).post enc Try.prog Try.f6 false true false false) := by
  refine returnsInHanded_of_cond (C := Try.checked) (s := Rows.OpenSpec.upto Rows.nameOrdersSpec) (k := Rows.uptoSmall) rfl own started (by kernel_rfl) Try.func6
    (OpenSpec.witness (enc := enc) (C := Try.checked) (s := Rows.OpenSpec.upto Rows.nameOrdersSpec) (k := Rows.uptoSmall) rfl false ⟨#[], #[.string ⟨#[]⟩, .string ⟨#[]⟩, .string ⟨#[]⟩], []⟩ 8 (by kernel_rfl) (by kernel_rfl) (by kernel_rfl)
      (x := ([.lit (.string []), .lit (.string []), .lit (.string [])], [], [])) (by kernel_rfl) rfl (by kernel_rfl)) ?_
  intro W base args ds gs before hval0 hW _ hk0 _
  have hk : Rows.uptoBulkAll (ds ++ gs) ≤ 1048576 := of_decide_eq_true hk0
  have hval : ∀ (j : Nat) t v, Try.f6.params[j]? = some t → args[j]? = some v → Value.okWide Try.prog W .any base t v := hval0
  have hW' := hW
  obtain ⟨p, q, hA0, hV, rfl, hfz, hnd⟩ := hW
  have hA : DataW.TrodAll enc Try.prog W 0 (fun _ => true) true Try.f6.params.toList args.toList ds p := hA0
  rw [Try.params6] at hA hval
  obtain ⟨v0, vs0, d0, ds0, p0, q0, hargs, rfl, rfl, h0, r0⟩ := trodAll_cons hA
  obtain ⟨v1, vs1, d1, ds1, p1, q1, rfl, rfl, rfl, h1, r1⟩ := trodAll_cons r0
  obtain ⟨v2, vs2, d2, ds2, p2, q2, rfl, rfl, rfl, h2, r2⟩ := trodAll_cons r1
  obtain ⟨rfl, rfl, rfl⟩ := trodAll_nil r2
  obtain rfl : args = #[v0, v1, v2] := by cases args; simp_all
  obtain ⟨rfl, rfl⟩ := trodVars_none hV
  simp only [List.append_nil, Rows.uptoBulkAll] at hk
  obtain ⟨a0, rfl, rfl, rfl, w0⟩ := open_string Try.underlying9 (hval 0 9 v0 rfl rfl) h0
  have s0 : a0.size ≤ 1048576 := by have e : a0.data.toList.length = a0.size := Array.length_toList; simp only [Rows.uptoBulk] at hk; omega
  obtain ⟨a1, rfl, rfl, rfl, w1⟩ := open_string Try.underlying9 (hval 1 9 v1 rfl rfl) h1
  have s1 : a1.size ≤ 1048576 := by have e : a1.data.toList.length = a1.size := Array.length_toList; simp only [Rows.uptoBulk] at hk; omega
  obtain ⟨a2, rfl, rfl, rfl, w2⟩ := open_string Try.underlying9 (hval 2 9 v2 rfl rfl) h2
  have s2 : a2.size ≤ 1048576 := by have e : a2.data.toList.length = a2.size := Array.length_toList; simp only [Rows.uptoBulk] at hk; omega
  clear hA0 hval0
  refine (walk a0 a1 a2 W s0 s1 s2).mono fun e W' ⟨he, bel⟩ => ?_
  subst he
  exact ⟨_, rfl, _, _, _, [], _, [], hW', trodAll_mk1 (shut_bool Try.underlying4 _), (trodAll_cons_mk (shut_string Try.underlying9 w0) (trodAll_cons_mk (shut_string Try.underlying9 w1) (trodAll_cons_mk (shut_string Try.underlying9 w2) trodAll_mk0))), rfl, bel.frame _, fun h => by cases h⟩

theorem over : Rows.nameOrdersUptoRow.holds Try.pinned (Rows.OpenSpec.upto Rows.nameOrdersSpec) :=
  OpenClaim.holds_of_cond 6 Try.f6 rfl rfl rfl rfl rfl rfl rfl ⟨rfl, rfl, rfl, rfl, rfl⟩ rfl rfl rfl rfl rfl (by kernel_rfl) Try.func6 (by kernel_rfl)
    (of_decide_eq_true (by kernel_rfl)) (by unfold Func.isWrapper; first | (rw [if_pos (by decide +kernel)]; kernel_rfl) | (rw [if_neg (by decide +kernel)]; exact ⟨rfl, rfl⟩))
    (fun os started H enc _ F => lifted os started H enc F)

theorem proved : Rows.NameOrdersUptoSaid := over
#print axioms proved
end Go.Proofs.Ytjhbfcfipfmnbaa.nameOrders
