/-
  Which texts are names, how many runes they have, and their first ones: 'mooringlaw06.NameChecks' returns true and leaves its arguments as they were.
  Conditions: the bulk's bound.
-/
import Derived.Test.YtjhbfcfipfmnbaaRows
import Derived.WalkKit
import Derived.ProofKit
import Derived.OpenShut
import Derived.SizedLaws
import Derived.ShutString
import Derived.ChangeOld
import Derived.Below
import Derived.ChangeMaps5
import Derived.JoinedCond
import Derived.Test.YtjhbfcfipfmnbaaNaRefWhy
namespace Go.Proofs.Ytjhbfcfipfmnbaa.nameChecks
open Go.ChangeShapes Go.WideShapes Go.ChangeAt Go.RowKit Na Go.ChangeMaps
set_option linter.unusedVariables false
set_option linter.unusedSimpArgs false

theorem own : ownKnob Try.prog.godebug = none := by kernel_rfl
theorem laidOut : laidOutB Try.prog = true := by kernel_rfl

theorem below_two {w a b : World} (h1 : Below w.heap.size w a) (h2 : Below a.heap.size a b) : Below w.heap.size w b := h1.trans (h2.mono h1.size)

theorem walk (s : ByteArray) (n : Int) (w : World) (hs : s.size ≤ 1048576) (hn : (Lit.int .i64 n).wf = true) :
    Calls Try.prog 3 #[.string s, .int .i64 n] w fun e w' => e = .returned (.bool true) ∧ Below w.heap.size w w' := by
  have hn := bounds_i64 hn
  obtain ⟨rs, t, hT⟩ := txt_any (nat s) (nat_lt s)
  have cA : ∀ v, Calls Try.prog 14 #[] v fun e w' => e = .returned (.bool true) ∧ Below v.heap.size v w' := awake_any
  have c5 : ∀ v, Calls Try.prog 12 #[.string s] v fun e w' => e = .returned (.int .i64 (why rs t : Nat)) ∧ Below v.heap.size v w' := fun v => check_any s rs t _ v hT (by omega) rfl
  have c6 : ∀ v, Calls Try.prog 13 #[.string s] v fun e w' => e = .returned (.int .i64 (why rs t : Nat)) ∧ Below v.heap.size v w' := fun v => rcheck_any s rs t _ v hT hs rfl
  generalize why rs t = C at c5 c6
  by_cases ht : t = []
  · subst ht
    have c1 := count_any s rs [] rs.length true w hT (by omega) (fun _ => ⟨rfl, rfl⟩) (fun hh => absurd rfl hh)
    have c2 : ∀ v, Calls Try.prog 9 #[.string s] v fun e w' => ∃ g c, e = .returned (.tuple #[.slice (some ⟨g, 0, none⟩) rs.length c, .bool true]) ∧ Below v.heap.size v w' ∧ IntsIn w' g rs := fun v => runes_yes s rs v hT hs
    by_cases hm0 : n < 0
    · have c3 : ∀ v, Calls Try.prog 10 #[.string s, .int .i64 n] v fun e w' => e = .returned (.tuple #[.string ⟨#[]⟩, .int .i64 1]) ∧ Below v.heap.size v w' := fun v => head_neg s rs n v hT (by omega) hm0
      have c4 : ∀ v, Calls Try.prog 11 #[.string s, .int .i64 n] v fun e w' => e = .returned (.tuple #[.string ⟨#[]⟩, .int .i64 1]) ∧ Below v.heap.size v w' := fun v => rhead_neg s rs n v hT hs hm0
      generalize rs.length = N at c1 c2
      clear hT
      go_enter Try.func3, Try.ntmps3
      go_wp2_with (first
        | (go_at_call 8; refine c1.mono ?_; clear c1; rintro e w1 ⟨rfl, hb1⟩)
        | (go_at_call 9; refine (c2 _).mono ?_; clear c2; rintro e w2 ⟨g, cc, rfl, hb2, hi⟩; clear hi)
        | (go_at_call 10; refine (c3 _).mono ?_; clear c3; rintro e w3 ⟨rfl, hb3⟩)
        | (go_at_call 11; refine (c4 _).mono ?_; clear c4; rintro e w4 ⟨rfl, hb4⟩)
        | (go_at_call 12; refine (c5 _).mono ?_; clear c5; rintro e w5 ⟨rfl, hb5⟩)
        | (go_at_call 13; refine (c6 _).mono ?_; clear c6; rintro e w6 ⟨rfl, hb6⟩)
        | (go_at_call 14; refine (cA _).mono ?_; clear cA; rintro e w7 ⟨rfl, hb7⟩))
      go_ret
      exact ⟨rfl, below_two (below_two (below_two (below_two (below_two (below_two hb1 hb2) hb3) hb4) hb5) hb6) hb7⟩
    · obtain ⟨M, rfl⟩ : ∃ M : Nat, n = M := ⟨n.toNat, by omega⟩
      have c3 : ∀ v, Calls Try.prog 10 #[.string s, .int .i64 M] v fun e w' => e = .returned (.tuple #[.string (str (flat (rs.take M))), .int .i64 0]) ∧ Below v.heap.size v w' := fun v => head_yes s rs M v hT (by omega) (by omega)
      have c4 : ∀ v, Calls Try.prog 11 #[.string s, .int .i64 M] v fun e w' => e = .returned (.tuple #[.string (str (flat (rs.take M))), .int .i64 0]) ∧ Below v.heap.size v w' := fun v => rhead_yes s rs M v hT hs (by omega)
      generalize rs.length = N at c1 c2
      generalize str (flat (rs.take M)) = S at c3 c4
      clear hT
      go_enter Try.func3, Try.ntmps3
      go_wp2_with (first
        | (go_at_call 8; refine c1.mono ?_; clear c1; rintro e w1 ⟨rfl, hb1⟩)
        | (go_at_call 9; refine (c2 _).mono ?_; clear c2; rintro e w2 ⟨g, cc, rfl, hb2, hi⟩; clear hi)
        | (go_at_call 10; refine (c3 _).mono ?_; clear c3; rintro e w3 ⟨rfl, hb3⟩)
        | (go_at_call 11; refine (c4 _).mono ?_; clear c4; rintro e w4 ⟨rfl, hb4⟩)
        | (go_at_call 12; refine (c5 _).mono ?_; clear c5; rintro e w5 ⟨rfl, hb5⟩)
        | (go_at_call 13; refine (c6 _).mono ?_; clear c6; rintro e w6 ⟨rfl, hb6⟩)
        | (go_at_call 14; refine (cA _).mono ?_; clear cA; rintro e w7 ⟨rfl, hb7⟩))
      go_ret
      exact ⟨rfl, below_two (below_two (below_two (below_two (below_two (below_two hb1 hb2) hb3) hb4) hb5) hb6) hb7⟩
  · have c1 := count_any s rs t 0 false w hT (by omega) (fun hh => absurd hh ht) (fun _ => ⟨rfl, rfl⟩)
    have c2 : ∀ v, Calls Try.prog 9 #[.string s] v fun e w' => e = .returned (.tuple #[.slice none 0 0, .bool false]) ∧ Below v.heap.size v w' := fun v => runes_no s rs t v hT hs ht
    have c3 : ∀ v, Calls Try.prog 10 #[.string s, .int .i64 n] v fun e w' => e = .returned (.tuple #[.string ⟨#[]⟩, .int .i64 5]) ∧ Below v.heap.size v w' := fun v => head_no s rs t n v hT (by omega) ht
    have c4 : ∀ v, Calls Try.prog 11 #[.string s, .int .i64 n] v fun e w' => e = .returned (.tuple #[.string ⟨#[]⟩, .int .i64 5]) ∧ Below v.heap.size v w' := fun v => rhead_no s rs t n v hT hs ht
    clear hT ht
    go_enter Try.func3, Try.ntmps3
    go_wp2_with (first
      | (go_at_call 8; refine c1.mono ?_; clear c1; rintro e w1 ⟨rfl, hb1⟩)
      | (go_at_call 9; refine (c2 _).mono ?_; clear c2; rintro e w2 ⟨rfl, hb2⟩)
      | (go_at_call 10; refine (c3 _).mono ?_; clear c3; rintro e w3 ⟨rfl, hb3⟩)
      | (go_at_call 11; refine (c4 _).mono ?_; clear c4; rintro e w4 ⟨rfl, hb4⟩)
      | (go_at_call 12; refine (c5 _).mono ?_; clear c5; rintro e w5 ⟨rfl, hb5⟩)
      | (go_at_call 13; refine (c6 _).mono ?_; clear c6; rintro e w6 ⟨rfl, hb6⟩)
      | (go_at_call 14; refine (cA _).mono ?_; clear cA; rintro e w7 ⟨rfl, hb7⟩))
    go_ret
    exact ⟨rfl, below_two (below_two (below_two (below_two (below_two (below_two hb1 hb2) hb3) hb4) hb5) hb6) hb7⟩

set_option maxRecDepth 100000 in
theorem lifted (os : Os) (started : os.Started) (H : Type) (enc : TypeId × Value → H) (F : Stop.Interp) :
    ReturnsInHanded {} Try.checked os 3 .any ((Rows.OpenSpec.upto Rows.nameChecksSpec).pre6 enc Try.prog Try.f3 Rows.nameChecksUptoRow.domain false) (((Rows.OpenSpec.upto Rows.nameChecksSpec).at F).post enc Try.prog Try.f3 false true false false) := by
  refine returnsInHanded_of_cond (C := Try.checked) (s := Rows.OpenSpec.upto Rows.nameChecksSpec) (k := Rows.uptoSmall) rfl own started (by kernel_rfl) Try.func3
    (OpenSpec.witness (enc := enc) (C := Try.checked) (s := Rows.OpenSpec.upto Rows.nameChecksSpec) (k := Rows.uptoSmall) rfl false ⟨#[], #[.string ⟨#[]⟩, .int .i64 0], []⟩ 8 (by kernel_rfl) (by kernel_rfl) (by kernel_rfl)
      (x := ([.lit (.string []), .lit (.int .i64 0)], [], [])) (by kernel_rfl) rfl (by kernel_rfl)) ?_
  intro W base args ds gs before hval0 hW _ hk0 _
  have hk : Rows.uptoBulkAll (ds ++ gs) ≤ 1048576 := of_decide_eq_true hk0
  have hval : ∀ (j : Nat) t v, Try.f3.params[j]? = some t → args[j]? = some v → Value.okWide Try.prog W .any base t v := hval0
  have hW' := hW
  obtain ⟨p, q, hA0, hV, rfl, hfz, hnd⟩ := hW
  have hA : DataW.TrodAll enc Try.prog W 0 (fun _ => true) true Try.f3.params.toList args.toList ds p := hA0
  rw [Try.params3] at hA hval
  obtain ⟨v0, vs0, d0, ds0, p0, q0, hargs, rfl, rfl, h0, r0⟩ := trodAll_cons hA
  obtain ⟨v1, vs1, d1, ds1, p1, q1, rfl, rfl, rfl, h1, r1⟩ := trodAll_cons r0
  obtain ⟨rfl, rfl, rfl⟩ := trodAll_nil r1
  obtain rfl : args = #[v0, v1] := by cases args; simp_all
  obtain ⟨rfl, rfl⟩ := trodVars_none hV
  simp only [List.append_nil, Rows.uptoBulkAll] at hk
  obtain ⟨a0, rfl, rfl, rfl, w0⟩ := open_string Try.underlying9 (hval 0 9 v0 rfl rfl) h0
  have s0 : a0.size ≤ 1048576 := by have e : a0.data.toList.length = a0.size := Array.length_toList; simp only [Rows.uptoBulk] at hk; omega
  obtain ⟨a1, rfl, rfl, rfl, w1⟩ := open_int Try.underlying3 (hval 1 3 v1 rfl rfl) h1
  clear hA0 hval0
  refine (walk a0 a1 W s0 w1).mono fun e W' ⟨he, bel⟩ => ?_
  subst he
  exact ⟨_, rfl, _, _, _, [], _, [], hW', trodAll_mk1 (shut_bool Try.underlying4 _), (trodAll_cons_mk (shut_string Try.underlying9 w0) (trodAll_cons_mk (shut_int Try.underlying3 w1) trodAll_mk0)), rfl, bel.frame _, fun h => by cases h⟩

theorem over : Rows.nameChecksUptoRow.holds Try.pinned (Rows.OpenSpec.upto Rows.nameChecksSpec) :=
  OpenClaim.holds_of_cond 3 Try.f3 rfl rfl rfl rfl rfl rfl rfl ⟨rfl, rfl, rfl, rfl, rfl⟩ rfl rfl rfl rfl rfl (by kernel_rfl) Try.func3 (by kernel_rfl)
    (of_decide_eq_true (by kernel_rfl)) (by unfold Func.isWrapper; first | (rw [if_pos (by decide +kernel)]; kernel_rfl) | (rw [if_neg (by decide +kernel)]; exact ⟨rfl, rfl⟩))
    (fun os started H enc _ F => lifted os started H enc F)

theorem proved : Rows.NameChecksUptoSaid := over
#print axioms proved
end Go.Proofs.Ytjhbfcfipfmnbaa.nameChecks
