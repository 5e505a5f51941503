/-
  First runes of first runes: 'mooringlaw06.NameHeads' returns true and leaves its arguments as they were.
  Conditions: none.
-/
import Derived.Test.YtjhbfcfipfmnbaaRows
import Derived.WalkKit
import Derived.ProofKit
import Derived.OpenShut
import Derived.SizedLaws
import Derived.ShutString
import Derived.ChangeOld
import Derived.Below
import Derived.ChangeMaps5
import Derived.Test.YtjhbfcfipfmnbaaNaHead
import Derived.Test.YtjhbfcfipfmnbaaNaWhy
namespace Go.Proofs.Ytjhbfcfipfmnbaa.nameHeads
open Go.ChangeShapes Go.WideShapes Go.ChangeAt Go.RowKit Na Go.ChangeMaps
set_option linter.unusedVariables false
set_option linter.unusedSimpArgs false

theorem own : ownKnob Try.prog.godebug = none := by kernel_rfl
theorem laidOut : laidOutB Try.prog = true := by kernel_rfl

theorem below_two {w a b : World} (h1 : Below w.heap.size w a) (h2 : Below a.heap.size a b) : Below w.heap.size w b := h1.trans (h2.mono h1.size)

theorem walk (s : ByteArray) (m n : Int) (w : World) (hs : s.size ≤ 140737488351232) (hm : (Lit.int .i64 m).wf = true) (hn : (Lit.int .i64 n).wf = true) :
    Calls Try.prog 7 #[.string s, .int .i64 m, .int .i64 n] w fun e w' => e = .returned (.bool true) ∧ Below w.heap.size w w' := by
  have hm := bounds_i64 hm
  have hn := bounds_i64 hn
  obtain ⟨rs, t, hT⟩ := txt_any (nat s) (nat_lt s)
  have cA : ∀ v, Calls Try.prog 14 #[] v fun e w' => e = .returned (.bool true) ∧ Below v.heap.size v w' := awake_any
  by_cases ht : t = []
  · subst ht
    by_cases hm0 : m < 0
    · have c1 := head_neg s rs m w hT (by omega) hm0
      clear hT hn hm
      go_enter Try.func7, Try.ntmps7
      go_wp2_with (first
        | (go_at_call 10; refine c1.mono ?_; clear c1; rintro e w1 ⟨rfl, hb1⟩)
        | (go_at_call 14; refine (cA _).mono ?_; clear cA; rintro e w2 ⟨rfl, hb2⟩))
      go_ret
      exact ⟨rfl, below_two hb1 hb2⟩
    · obtain ⟨M, rfl⟩ : ∃ M : Nat, m = M := ⟨m.toNat, by omega⟩
      have c1 := head_yes s rs M w hT (by omega) (by omega)
      obtain ⟨hT1, hs1⟩ := txt_head hT M
      by_cases hn0 : n < 0
      · generalize hS : str (flat (rs.take M)) = S at c1 hT1 hs1
        have c2 : ∀ v, Calls Try.prog 10 #[.string S, .int .i64 n] v fun e w' => e = .returned (.tuple #[.string ⟨#[]⟩, .int .i64 1]) ∧ Below v.heap.size v w' := fun v => head_neg S (rs.take M) n v hT1 (by omega) hn0
        clear hT hT1 hn hm hS hs1
        go_enter Try.func7, Try.ntmps7
        go_wp2_with (first
          | (go_at_call 10; refine c1.mono ?_; clear c1; rintro e w1 ⟨rfl, hb1⟩)
          | (go_at_call 10; refine (c2 _).mono ?_; clear c2; rintro e w2 ⟨rfl, hb2⟩)
          | (go_at_call 14; refine (cA _).mono ?_; clear cA; rintro e w3 ⟨rfl, hb3⟩))
        go_ret
        exact ⟨rfl, below_two (below_two hb1 hb2) hb3⟩
      · obtain ⟨K, rfl⟩ : ∃ K : Nat, n = K := ⟨n.toNat, by omega⟩
        by_cases hlt : K < M
        · have e2 : (rs.take M).take K = rs.take K := by rw [List.take_take, Nat.min_eq_left (by omega)]
          have c2 : ∀ v, Calls Try.prog 10 #[.string (str (flat (rs.take M))), .int .i64 K] v fun e w' => e = .returned (.tuple #[.string (str (flat (rs.take K))), .int .i64 0]) ∧ Below v.heap.size v w' := fun v => by
            have := head_yes (str (flat (rs.take M))) (rs.take M) K v hT1 (by omega) (by omega)
            rwa [e2] at this
          have c3 : ∀ v, Calls Try.prog 10 #[.string s, .int .i64 K] v fun e w' => e = .returned (.tuple #[.string (str (flat (rs.take K))), .int .i64 0]) ∧ Below v.heap.size v w' := fun v => head_yes s rs K v hT (by omega) (by omega)
          clear e2 hT hT1 hs1
          generalize str (flat (rs.take M)) = S at c1 c2
          generalize str (flat (rs.take K)) = S' at c2 c3
          go_enter Try.func7, Try.ntmps7
          go_wp2_with (first
            | (go_at_call 10; refine c1.mono ?_; clear c1; rintro e w1 ⟨rfl, hb1⟩)
            | (go_at_call 10; refine (c2 _).mono ?_; clear c2; rintro e w2 ⟨rfl, hb2⟩)
            | (go_at_call 10; refine (c3 _).mono ?_; clear c3; rintro e w3 ⟨rfl, hb3⟩)
            | (go_at_call 14; refine (cA _).mono ?_; clear cA; rintro e w4 ⟨rfl, hb4⟩))
          go_ret
          exact ⟨rfl, below_two (below_two (below_two hb1 hb2) hb3) hb4⟩
        · have e2 : (rs.take M).take K = rs.take M := by rw [List.take_take, Nat.min_eq_right (by omega)]
          have c2 : ∀ v, Calls Try.prog 10 #[.string (str (flat (rs.take M))), .int .i64 K] v fun e w' => e = .returned (.tuple #[.string (str (flat (rs.take M))), .int .i64 0]) ∧ Below v.heap.size v w' := fun v => by
            have := head_yes (str (flat (rs.take M))) (rs.take M) K v hT1 (by omega) (by omega)
            rwa [e2] at this
          have c3 : ∀ v, Calls Try.prog 10 #[.string s, .int .i64 M] v fun e w' => e = .returned (.tuple #[.string (str (flat (rs.take M))), .int .i64 0]) ∧ Below v.heap.size v w' := fun v => head_yes s rs M v hT (by omega) (by omega)
          clear e2 hT hT1 hs1
          generalize str (flat (rs.take M)) = S at c1 c2 c3
          go_enter Try.func7, Try.ntmps7
          go_wp2_with (first
            | (go_at_call 10; refine c1.mono ?_; clear c1; rintro e w1 ⟨rfl, hb1⟩)
            | (go_at_call 10; refine (c2 _).mono ?_; clear c2; rintro e w2 ⟨rfl, hb2⟩)
            | (go_at_call 10; refine (c3 _).mono ?_; clear c3; rintro e w3 ⟨rfl, hb3⟩)
            | (go_at_call 14; refine (cA _).mono ?_; clear cA; rintro e w4 ⟨rfl, hb4⟩))
          go_ret
          exact ⟨rfl, below_two (below_two (below_two hb1 hb2) hb3) hb4⟩
  · have c1 := head_no s rs t m w hT (by omega) ht
    clear hT hn hm ht
    go_enter Try.func7, Try.ntmps7
    go_wp2_with (first
      | (go_at_call 10; refine c1.mono ?_; clear c1; rintro e w1 ⟨rfl, hb1⟩)
      | (go_at_call 14; refine (cA _).mono ?_; clear cA; rintro e w2 ⟨rfl, hb2⟩))
    go_ret
    exact ⟨rfl, below_two hb1 hb2⟩

set_option maxRecDepth 100000 in
theorem lifted (os : Os) (started : os.Started) (H : Type) (enc : TypeId × Value → H) :
    ReturnsInHanded {} Try.checked os 7 .any (Rows.nameHeadsSpec.pre6 enc Try.prog Try.f7 Rows.nameHeadsRow.domain false) (Rows.nameHeadsSpec.post enc Try.prog Try.f7 false true false false) := by
  refine returnsInHanded_of_change_sized (C := Try.checked) own started (by kernel_rfl) Try.func7
    (ChangeSpec.witness6 (enc := enc) (C := Try.checked) false ⟨#[], #[.string ⟨#[]⟩, .int .i64 0, .int .i64 0], []⟩ 8 (by kernel_rfl) (by kernel_rfl) (by kernel_rfl) (by kernel_rfl)) ?_
  intro W base args ds gs before hval0 hW hcnd hsz0 _
  have hsz : (DataW.weightsEach Try.prog (Try.f7.params.toList ++ Rows.nameHeadsSpec.plain.varTypes Try.prog) (ds ++ gs)).all (· ≤ reachBytes) = true := hsz0
  have hval : ∀ (j : Nat) t v, Try.f7.params[j]? = some t → args[j]? = some v → Value.okWide Try.prog W .any base t v := hval0
  have hW' := hW
  obtain ⟨p, q, hA0, hV, rfl, hfz, hnd⟩ := hW
  have hA : DataW.TrodAll enc Try.prog W 0 (fun _ => true) true Try.f7.params.toList args.toList ds p := hA0
  rw [Try.params7] at hA hval hsz
  obtain ⟨v0, vs0, d0, ds0, p0, q0, hargs, rfl, rfl, h0, r0⟩ := trodAll_cons hA
  obtain ⟨v1, vs1, d1, ds1, p1, q1, rfl, rfl, rfl, h1, r1⟩ := trodAll_cons r0
  obtain ⟨v2, vs2, d2, ds2, p2, q2, rfl, rfl, rfl, h2, r2⟩ := trodAll_cons r1
  obtain ⟨rfl, rfl, rfl⟩ := trodAll_nil r2
  obtain rfl : args = #[v0, v1, v2] := by cases args; simp_all
  obtain ⟨rfl, rfl⟩ := trodVars_none hV
  obtain ⟨a0, rfl, rfl, rfl, w0⟩ := open_string Try.underlying9 (hval 0 9 v0 rfl rfl) h0
  have s0 : a0.size ≤ 140737488351232 := by have h := sized_string hsz (j := 0) rfl rfl; have e : a0.data.toList.length = a0.size := Array.length_toList; unfold reachBytes at h; omega
  obtain ⟨a1, rfl, rfl, rfl, w1⟩ := open_int Try.underlying3 (hval 1 3 v1 rfl rfl) h1
  obtain ⟨a2, rfl, rfl, rfl, w2⟩ := open_int Try.underlying3 (hval 2 3 v2 rfl rfl) h2
  clear hA0 hval0
  refine (walk a0 a1 a2 W s0 w1 w2).mono fun e W' ⟨he, bel⟩ => ?_
  subst he
  exact ⟨_, rfl, _, _, _, [], _, [], hW', trodAll_mk1 (shut_bool Try.underlying4 _), (trodAll_cons_mk (shut_string Try.underlying9 w0) (trodAll_cons_mk (shut_int Try.underlying3 w1) (trodAll_cons_mk (shut_int Try.underlying3 w2) trodAll_mk0))), rfl, bel.frame _, fun h => by cases h⟩

theorem over : Rows.nameHeadsRow.holds Try.pinned (OpenSpec.ofChange Rows.nameHeadsSpec) :=
  OpenClaim.holds_of_wide 7 Try.f7 rfl rfl rfl rfl rfl rfl rfl ⟨rfl, rfl, rfl, rfl, rfl⟩ rfl rfl rfl rfl rfl (by kernel_rfl) Try.func7 (by kernel_rfl)
    (of_decide_eq_true (by kernel_rfl)) (by unfold Func.isWrapper; first | (rw [if_pos (by decide +kernel)]; kernel_rfl) | (rw [if_neg (by decide +kernel)]; exact ⟨rfl, rfl⟩))
    (fun os started H enc _ => lifted os started H enc)

theorem proved : Rows.NameHeadsSaid := over
#print axioms proved
end Go.Proofs.Ytjhbfcfipfmnbaa.nameHeads
