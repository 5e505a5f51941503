/-
  Texts of which capitals are small, and which are alike but for them: 'mooringlaw06.NameFolds' returns true and leaves its arguments as they were.
  Conditions: the bulk's bound.
-/
import Derived.Test.YtjhbfcfipfmnbaaRows
import Derived.WalkKit
import Derived.ProofKit
import Derived.OpenShut
import Derived.SizedLaws
import Derived.ShutString
import Derived.ChangeOld
import Derived.Below
import Derived.ChangeMaps5
import Derived.JoinedCond
import Derived.Test.YtjhbfcfipfmnbaaNaSame
import Derived.Test.YtjhbfcfipfmnbaaNaRefFold
namespace Go.Proofs.Ytjhbfcfipfmnbaa.nameFolds
open Go.ChangeShapes Go.WideShapes Go.ChangeAt Go.RowKit Na Go.ChangeMaps
set_option linter.unusedVariables false
set_option linter.unusedSimpArgs false

theorem own : ownKnob Try.prog.godebug = none := by kernel_rfl
theorem laidOut : laidOutB Try.prog = true := by kernel_rfl

theorem below_two {w a b : World} (h1 : Below w.heap.size w a) (h2 : Below a.heap.size a b) : Below w.heap.size w b := h1.trans (h2.mono h1.size)

theorem txt_empty : Txt (nat ⟨#[]⟩) [] [] := ⟨by decide, (fun r hr => by cases hr), .inl rfl, nat_lt _⟩

set_option maxHeartbeats 4000000 in
set_option maxRecDepth 100000 in
theorem walk (a b : ByteArray) (w : World) (ha : a.size ≤ 1048576) (hb : b.size ≤ 1048576) :
    Calls Try.prog 4 #[.string a, .string b] w fun e w' => e = .returned (.bool true) ∧ Below w.heap.size w w' := by
  have cA : ∀ v, Calls Try.prog 14 #[] v fun e w' => e = .returned (.bool true) ∧ Below v.heap.size v w' := awake_any
  obtain ⟨rs, t, hT⟩ := txt_any (nat a) (nat_lt a)
  obtain ⟨rs2, t2, hT2⟩ := txt_any (nat b) (nat_lt b)
  by_cases ht : t = []
  · subst ht
    have cFa := fold_yes a rs w hT (by omega)
    have cRa : ∀ v, Calls Try.prog 16 #[.string a] v fun e w' => e = .returned (.tuple #[.string (str (flat (rs.map foldN))), .int .i64 0]) ∧ Below v.heap.size v w' := fun v => rfold_yes a rs v hT ha
    have hTX : Txt (nat (str (flat (rs.map foldN)))) (rs.map foldN) [] := txt_str (ok_folds hT.ok)
    have hXs : (str (flat (rs.map foldN))).size ≤ 1048576 := by
      rw [str_size, flat_fold, List.length_map]
      have h1 := hT.eq
      rw [List.append_nil] at h1
      rw [← h1, nat_length]
      exact ha
    have cFx : ∀ v, Calls Try.prog 15 #[.string (str (flat (rs.map foldN)))] v fun e w' => e = .returned (.tuple #[.string (str (flat (rs.map foldN))), .int .i64 0]) ∧ Below v.heap.size v w' := fun v => by
      have := fold_yes (str (flat (rs.map foldN))) (rs.map foldN) v hTX (by omega)
      rwa [folds_folds] at this
    have cCx : ∀ v, Calls Try.prog 12 #[.string (str (flat (rs.map foldN)))] v fun e w' => e = .returned (.int .i64 (why rs [] : Nat)) ∧ Below v.heap.size v w' := fun v => check_any _ (rs.map foldN) [] _ v hTX (by omega) (why_fold rs).symm
    have cCa : ∀ v, Calls Try.prog 12 #[.string a] v fun e w' => e = .returned (.int .i64 (why rs [] : Nat)) ∧ Below v.heap.size v w' := fun v => check_any a rs [] _ v hT (by omega) rfl
    generalize hX : str (flat (rs.map foldN)) = X at cFa cRa cFx cCx
    generalize why rs [] = K at cCx cCa
    by_cases ht2 : t2 = []
    · subst ht2
      have cRb : ∀ v, Calls Try.prog 16 #[.string b] v fun e w' => e = .returned (.tuple #[.string (str (flat (rs2.map foldN))), .int .i64 0]) ∧ Below v.heap.size v w' := fun v => rfold_yes b rs2 v hT2 hb
      generalize hY : str (flat (rs2.map foldN)) = Y at cRb
      cases hq : (X.toList == Y.toList) with
      | true =>
        have cS : ∀ v, Calls Try.prog 17 #[.string a, .string b] v fun e w' => e = .returned (.bool true) ∧ Below v.heap.size v w' := fun v => same_yes a b X Y rs rs2 true v hT hT2 (by omega) (by omega) hX hY hq
        clear hT hT2 hX hY hTX hXs ha hb
        go_enter Try.func4, Try.ntmps4
        go_wp2_with (first
          | (go_at_call 15; refine cFa.mono ?_; clear cFa; rintro e w1 ⟨rfl, hb1⟩)
          | (go_at_call 16; refine (cRa _).mono ?_; clear cRa; rintro e w2 ⟨rfl, hb2⟩)
          | (go_at_call 16; refine (cRb _).mono ?_; clear cRb; rintro e w3 ⟨rfl, hb3⟩)
          | (go_at_call 17; refine (cS _).mono ?_; clear cS; rintro e w4 ⟨rfl, hb4⟩)
          | (go_at_call 15; refine (cFx _).mono ?_; clear cFx; rintro e w5 ⟨rfl, hb5⟩)
          | (go_at_call 12; refine (cCx _).mono ?_; clear cCx; rintro e w6 ⟨rfl, hb6⟩)
          | (go_at_call 12; refine (cCa _).mono ?_; clear cCa; rintro e w7 ⟨rfl, hb7⟩)
          | (go_at_call 14; refine (cA _).mono ?_; clear cA; rintro e w8 ⟨rfl, hb8⟩))
        go_ret
        exact ⟨rfl, below_two (below_two (below_two (below_two (below_two (below_two (below_two hb1 hb2) hb3) hb4) hb5) hb6) hb7) hb8⟩
      | false =>
        have cS : ∀ v, Calls Try.prog 17 #[.string a, .string b] v fun e w' => e = .returned (.bool false) ∧ Below v.heap.size v w' := fun v => same_yes a b X Y rs rs2 false v hT hT2 (by omega) (by omega) hX hY hq
        clear hT hT2 hX hY hTX hXs ha hb
        go_enter Try.func4, Try.ntmps4
        go_wp2_with (first
          | (go_at_call 15; refine cFa.mono ?_; clear cFa; rintro e w1 ⟨rfl, hb1⟩)
          | (go_at_call 16; refine (cRa _).mono ?_; clear cRa; rintro e w2 ⟨rfl, hb2⟩)
          | (go_at_call 16; refine (cRb _).mono ?_; clear cRb; rintro e w3 ⟨rfl, hb3⟩)
          | (go_at_call 17; refine (cS _).mono ?_; clear cS; rintro e w4 ⟨rfl, hb4⟩)
          | (go_at_call 15; refine (cFx _).mono ?_; clear cFx; rintro e w5 ⟨rfl, hb5⟩)
          | (go_at_call 12; refine (cCx _).mono ?_; clear cCx; rintro e w6 ⟨rfl, hb6⟩)
          | (go_at_call 12; refine (cCa _).mono ?_; clear cCa; rintro e w7 ⟨rfl, hb7⟩)
          | (go_at_call 14; refine (cA _).mono ?_; clear cA; rintro e w8 ⟨rfl, hb8⟩))
        go_ret
        exact ⟨rfl, below_two (below_two (below_two (below_two (below_two (below_two (below_two hb1 hb2) hb3) hb4) hb5) hb6) hb7) hb8⟩
    · have cRb : ∀ v, Calls Try.prog 16 #[.string b] v fun e w' => e = .returned (.tuple #[.string ⟨#[]⟩, .int .i64 5]) ∧ Below v.heap.size v w' := fun v => rfold_no b rs2 t2 v hT2 hb ht2
      have cS : ∀ v, Calls Try.prog 17 #[.string a, .string b] v fun e w' => e = .returned (.bool false) ∧ Below v.heap.size v w' := fun v => same_second a b rs rs2 t2 v hT hT2 (by omega) (by omega) ht2
      clear hT hT2 hX hTX hXs ha hb ht2
      go_enter Try.func4, Try.ntmps4
      go_wp2_with (first
        | (go_at_call 15; refine cFa.mono ?_; clear cFa; rintro e w1 ⟨rfl, hb1⟩)
        | (go_at_call 16; refine (cRa _).mono ?_; clear cRa; rintro e w2 ⟨rfl, hb2⟩)
        | (go_at_call 16; refine (cRb _).mono ?_; clear cRb; rintro e w3 ⟨rfl, hb3⟩)
        | (go_at_call 17; refine (cS _).mono ?_; clear cS; rintro e w4 ⟨rfl, hb4⟩)
        | (go_at_call 15; refine (cFx _).mono ?_; clear cFx; rintro e w5 ⟨rfl, hb5⟩)
        | (go_at_call 12; refine (cCx _).mono ?_; clear cCx; rintro e w6 ⟨rfl, hb6⟩)
        | (go_at_call 12; refine (cCa _).mono ?_; clear cCa; rintro e w7 ⟨rfl, hb7⟩)
        | (go_at_call 14; refine (cA _).mono ?_; clear cA; rintro e w8 ⟨rfl, hb8⟩))
      go_ret
      exact ⟨rfl, below_two (below_two (below_two (below_two (below_two (below_two (below_two hb1 hb2) hb3) hb4) hb5) hb6) hb7) hb8⟩
  · have cFa := fold_no a rs t w hT (by omega) ht
    have cRa : ∀ v, Calls Try.prog 16 #[.string a] v fun e w' => e = .returned (.tuple #[.string ⟨#[]⟩, .int .i64 5]) ∧ Below v.heap.size v w' := fun v => rfold_no a rs t v hT ha ht
    have cS : ∀ v, Calls Try.prog 17 #[.string a, .string b] v fun e w' => e = .returned (.bool false) ∧ Below v.heap.size v w' := fun v => same_first a b rs t v hT (by omega) ht
    have cFx : ∀ v, Calls Try.prog 15 #[.string ⟨#[]⟩] v fun e w' => e = .returned (.tuple #[.string ⟨#[]⟩, .int .i64 0]) ∧ Below v.heap.size v w' := fun v => fold_yes ⟨#[]⟩ [] v txt_empty (by decide)
    obtain ⟨Z, K, cRb⟩ : ∃ (Z : ByteArray) (K : Int), ∀ v, Calls Try.prog 16 #[.string b] v fun e w' => e = .returned (.tuple #[.string Z, .int .i64 K]) ∧ Below v.heap.size v w' := by
      by_cases ht2 : t2 = []
      · subst ht2
        exact ⟨_, _, fun v => rfold_yes b rs2 v hT2 hb⟩
      · exact ⟨_, _, fun v => rfold_no b rs2 t2 v hT2 hb ht2⟩
    clear hT hT2 ha hb ht
    go_enter Try.func4, Try.ntmps4
    go_wp2_with (first
      | (go_at_call 15; refine cFa.mono ?_; clear cFa; rintro e w1 ⟨rfl, hb1⟩)
      | (go_at_call 16; refine (cRa _).mono ?_; clear cRa; rintro e w2 ⟨rfl, hb2⟩)
      | (go_at_call 16; refine (cRb _).mono ?_; clear cRb; rintro e w3 ⟨rfl, hb3⟩)
      | (go_at_call 17; refine (cS _).mono ?_; clear cS; rintro e w4 ⟨rfl, hb4⟩)
      | (go_at_call 15; refine (cFx _).mono ?_; clear cFx; rintro e w5 ⟨rfl, hb5⟩)
      | (go_at_call 12; refine (cCx _).mono ?_; clear cCx; rintro e w6 ⟨rfl, hb6⟩)
      | (go_at_call 12; refine (cCa _).mono ?_; clear cCa; rintro e w7 ⟨rfl, hb7⟩)
      | (go_at_call 14; refine (cA _).mono ?_; clear cA; rintro e w8 ⟨rfl, hb8⟩))
    go_ret
    exact ⟨rfl, below_two (below_two (below_two (below_two (below_two hb1 hb2) hb3) hb4) hb5) hb8⟩

set_option maxRecDepth 100000 in
theorem lifted (os : Os) (started : os.Started) (H : Type) (enc : TypeId × Value → H) (F : Stop.Interp) :
    ReturnsInHanded {} Try.checked os 4 .any ((Rows.OpenSpec.upto Rows.nameFoldsSpec).pre6 enc Try.prog Try.f4 Rows.nameFoldsUptoRow.domain false) (((Rows.OpenSpec.upto Rows.nameFoldsSpec).at F).post enc Try.prog Try.f4 false true false false) := by
  refine returnsInHanded_of_cond (C := Try.checked) (s := Rows.OpenSpec.upto Rows.nameFoldsSpec) (k := Rows.uptoSmall) rfl own started (by kernel_rfl) Try.func4
    (OpenSpec.witness (enc := enc) (C := Try.checked) (s := Rows.OpenSpec.upto Rows.nameFoldsSpec) (k := Rows.uptoSmall) rfl false ⟨#[], #[.string ⟨#[]⟩, .string ⟨#[]⟩], []⟩ 8 (by kernel_rfl) (by kernel_rfl) (by kernel_rfl)
      (x := ([.lit (.string []), .lit (.string [])], [], [])) (by kernel_rfl) rfl (by kernel_rfl)) ?_
  intro W base args ds gs before hval0 hW _ hk0 _
  have hk : Rows.uptoBulkAll (ds ++ gs) ≤ 1048576 := of_decide_eq_true hk0
  have hval : ∀ (j : Nat) t v, Try.f4.params[j]? = some t → args[j]? = some v → Value.okWide Try.prog W .any base t v := hval0
  have hW' := hW
  obtain ⟨p, q, hA0, hV, rfl, hfz, hnd⟩ := hW
  have hA : DataW.TrodAll enc Try.prog W 0 (fun _ => true) true Try.f4.params.toList args.toList ds p := hA0
  rw [Try.params4] at hA hval
  obtain ⟨v0, vs0, d0, ds0, p0, q0, hargs, rfl, rfl, h0, r0⟩ := trodAll_cons hA
  obtain ⟨v1, vs1, d1, ds1, p1, q1, rfl, rfl, rfl, h1, r1⟩ := trodAll_cons r0
  obtain ⟨rfl, rfl, rfl⟩ := trodAll_nil r1
  obtain rfl : args = #[v0, v1] := by cases args; simp_all
  obtain ⟨rfl, rfl⟩ := trodVars_none hV
  simp only [List.append_nil, Rows.uptoBulkAll] at hk
  obtain ⟨a0, rfl, rfl, rfl, w0⟩ := open_string Try.underlying9 (hval 0 9 v0 rfl rfl) h0
  have s0 : a0.size ≤ 1048576 := by have e : a0.data.toList.length = a0.size := Array.length_toList; simp only [Rows.uptoBulk] at hk; omega
  obtain ⟨a1, rfl, rfl, rfl, w1⟩ := open_string Try.underlying9 (hval 1 9 v1 rfl rfl) h1
  have s1 : a1.size ≤ 1048576 := by have e : a1.data.toList.length = a1.size := Array.length_toList; simp only [Rows.uptoBulk] at hk; omega
  clear hA0 hval0
  refine (walk a0 a1 W s0 s1).mono fun e W' ⟨he, bel⟩ => ?_
  subst he
  exact ⟨_, rfl, _, _, _, [], _, [], hW', trodAll_mk1 (shut_bool Try.underlying4 _), (trodAll_cons_mk (shut_string Try.underlying9 w0) (trodAll_cons_mk (shut_string Try.underlying9 w1) trodAll_mk0)), rfl, bel.frame _, fun h => by cases h⟩

theorem over : Rows.nameFoldsUptoRow.holds Try.pinned (Rows.OpenSpec.upto Rows.nameFoldsSpec) :=
  OpenClaim.holds_of_cond 4 Try.f4 rfl rfl rfl rfl rfl rfl rfl ⟨rfl, rfl, rfl, rfl, rfl⟩ rfl rfl rfl rfl rfl (by kernel_rfl) Try.func4 (by kernel_rfl)
    (of_decide_eq_true (by kernel_rfl)) (by unfold Func.isWrapper; first | (rw [if_pos (by decide +kernel)]; kernel_rfl) | (rw [if_neg (by decide +kernel)]; exact ⟨rfl, rfl⟩))
    (fun os started H enc _ F => lifted os started H enc F)

theorem proved : Rows.NameFoldsUptoSaid := over
#print axioms proved
end Go.Proofs.Ytjhbfcfipfmnbaa.nameFolds
