/-
  Which stripes have some bytes of an object is what the definition says: 'mooringlaw20.StripeTouches' returns true and leaves its arguments as they were.
  Conditions: none.
-/
import Derived.Test.YtmlaloadeeohbaaRows
import Derived.WalkKit
import Derived.ProofKit
import Derived.OpenShut
import Derived.SizedLaws
import Derived.ShutString
import Derived.ChangeOld
import Derived.Below
import Derived.Test.YtmlaloadeeohbaaJSpPlain
namespace Go.Proofs.Ytmlaloadeeohbaa.stripeTouches
open Go.ChangeShapes Go.WideShapes Go.ChangeAt Go.RowKit
open Gf
set_option linter.unusedSimpArgs false
set_option maxRecDepth 100000
set_option linter.unusedVariables false

theorem own : ownKnob Try.prog.godebug = none := by kernel_rfl
theorem laidOut : laidOutB Try.prog = true := by kernel_rfl

theorem last_stripe {k e : Nat} (hk : 1 ≤ k) (he : 1 ≤ e) : stN k e = (e - 1) / (16 * k) + 1 := by
  unfold stN
  rw [show e + 16 * k - 1 = (e - 1) + 16 * k by omega, Nat.add_div_right _ (by omega)]

/- What Length refuses. -/
set_option maxHeartbeats 400000 in
set_option maxRecDepth 100000 in
theorem bad (k n a l x : Int) (w : World) (hx : x ≠ 0) (h1 : ∀ v : World, Calls Try.prog 8 #[.int .i64 k, .int .i64 n] v fun e w' => e = .returned (.tuple #[.int .i64 0, .int .i64 x]) ∧ w' = v)
    (h2 : ∀ v : World, Calls Try.prog 9 #[.int .i64 k, .int .i64 n] v fun e w' => e = .returned (.tuple #[.int .i64 0, .int .i64 x]) ∧ w' = v) :
    Calls Try.prog 6 #[.int .i64 k, .int .i64 n, .agg #[.int .i64 a, .int .i64 l]] w fun e w' => e = .returned (.bool true) ∧ Below w.heap.size w w' := by
  have ht : ∀ v, Calls Try.prog 18 #[.int .i64 k, .int .i64 n, .int .i64 a, .int .i64 l] v _ := fun v => touched_arg k n a l x v h1 hx
  have g : (x != 0) = true := by simp [hx]
  have g2 : (x == x) = true := by simp
  clear h1 hx
  go_enter Try.func6, Try.ntmps6
  go_wp2_with fail
  go_region
  go_wp2_with (first
    | (go_at_call 18; refine (ht _).mono ?_; rintro e x1 ⟨rfl, rfl⟩; clear ht)
    | (go_at_call 9; refine (h2 _).mono ?_; rintro e x2 ⟨rfl, rfl⟩; clear h2)
    | (go_at_call 11; refine (awake_any _).mono ?_; rintro e x6 ⟨rfl, hb6⟩))
  go_ret
  exact ⟨rfl, ((Below.refl w.heap.size w).alloc (Nat.le_refl _) _).trans (below_of_drewN (m := 1) (hb6.mono (by simp)))⟩

/- Where there is no such piece. -/
set_option maxHeartbeats 400000 in
set_option maxRecDepth 100000 in
theorem nopiece (k n : Nat) (a l : Int) (w : World) (h1 : 1 ≤ k) (h2 : k ≤ 254) (hn : n ≤ 4096) (ha : a ≤ 9223372036854775807) (hl : l ≤ 9223372036854775807) (hx : a < 0 ∨ l < 0 ∨ n - l < a) :
    Calls Try.prog 6 #[.int .i64 k, .int .i64 n, .agg #[.int .i64 a, .int .i64 l]] w fun e w' => e = .returned (.bool true) ∧ Below w.heap.size w w' := by
  have ht : ∀ v, Calls Try.prog 18 #[.int .i64 k, .int .i64 n, .int .i64 a, .int .i64 l] v _ := fun v => touched_no k n a l v h1 h2 hn hl hx
  have hr : ∀ v, Calls Try.prog 9 #[.int .i64 k, .int .i64 n] v _ := fun v => rlength_yes k n v h1 h2 hn
  by_cases c1 : a < 0
  · clear h1 h2 hx
    go_enter Try.func6, Try.ntmps6
    go_wp2_with fail
    go_region
    go_wp2_with (first
      | (go_at_call 18; refine (ht _).mono ?_; rintro e x1 ⟨rfl, rfl⟩; clear ht)
      | (go_at_call 9; refine (hr _).mono ?_; rintro e x2 ⟨rfl, rfl⟩; clear hr)
      | (go_at_call 11; refine (awake_any _).mono ?_; rintro e x6 ⟨rfl, hb6⟩))
    go_ret
    exact ⟨rfl, ((Below.refl w.heap.size w).alloc (Nat.le_refl _) _).trans (below_of_drewN (m := 1) (hb6.mono (by simp)))⟩
  · by_cases c2 : l < 0
    · clear h1 h2 hx
      go_enter Try.func6, Try.ntmps6
      go_wp2_with fail
      go_region
      go_wp2_with (first
        | (go_at_call 18; refine (ht _).mono ?_; rintro e x1 ⟨rfl, rfl⟩; clear ht)
        | (go_at_call 9; refine (hr _).mono ?_; rintro e x2 ⟨rfl, rfl⟩; clear hr)
        | (go_at_call 11; refine (awake_any _).mono ?_; rintro e x6 ⟨rfl, hb6⟩))
      go_ret
      exact ⟨rfl, ((Below.refl w.heap.size w).alloc (Nat.le_refl _) _).trans (below_of_drewN (m := 1) (hb6.mono (by simp)))⟩
    · have c3 : (n : Int) < a ∨ ((¬ ((n : Int) < a)) ∧ (n : Int) - a < l) := by omega
      have c4 : -9223372036854775808 ≤ (n : Int) - a := by omega
      have c5 : (n : Int) - a ≤ 9223372036854775807 := by omega
      clear h1 h2 hx
      rcases c3 with c3 | ⟨c3, c6⟩
      · go_enter Try.func6, Try.ntmps6
        go_wp2_with fail
        go_region
        go_wp2_with (first
          | (go_at_call 18; refine (ht _).mono ?_; rintro e x1 ⟨rfl, rfl⟩; clear ht)
          | (go_at_call 9; refine (hr _).mono ?_; rintro e x2 ⟨rfl, rfl⟩; clear hr)
          | (go_at_call 11; refine (awake_any _).mono ?_; rintro e x6 ⟨rfl, hb6⟩))
        go_ret
        exact ⟨rfl, ((Below.refl w.heap.size w).alloc (Nat.le_refl _) _).trans (below_of_drewN (m := 1) (hb6.mono (by simp)))⟩
      · go_enter Try.func6, Try.ntmps6
        go_wp2_with fail
        go_region
        go_wp2_with (first
          | (go_at_call 18; refine (ht _).mono ?_; rintro e x1 ⟨rfl, rfl⟩; clear ht)
          | (go_at_call 9; refine (hr _).mono ?_; rintro e x2 ⟨rfl, rfl⟩; clear hr)
          | (go_at_call 11; refine (awake_any _).mono ?_; rintro e x6 ⟨rfl, hb6⟩))
        go_ret
        exact ⟨rfl, ((Below.refl w.heap.size w).alloc (Nat.le_refl _) _).trans (below_of_drewN (m := 1) (hb6.mono (by simp)))⟩

/- A piece: of no byte, or of some. -/
theorem piece (k n a l : Nat) (w : World) (h1 : 1 ≤ k) (h2 : k ≤ 254) (hn : n ≤ 4096) (hl : a + l ≤ n) : ∃ F T : Nat, F ≤ 4096 ∧ T ≤ 4096 ∧ (∀ v : World, Calls Try.prog 18 #[.int .i64 k, .int .i64 n, .int .i64 a, .int .i64 l] v fun e w' => e = .returned (.tuple #[.int .i64 (F : Int), .int .i64 (T : Int), .int .i64 0]) ∧ ∃ m, w' = v.drewN m) ∧
    (l = 0 → F = 0 ∧ T = 0) ∧ (0 < l → F = a / (16 * k) ∧ T = (a + l - 1) / (16 * k) + 1) := by
  by_cases h0 : l = 0
  · subst h0
    exact ⟨0, 0, by omega, by omega, fun v => (touched_none k n a v h1 h2 hn (by omega)).mono fun e w' h => ⟨h.1, 0, h.2⟩, fun _ => ⟨rfl, rfl⟩, fun h => by omega⟩
  · refine ⟨a / (16 * k), stN k (a + l), ?_, ?_, fun v => touched_yes k n a l v h1 h2 hn (by omega) hl, fun h => absurd h h0, fun _ => ⟨rfl, last_stripe h1 (by omega)⟩⟩
    · exact Nat.le_trans (Nat.div_le_self _ _) (by omega)
    · exact Nat.le_trans (stN_le h1) (by omega)

set_option maxHeartbeats 1000000 in
set_option maxRecDepth 100000 in
theorem good (k n a l : Nat) (w : World) (h1 : 1 ≤ k) (h2 : k ≤ 254) (hn : n ≤ 4096) (hl : a + l ≤ n) :
    Calls Try.prog 6 #[.int .i64 k, .int .i64 n, .agg #[.int .i64 a, .int .i64 l]] w fun e w' => e = .returned (.bool true) ∧ Below w.heap.size w w' := by
  obtain ⟨F, T, hF5, hT5, ht, hz, hs⟩ := piece k n a l w h1 h2 hn hl
  have hr : ∀ v, Calls Try.prog 9 #[.int .i64 k, .int .i64 n] v _ := fun v => rlength_yes k n v h1 h2 hn
  obtain ⟨p, hp⟩ : ∃ p, p = 16 * k := ⟨_, rfl⟩
  have hpi : (k : Int) * 16 = (p : Int) := by omega
  have hp0 : (p : Int) ≠ 0 := by omega
  have hp00 : ¬ (p = 0) := by omega
  have hp5 : p ≤ 4064 := by omega
  obtain ⟨t, hte⟩ : ∃ t, t = a + l := ⟨_, rfl⟩
  have hti : (a : Int) + (l : Int) = (t : Int) := by omega
  rw [← hte, ← hp] at hs
  have ht5 : t ≤ 4096 := by omega
  have ha5 : a ≤ 4096 := by omega
  have hl5 : l ≤ 4096 := by omega
  have c1 : ¬ ((a : Int) < 0) := by omega
  have c2 : ¬ ((l : Int) < 0) := by omega
  have c3 : ¬ ((n : Int) < (a : Int)) := by omega
  have c4 : ¬ ((n : Int) - (a : Int) < (l : Int)) := by omega
  have c5 : 0 ≤ (n : Int) - (a : Int) := by omega
  have c6 : (n : Int) - (a : Int) ≤ 4096 := by omega
  have HT : Hid (t = a + l ∧ (l = 0 → F = 0 ∧ T = 0) ∧ (0 < l → F = a / p ∧ T = (t - 1) / p + 1)) := ⟨hte, hz, hs⟩
  clear hte hp hz hs hl h1 h2
  go_enter Try.func6, Try.ntmps6
  go_wp2_with fail
  go_region
  go_wp2_with (first
    | (go_at_call 18; refine (ht _).mono ?_; rintro e x1 ⟨rfl, q1, rfl⟩; clear ht)
    | (go_at_call 9; refine (hr _).mono ?_; rintro e x2 ⟨rfl, rfl⟩; clear hr))
  obtain ⟨wl, hwl⟩ : ∃ wl, wl = ((w.alloc (.cells #[.int .i64 (a : Int), .int .i64 (l : Int)] 41)).drewN (1 + q1)) := ⟨_, rfl⟩
  rw [← hwl]
  have HB : Hid (Below w.heap.size w wl) := by rw [hwl]; exact below_drewN' ((Below.refl _ _).alloc (Nat.le_refl _) _) _
  clear hwl c1 c2 c3 c4 c5 c6
  generalize 16 * (stN k n : Int) = Z
  go_loopw [15, 16, 17] (fun x y i wr => ∃ (j : Nat) (X Y : Int), x = .int .i64 X ∧ y = .int .i64 Y ∧ i = .int .i64 j ∧ a ≤ j ∧ j ≤ t ∧ wr = wl ∧ -1 ≤ X ∧ X ≤ 4096 ∧ 0 ≤ Y ∧ Y ≤ 4097 ∧ Hid ((j = a → X = -1 ∧ Y = 0) ∧ (a < j → X = ((a / p : Nat) : Int) ∧ Y = (((j - 1) / p + 1 : Nat) : Int)))) (fun _ _ i _ => t - (intOf i).toNat)
  case atStart => exact ⟨a, -1, 0, rfl, rfl, rfl, by omega, by omega, rfl, by omega, by omega, by omega, by omega, fun _ => ⟨rfl, rfl⟩, fun h => by omega⟩
  case round =>
    obtain ⟨j, X, Y, rfl, rfl, rfl, hja, hjt, rfl, hX1, hX2, hY1, hY2, HJ⟩ := hrel
    by_cases hlt : j < t
    · have hjti : (j : Int) < (t : Int) := by omega
      have hj1 : j + 1 ≤ t := by omega
      have hj0 : a ≤ j + 1 := by omega
      obtain ⟨q, hq⟩ : ∃ q, q = j / p := ⟨_, rfl⟩
      have hd : (j : Int).tdiv (p : Int) = (q : Int) := by rw [Int.tdiv_eq_ediv_of_nonneg (by omega), hq]; exact rfl
      have hq5 : q ≤ 4096 := by rw [hq]; exact Nat.le_trans (Nat.div_le_self _ _) (by omega)
      by_cases e : j = a
      · have hX : X = -1 := (HJ.out.1 e).1
        subst hX
        have HN : Hid ((j + 1 = a → (q : Int) = -1 ∧ (q : Int) + 1 = 0) ∧ (a < j + 1 → (q : Int) = ((a / p : Nat) : Int) ∧ (q : Int) + 1 = (((j + 1 - 1) / p + 1 : Nat) : Int))) := ⟨fun h => by omega, fun _ => ⟨by rw [hq, e], by rw [hq, Nat.add_sub_cancel]; omega⟩⟩
        clear HJ hq e
        go_wp2_with fail
        go_roundw
        case rel => exact ⟨j + 1, q, (q : Int) + 1, rfl, rfl, by go_num, hj0, hj1, trivial, by omega, by omega, by omega, by omega, HN⟩
        case measure => simp [intOf]; omega
      · have hX : 0 ≤ X := by rw [(HJ.out.2 (by omega)).1]; exact Int.natCast_nonneg _
        have hX0 : ¬ (X < 0) := by omega
        have HN : Hid ((j + 1 = a → X = -1 ∧ (q : Int) + 1 = 0) ∧ (a < j + 1 → X = ((a / p : Nat) : Int) ∧ (q : Int) + 1 = (((j + 1 - 1) / p + 1 : Nat) : Int))) := ⟨fun h => by omega, fun _ => ⟨(HJ.out.2 (by omega)).1, by rw [hq, Nat.add_sub_cancel]; omega⟩⟩
        clear HJ hq e
        go_wp2_with fail
        go_roundw
        case rel => exact ⟨j + 1, X, (q : Int) + 1, rfl, rfl, by go_num, hj0, hj1, trivial, by omega, by omega, by omega, by omega, HN⟩
        case measure => simp [intOf]; omega
    · obtain rfl : j = t := by omega
      have hT := HT.out
      by_cases e : l = 0
      · obtain ⟨hX, hY⟩ := HJ.out.1 (by omega)
        obtain ⟨hF, hT0⟩ := hT.2.1 e
        subst hX
        subst hY
        subst hF
        subst hT0
        clear HJ HT hT e
        go_wp2_with (go_at_call 11; refine (awake_any _).mono ?_; rintro e x6 ⟨rfl, hb6⟩)
        go_ret
        exact ⟨rfl, HB.out.trans (hb6.mono HB.out.size)⟩
      · obtain ⟨hX, hY⟩ := HJ.out.2 (by omega)
        obtain ⟨hF, hT0⟩ := hT.2.2 (by omega)
        have hX0 : ¬ (X < 0) := by rw [hX]; exact Int.not_lt.2 (Int.natCast_nonneg _)
        have g1 : ((F : Int) == X) = true := by rw [hX, hF]; simp
        have g2 : ((T : Int) == Y) = true := by rw [hY, hT0]; simp
        clear HJ HT hT e hX hY hF hT0
        go_wp2_with (go_at_call 11; refine (awake_any _).mono ?_; rintro e x6 ⟨rfl, hb6⟩)
        go_ret
        exact ⟨rfl, HB.out.trans (hb6.mono HB.out.size)⟩

theorem walk (k n a l : Int) (w : World) (hk : (Lit.int .i64 k).wf = true) (hn : (Lit.int .i64 n).wf = true) (hx : (Lit.int .i64 a).wf = true ∧ (Lit.int .i64 l).wf = true) :
    Calls Try.prog 6 #[.int .i64 k, .int .i64 n, .agg #[.int .i64 a, .int .i64 l]] w fun e w' => e = .returned (.bool true) ∧ Below w.heap.size w w' := by
  have ba := bounds_i64 hx.1
  have bl := bounds_i64 hx.2
  by_cases h1 : k < 1 ∨ 254 < k ∨ n < 0
  · exact bad k n a l 1 w (by omega) (fun v => length_arg k n v h1) (fun v => rlength_arg k n v h1)
  · by_cases h2 : 4096 < n
    · exact bad k n a l 3 w (by omega) (fun v => length_long k n v (by omega) (by omega) (by omega) h2) (fun v => rlength_long k n v (by omega) (by omega) (by omega) h2)
    · obtain ⟨K, rfl⟩ : ∃ K : Nat, k = K := ⟨k.toNat, by omega⟩
      obtain ⟨N, rfl⟩ : ∃ N : Nat, n = N := ⟨n.toNat, by omega⟩
      by_cases h3 : a < 0 ∨ l < 0 ∨ (N : Int) - l < a
      · exact nopiece K N a l w (by omega) (by omega) (by omega) ba.2 bl.2 h3
      · obtain ⟨A, rfl⟩ : ∃ A : Nat, a = A := ⟨a.toNat, by omega⟩
        obtain ⟨L, rfl⟩ : ∃ L : Nat, l = L := ⟨l.toNat, by omega⟩
        exact good K N A L w (by omega) (by omega) (by omega) (by omega)

set_option maxRecDepth 100000 in
theorem lifted (os : Os) (started : os.Started) (H : Type) (enc : TypeId × Value → H) :
    ReturnsInHanded {} Try.checked os 6 .any (Rows.stripeTouchesSpec.pre6 enc Try.prog Try.f6 Rows.stripeTouchesRow.domain false) (Rows.stripeTouchesSpec.post enc Try.prog Try.f6 false true false false) := by
  refine returnsInHanded_of_change_sized (C := Try.checked) own started (by kernel_rfl) Try.func6
    (ChangeSpec.witness6 (enc := enc) (C := Try.checked) false ⟨#[], #[.int .i64 0, .int .i64 0, .agg #[.int .i64 0, .int .i64 0]], []⟩ 8 (by kernel_rfl) (by kernel_rfl) (by kernel_rfl) (by kernel_rfl)) ?_
  intro W base args ds gs before hval0 hW hcnd hsz0 _
  have hsz : (DataW.weightsEach Try.prog (Try.f6.params.toList ++ Rows.stripeTouchesSpec.plain.varTypes Try.prog) (ds ++ gs)).all (· ≤ reachBytes) = true := hsz0
  have hval : ∀ (j : Nat) t v, Try.f6.params[j]? = some t → args[j]? = some v → Value.okWide Try.prog W .any base t v := hval0
  have hW' := hW
  obtain ⟨p, q, hA0, hV, rfl, hfz, hnd⟩ := hW
  have hA : DataW.TrodAll enc Try.prog W 0 (fun _ => true) true Try.f6.params.toList args.toList ds p := hA0
  rw [Try.params6] at hA hval hsz
  obtain ⟨v0, vs0, d0, ds0, p0, q0, hargs, rfl, rfl, h0, r0⟩ := trodAll_cons hA
  obtain ⟨v1, vs1, d1, ds1, p1, q1, rfl, rfl, rfl, h1, r1⟩ := trodAll_cons r0
  obtain ⟨v2, vs2, d2, ds2, p2, q2, rfl, rfl, rfl, h2, r2⟩ := trodAll_cons r1
  obtain ⟨rfl, rfl, rfl⟩ := trodAll_nil r2
  obtain rfl : args = #[v0, v1, v2] := by cases args; simp_all
  obtain ⟨rfl, rfl⟩ := trodVars_none hV
  obtain ⟨a0, rfl, rfl, rfl, w0⟩ := open_int Try.underlying3 (hval 0 3 v0 rfl rfl) h0
  obtain ⟨a1, rfl, rfl, rfl, w1⟩ := open_int Try.underlying3 (hval 1 3 v1 rfl rfl) h1
  have k2 := h2
  have lt2 : ∀ x ∈ p2, x.block < W.heap.size := by obtain ⟨m, hm⟩ := k2; exact DataW.trod_lt m _ _ _ hm
  have s2 : ∀ x ∈ d2.weights Try.prog 41, x ≤ reachBytes := fun x hx => by
    have := List.all_eq_true.1 hsz x (DataW.weights_mem_each (j := 2) rfl rfl x hx)
    simpa using this
  obtain ⟨V2, U2, rfl, w2⟩ := stwo_in (okWide_array Try.underlying41 (hval 2 41 v2 rfl rfl)) h2
  clear hA0 hval0
  refine (walk a0 a1 V2 U2 W w0 w1 w2).mono fun e W' ⟨he, bel⟩ => ?_
  subst he
  exact ⟨_, rfl, _, _, _, [], _, [], hW', trodAll_mk1 (shut_bool Try.underlying4 _), (trodAll_cons_mk (shut_int Try.underlying3 w0) (trodAll_cons_mk (shut_int Try.underlying3 w1) (trodAll_cons_mk (Below.trod laidOut (by kernel_rfl) (of_decide_eq_true (by kernel_rfl)) k2 bel lt2) trodAll_mk0))), rfl, bel.frame _, fun h => by cases h⟩

theorem over : Rows.stripeTouchesRow.holds Try.pinned (OpenSpec.ofChange Rows.stripeTouchesSpec) :=
  OpenClaim.holds_of_wide 6 Try.f6 rfl rfl rfl rfl rfl rfl rfl ⟨rfl, rfl, rfl, rfl, rfl⟩ rfl rfl rfl rfl rfl (by kernel_rfl) Try.func6 (by kernel_rfl)
    (of_decide_eq_true (by kernel_rfl)) (by unfold Func.isWrapper; first | (rw [if_pos (by decide +kernel)]; kernel_rfl) | (rw [if_neg (by decide +kernel)]; exact ⟨rfl, rfl⟩))
    (fun os started H enc _ => lifted os started H enc)

theorem proved : Rows.StripeTouchesSaid := over
#print axioms proved
end Go.Proofs.Ytmlaloadeeohbaa.stripeTouches
