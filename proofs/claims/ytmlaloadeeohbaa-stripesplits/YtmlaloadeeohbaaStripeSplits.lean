/-
  The shards of any object are what the definition says, and so is their length: 'mooringlaw20.StripeSplits' returns true and leaves its arguments as they were.
  Conditions: none.
-/
import Derived.Test.YtmlaloadeeohbaaRows
import Derived.WalkKit
import Derived.ProofKit
import Derived.OpenShut
import Derived.SizedLaws
import Derived.ShutString
import Derived.ChangeOld
import Derived.Below
import Derived.Test.YtmlaloadeeohbaaJSpPlain
import Derived.Deep.QuietTactic
import Derived.BigQuiet
namespace Go.Proofs.Ytmlaloadeeohbaa.stripeSplits
open Go.ChangeShapes Go.WideShapes Go.ChangeAt Go.RowKit
open Gf
set_option linter.unusedSimpArgs false
set_option maxRecDepth 100000
set_option linter.unusedVariables false

theorem own : ownKnob Try.prog.godebug = none := by kernel_rfl
theorem laidOut : laidOutB Try.prog = true := by kernel_rfl

set_option maxHeartbeats 400000 in
set_option maxRecDepth 100000 in
theorem bad (k m x : Int) (b : Option Addr) (n c : Nat) (w : World) (hb : m ≤ 9223372036854775807) (h0 : k < 1 ∨ 254 < k ∨ 4096 < n) (hx : x = 1 ∨ x = 3) (h1 : ∀ v : World, Calls Try.prog 8 #[.int .i64 k, .int .i64 n] v fun e w' => e = .returned (.tuple #[.int .i64 0, .int .i64 x]) ∧ w' = v)
    (h2 : ∀ v : World, Calls Try.prog 9 #[.int .i64 k, .int .i64 n] v fun e w' => e = .returned (.tuple #[.int .i64 0, .int .i64 x]) ∧ w' = v) :
    Calls Try.prog 3 #[.int .i64 k, .int .i64 m, .slice b n c] w fun e w' => e = .returned (.bool true) ∧ Below w.heap.size w w' := by
  have g2 : (x == x) = true := by simp
  have g3 : (x != x) = false := by simp
  have hl := fun v => slight_any k m v
  by_cases hn : n ≤ 1500
  · have hnc : ¬ CauchyN k m := by unfold CauchyN; omega
    have hs := fun v => split_code k m b n c v hb hnc
    have hr := fun v => rsplit_code k m b n c v hnc
    have hsm : ∀ v, Calls Try.prog 14 #[.slice none 0 0, .slice none 0 0] v fun e w' => e = .returned (.bool true) ∧ w' = v := fun v => same_zero none none 0 0 v
    have hni : ¬ ((1500 : Int) < (n : Int)) := by omega
    clear h0 hnc hx
    go_enter Try.func3, Try.ntmps3
    go_wp2_with (first
      | (go_at_call 8; refine (h1 _).mono ?_; rintro e x1 ⟨rfl, rfl⟩; clear h1)
      | (go_at_call 9; refine (h2 _).mono ?_; rintro e x2 ⟨rfl, rfl⟩; clear h2)
      | (go_at_call 10; refine (hl _).mono ?_; rintro e x3 ⟨rfl, t, rfl⟩; clear hl)
      | (go_at_call 12; refine (hs _).mono ?_; rintro e x4 ⟨rfl, rfl⟩; clear hs)
      | (go_at_call 13; refine (hr _).mono ?_; rintro e x5 ⟨rfl, rfl⟩; clear hr)
      | (go_at_call 14; refine (hsm _).mono ?_; rintro e x5 ⟨rfl, rfl⟩; clear hsm)
      | (go_at_call 11; refine (awake_any _).mono ?_; rintro e x6 ⟨rfl, hb6⟩))
    all_goals (go_ret; exact ⟨rfl, hb6⟩)
  · have hni : (1500 : Int) < (n : Int) := by omega
    clear h0 hx
    go_enter Try.func3, Try.ntmps3
    go_wp2_with (first
      | (go_at_call 8; refine (h1 _).mono ?_; rintro e x1 ⟨rfl, rfl⟩; clear h1)
      | (go_at_call 9; refine (h2 _).mono ?_; rintro e x2 ⟨rfl, rfl⟩; clear h2)
      | (go_at_call 10; refine (hl _).mono ?_; rintro e x3 ⟨rfl, t, rfl⟩; clear hl)
      | (go_at_call 11; refine (awake_any _).mono ?_; rintro e x6 ⟨rfl, hb6⟩))
    all_goals (go_ret; exact ⟨rfl, hb6⟩)

/- An object that may be; a code that is none. -/
set_option maxHeartbeats 400000 in
set_option maxRecDepth 100000 in
theorem nocode (k n c : Nat) (m : Int) (b : Option Addr) (w : World) (hb : m ≤ 9223372036854775807) (h1 : 1 ≤ k) (h2 : k ≤ 254) (hn : n ≤ 4096) (hnc : ¬ CauchyN k m) :
    Calls Try.prog 3 #[.int .i64 k, .int .i64 m, .slice b n c] w fun e w' => e = .returned (.bool true) ∧ Below w.heap.size w w' := by
  have hq := fun v => length_yes k n v h1 h2 hn
  have hp := fun v => rlength_yes k n v h1 h2 hn
  generalize ((16 * stN k n : Nat) : Int) = Z at hq hp
  have g2 : (Z == Z) = true := by simp
  have g3 : (Z != Z) = false := by simp
  have hl := fun v => slight_any k m v
  have hs := fun v => split_code k m b n c v hb hnc
  have hr := fun v => rsplit_code k m b n c v hnc
  have hsm : ∀ v, Calls Try.prog 14 #[.slice none 0 0, .slice none 0 0] v fun e w' => e = .returned (.bool true) ∧ w' = v := fun v => same_zero none none 0 0 v
  clear h1 h2 hnc
  go_enter Try.func3, Try.ntmps3
  go_wp2_with (first
    | (go_at_call 8; refine (hq _).mono ?_; rintro e x1 ⟨rfl, rfl⟩; clear hq)
    | (go_at_call 9; refine (hp _).mono ?_; rintro e x2 ⟨rfl, rfl⟩; clear hp)
    | (go_at_call 10; refine (hl _).mono ?_; rintro e x3 ⟨rfl, t, rfl⟩; clear hl)
    | (go_at_call 12; refine (hs _).mono ?_; rintro e x4 ⟨rfl, rfl⟩; clear hs)
    | (go_at_call 13; refine (hr _).mono ?_; rintro e x5 ⟨rfl, rfl⟩; clear hr)
    | (go_at_call 14; refine (hsm _).mono ?_; rintro e x5 ⟨rfl, rfl⟩; clear hsm)
    | (go_at_call 11; refine (awake_any _).mono ?_; rintro e x6 ⟨rfl, hb6⟩))
  all_goals (go_ret; exact ⟨rfl, hb6⟩)

set_option maxHeartbeats 400000 in
set_option maxRecDepth 100000 in
theorem good (k m n c : Nat) (b : Option Addr) (f : Nat → Nat) (w : World) (h1 : 1 ≤ k) (h2 : 1 ≤ m) (h3 : k + m ≤ 255) (hn : n ≤ 4096) (g : BytesIn w b n c f) :
    Calls Try.prog 3 #[.int .i64 k, .int .i64 m, .slice b n c] w fun e w' => e = .returned (.bool true) ∧ Below w.heap.size w w' := by
  have hq := fun v => length_yes k n v h1 (by omega) hn
  have hp := fun v => rlength_yes k n v h1 (by omega) hn
  have hs := split_yes k m n c b f w h1 h2 h3 hn g.le g.lt g.row
  have hr : ∀ v, Below w.heap.size w v → Calls Try.prog 13 #[.int .i64 k, .int .i64 m, .slice b n c] v _ := fun v hv => rsplit_yes k m n c b f v h1 h2 h3 hn g.lt (g.row.below hv)
  have hsm : ∀ (w1 x4 v0 v : World) A1 C1 B2 c2 G2 C2, Build w1 x4 (k + m) (k + m) A1 (fun _ => 16 * stN k n) C1 (encF k m (dealF k n f)) → Below x4.heap.size x4 v → Own v0.heap.size v B2 (k + m) (16 * stN k n) G2 C2 (encF k m (dealF k n f)) →
      Calls Try.prog 14 #[.slice (some ⟨w1.heap.size, 0, none⟩) (k + m) (k + m), .slice (some ⟨B2, 0, none⟩) (k + m) c2] v fun e w' => e = .returned (.bool true) ∧ ∃ q, w' = v.drewN q := fun w1 x4 v0 v A1 C1 B2 c2 G2 C2 hB hv hO =>
    same_grid _ _ (k + m) (k + m) (k + m) c2 true A1 _ _ _ C1 C2 _ _ v (by omega) (hB.grid.below hv) hO.mat.grid (fun _ => rfl) (fun q => absurd ⟨rfl, fun _ _ => ⟨rfl, fun _ _ => rfl⟩⟩ q)
  have hl := fun v => slight_any k m v
  obtain ⟨s, hss⟩ : ∃ s, s = k + m := ⟨_, rfl⟩
  rw [← hss] at hs
  simp only [← hss] at hr hsm
  generalize encF k m (dealF k n f) = E at hs hr hsm
  generalize 16 * stN k n = Z at hq hp hs hr hsm
  have g2 : ((Z : Int) == (Z : Int)) = true := by simp
  have g3 : ((Z : Int) != (Z : Int)) = false := by simp
  clear h1 h2 h3 g hss
  go_enter Try.func3, Try.ntmps3
  go_wp2_with (first
    | (go_at_call 8; refine (hq _).mono ?_; rintro e x1 ⟨rfl, rfl⟩; clear hq)
    | (go_at_call 9; refine (hp _).mono ?_; rintro e x2 ⟨rfl, rfl⟩; clear hp)
    | (go_at_call 10; refine (hl _).mono ?_; rintro e x3 ⟨rfl, t, rfl⟩; clear hl)
    | (go_at_call 12; refine hs.mono ?_; rintro e x4 ⟨w1, A1, C1, hb1, rfl, hB1⟩; clear hs; have hb4 := hb1.trans (hB1.below.mono hb1.size))
    | (go_at_call 13; refine (hr _ hb4).mono ?_; rintro e x5 ⟨hb5, B2, c2, G2, C2, rfl, hO2⟩; clear hr; have hs5 := hsm w1 _ _ _ A1 C1 B2 c2 G2 C2 hB1 hb5 hO2; clear hsm)
    | (go_at_call 14; refine hs5.mono ?_; rintro e x5 ⟨rfl, q5, rfl⟩; clear hs5)
    | (go_at_call 11; refine (awake_any _).mono ?_; rintro e x6 ⟨rfl, hb6⟩))
  all_goals go_ret
  all_goals first
    | exact ⟨rfl, hb6⟩
    | exact ⟨rfl, (hb4.trans (hb5.mono hb4.size)).trans (below_of_drewN (hb6.mono (hb4.trans (hb5.mono hb4.size)).size))⟩

theorem walk (k m : Int) (b : Option Addr) (n c : Nat) (f : Nat → Nat) (w : World) (hk : (Lit.int .i64 k).wf = true) (hm : (Lit.int .i64 m).wf = true) (g : BytesIn w b n c f) :
    Calls Try.prog 3 #[.int .i64 k, .int .i64 m, .slice b n c] w fun e w' => e = .returned (.bool true) ∧ Below w.heap.size w w' := by
  have bm := (bounds_i64 hm).2
  by_cases h1 : k < 1 ∨ 254 < k
  · exact bad k m 1 b n c w bm (by omega) (.inl rfl) (fun v => length_arg k n v (by omega)) (fun v => rlength_arg k n v (by omega))
  · by_cases h2 : 4096 < n
    · exact bad k m 3 b n c w bm (by omega) (.inr rfl) (fun v => length_long k n v (by omega) (by omega) (by omega) (by omega)) (fun v => rlength_long k n v (by omega) (by omega) (by omega) (by omega))
    · by_cases hc : CauchyN k m
      · obtain ⟨K, M, rfl, rfl, q1, q2, q3⟩ := code_nat hc
        exact good K M n c b f w q1 q2 q3 (by omega) g
      · obtain ⟨K, rfl⟩ : ∃ K : Nat, k = K := ⟨k.toNat, by omega⟩
        exact nocode K n c m b w bm (by omega) (by omega) (by omega) hc

set_option maxRecDepth 100000 in
theorem lifted (os : Os) (started : os.Started) (H : Type) (enc : TypeId × Value → H) :
    ReturnsInHanded {} Try.checked os 3 .any (Rows.stripeSplitsSpec.pre6 enc Try.prog Try.f3 Rows.stripeSplitsRow.domain false) (Rows.stripeSplitsSpec.post enc Try.prog Try.f3 false true false false) := by
  refine returnsInHanded_of_change_sized (C := Try.checked) own started (by kernel_rfl) Try.func3
    (ChangeSpec.witness6 (enc := enc) (C := Try.checked) false ⟨#[], #[.int .i64 0, .int .i64 0, .slice none 0 0], []⟩ 8 (by kernel_rfl) (by kernel_rfl) (by kernel_rfl) (by kernel_rfl)) ?_
  intro W base args ds gs before hval0 hW hcnd hsz0 _
  have hsz : (DataW.weightsEach Try.prog (Try.f3.params.toList ++ Rows.stripeSplitsSpec.plain.varTypes Try.prog) (ds ++ gs)).all (· ≤ reachBytes) = true := hsz0
  have hval : ∀ (j : Nat) t v, Try.f3.params[j]? = some t → args[j]? = some v → Value.okWide Try.prog W .any base t v := hval0
  have hW' := hW
  obtain ⟨p, q, hA0, hV, rfl, hfz, hnd⟩ := hW
  have hA : DataW.TrodAll enc Try.prog W 0 (fun _ => true) true Try.f3.params.toList args.toList ds p := hA0
  rw [Try.params3] at hA hval hsz
  obtain ⟨v0, vs0, d0, ds0, p0, q0, hargs, rfl, rfl, h0, r0⟩ := trodAll_cons hA
  obtain ⟨v1, vs1, d1, ds1, p1, q1, rfl, rfl, rfl, h1, r1⟩ := trodAll_cons r0
  obtain ⟨v2, vs2, d2, ds2, p2, q2, rfl, rfl, rfl, h2, r2⟩ := trodAll_cons r1
  obtain ⟨rfl, rfl, rfl⟩ := trodAll_nil r2
  obtain rfl : args = #[v0, v1, v2] := by cases args; simp_all
  obtain ⟨rfl, rfl⟩ := trodVars_none hV
  obtain ⟨a0, rfl, rfl, rfl, w0⟩ := open_int Try.underlying3 (hval 0 3 v0 rfl rfl) h0
  obtain ⟨a1, rfl, rfl, rfl, w1⟩ := open_int Try.underlying3 (hval 1 3 v1 rfl rfl) h1
  have k2 := h2
  have lt2 : ∀ x ∈ p2, x.block < W.heap.size := by obtain ⟨m, hm⟩ := k2; exact DataW.trod_lt m _ _ _ hm
  have s2 : ∀ x ∈ d2.weights Try.prog 22, x ≤ reachBytes := fun x hx => by
    have := List.all_eq_true.1 hsz x (DataW.weights_mem_each (j := 2) rfl rfl x hx)
    simpa using this
  obtain ⟨b2, nn2, cc2, rfl⟩ := okWide_slice Try.underlying22 (hval 2 22 v2 rfl rfl)
  obtain ⟨fu2, hf2⟩ := h2
  obtain ⟨a2, len2, cap2, f2, e2, w2⟩ := bytes_in hf2 s2
  simp [Value.cells] at e2
  obtain ⟨rfl, rfl, rfl⟩ := e2
  clear hA0 hval0
  refine (walk a0 a1 b2 nn2 cc2 f2 W w0 w1 w2).mono fun e W' ⟨he, bel⟩ => ?_
  subst he
  exact ⟨_, rfl, _, _, _, [], _, [], hW', trodAll_mk1 (shut_bool Try.underlying4 _), (trodAll_cons_mk (shut_int Try.underlying3 w0) (trodAll_cons_mk (shut_int Try.underlying3 w1) (trodAll_cons_mk (Below.trod laidOut (by kernel_rfl) (of_decide_eq_true (by kernel_rfl)) k2 bel lt2) trodAll_mk0))), rfl, bel.frame _, fun h => by cases h⟩

theorem over : Rows.stripeSplitsRow.holds Try.pinned (OpenSpec.ofChange Rows.stripeSplitsSpec) :=
  OpenClaim.holds_of_wide 3 Try.f3 rfl rfl rfl rfl rfl rfl rfl ⟨rfl, rfl, rfl, rfl, rfl⟩ rfl rfl rfl rfl rfl (by kernel_rfl) Try.func3 (by kernel_rfl)
    (of_decide_eq_true (by kernel_rfl)) (by unfold Func.isWrapper; first | (rw [if_pos (by decide +kernel)]; kernel_rfl) | (rw [if_neg (by decide +kernel)]; exact ⟨rfl, rfl⟩))
    (fun os started H enc _ => lifted os started H enc)

theorem proved : Rows.StripeSplitsSaid := over
#print axioms proved
end Go.Proofs.Ytmlaloadeeohbaa.stripeSplits
