/-
  For any two numbers of 16 bits, each one more: the logarithm of the greater one is not less, and that of twice a number is one more: 'mooringlaw15.MixRises' returns true and leaves its arguments as they were.
  Conditions: none.
-/
import Derived.Test.YtdbffcjcgbkejaaRows
import Derived.WalkKit
import Derived.ProofKit
import Derived.OpenShut
import Derived.Test.YtdbffcjcgbkejaaMiAwake
import Derived.ShutString
namespace Go.Proofs.Ytdbffcjcgbkejaa.mixRises
open Go.ChangeShapes Go.WideShapes Go.ChangeAt Go.RowKit
open Mi
open Go.ChangeMaps (open_string shut_string)
set_option linter.unusedVariables false

theorem own : ownKnob Try.prog.godebug = none := by kernel_rfl

theorem walk_gen (f : Nat → Nat) (a b X Y Z : Nat) (ha : a ≤ 65535) (hb : b ≤ 65535) (e1 : (a : Int) + 1 = (X : Int)) (e2 : (b : Int) + 1 = (Y : Int)) (e3 : 2 * (X : Int) = (Z : Int))
    (hX : 1 ≤ X ∧ X ≤ 65536) (hY : 1 ≤ Y ∧ Y ≤ 65536) (hf : ∀ u, 1 ≤ u ∧ u ≤ 65536 → f u < 285212672)
    (c : ∀ u w, 1 ≤ u ∧ u ≤ 65536 → Calls Try.prog 14 #[.int .i64 (u : Nat)] w fun e w' => e = .returned (.tuple #[.int .i64 (f u : Nat), .bool true]) ∧ w' = w)
    (h1 : X ≤ Y → f X ≤ f Y) (h2 : Y ≤ X → f Y ≤ f X) (h3 : X ≤ 32768 → f Z = f X + 16777216) (w : World) :
    Calls Try.prog 6 #[.int .u16 (a : Nat), .int .u16 (b : Nat)] w fun e w' => e = .returned (.bool true) ∧ w' = w := by
  have l1 := hf X hX
  have l2 := hf Y hY
  have k : (X < Y ∧ f X ≤ f Y) ∨ X = Y ∨ (Y < X ∧ f Y ≤ f X) := by
    by_cases h : X < Y
    · exact .inl ⟨h, h1 (by omega)⟩
    · by_cases h' : X = Y
      · exact .inr (.inl h')
      · exact .inr (.inr ⟨by omega, h2 (by omega)⟩)
  clear h1 h2
  by_cases hs : X ≤ 32768
  · have hZ : 1 ≤ Z ∧ Z ≤ 65536 := by omega
    have e4 : (f Z : Int) = (f X : Int) + 16777216 := by have := h3 hs; omega
    clear h3 hf
    rcases k with ⟨k1, k2⟩ | rfl | ⟨k1, k2⟩
    all_goals (
      go_enter Try.func6, Try.ntmps6
      go_wp2_with (first
        | (go_at_call 14; refine (c _ _ (by first | exact hX | exact hY | exact hZ)).mono ?_; rintro e w' ⟨rfl, rfl⟩)
        | (go_at_call 13; refine (awake_any _).mono ?_; rintro e w' ⟨rfl, rfl⟩))
      go_ret
      exact ⟨rfl, rfl⟩)
  · clear h3 hf
    rcases k with ⟨k1, k2⟩ | rfl | ⟨k1, k2⟩
    all_goals (
      go_enter Try.func6, Try.ntmps6
      go_wp2_with (first
        | (go_at_call 14; refine (c _ _ (by first | exact hX | exact hY)).mono ?_; rintro e w' ⟨rfl, rfl⟩)
        | (go_at_call 13; refine (awake_any _).mono ?_; rintro e w' ⟨rfl, rfl⟩))
      go_ret
      exact ⟨rfl, rfl⟩)

theorem walk (a0 : Int) (a1 : Int) (w0 : (Lit.int .u16 a0).wf = true) (w1 : (Lit.int .u16 a1).wf = true) (w : World) :
    Calls Try.prog 6 #[.int .u16 a0, .int .u16 a1] w fun e w' => e = .returned (.bool true) ∧ Grown w w' := by
  have b0 := bounds_u16 w0
  have b1 := bounds_u16 w1
  obtain ⟨a, rfl⟩ := Int.eq_ofNat_of_zero_le b0.1
  obtain ⟨b, rfl⟩ := Int.eq_ofNat_of_zero_le b1.1
  refine (walk_gen lg a b (a + 1) (b + 1) (2 * (a + 1)) (by omega) (by omega) (by omega) (by omega) (by omega) (by omega) (by omega) (fun u h => lg_le h.1 h.2) (fun u w h => log_yes u w h.1 h.2) (fun h => lg_mono (by omega) h) (fun h => lg_mono (by omega) h) (fun h => lg_twice (by omega) h) w).mono ?_
  rintro e w' ⟨rfl, rfl⟩
  exact ⟨rfl, Grown.refl _⟩

set_option maxRecDepth 100000 in
theorem lifted (os : Os) (started : os.Started) (H : Type) (enc : TypeId × Value → H) :
    ReturnsInHanded {} Try.checked os 6 .any (Rows.mixRisesSpec.pre6 enc Try.prog Try.f6 Rows.mixRisesRow.domain false) (Rows.mixRisesSpec.post enc Try.prog Try.f6 false true false false) := by
  refine returnsInHanded_of_change (C := Try.checked) own started (by kernel_rfl) Try.func6
    (ChangeSpec.witness6 (enc := enc) (C := Try.checked) false ⟨#[], #[.int .u16 0, .int .u16 0], []⟩ 8 (by kernel_rfl) (by kernel_rfl) (by kernel_rfl) (by kernel_rfl)) ?_
  intro W base args ds gs before hval0 hW hcnd _
  have hval : ∀ (j : Nat) t v, Try.f6.params[j]? = some t → args[j]? = some v → Value.okWide Try.prog W .any base t v := hval0
  have hW' := hW
  obtain ⟨p, q, hA0, hV, rfl, hfz, hnd⟩ := hW
  have hA : DataW.TrodAll enc Try.prog W 0 (fun _ => true) true Try.f6.params.toList args.toList ds p := hA0
  rw [Try.params6] at hA hval
  obtain ⟨v0, vs0, d0, ds0, p0, q0, hargs, rfl, rfl, h0, r0⟩ := trodAll_cons hA
  obtain ⟨v1, vs1, d1, ds1, p1, q1, rfl, rfl, rfl, h1, r1⟩ := trodAll_cons r0
  obtain ⟨rfl, rfl, rfl⟩ := trodAll_nil r1
  obtain rfl : args = #[v0, v1] := by cases args; simp_all
  obtain ⟨rfl, rfl⟩ := trodVars_none hV
  obtain ⟨a0, rfl, rfl, rfl, w0⟩ := open_int Try.underlying32 (hval 0 32 v0 rfl rfl) h0
  obtain ⟨a1, rfl, rfl, rfl, w1⟩ := open_int Try.underlying32 (hval 1 32 v1 rfl rfl) h1
  clear hA0 hval0
  simp only [List.append_nil] at hW'
  refine (walk a0 a1 w0 w1 W).mono fun e W' ⟨he, hg⟩ => ?_
  subst he
  exact ⟨_, rfl, post_of_same (pa := []) (pv := []) hW' (fun _ _ _ => (trodAll_cons_mk (shut_bool Try.underlying4 _) trodAll_mk0)) (fun sp _ => (trodAll_cons_mk (shut_int Try.underlying32 w0) (trodAll_cons_mk (shut_int Try.underlying32 w1) trodAll_mk0))) (fun _ _ => rfl) rfl
    (hg.frame _) hg.2.1 (ok_one (by kernel_rfl) rfl (okWide_bool_mk Try.underlying4 _))⟩

theorem over : Rows.mixRisesRow.holds Try.pinned (OpenSpec.ofChange Rows.mixRisesSpec) :=
  OpenClaim.holds_of_wide 6 Try.f6 rfl rfl rfl rfl rfl rfl rfl ⟨rfl, rfl, rfl, rfl, rfl⟩ rfl rfl rfl rfl rfl (by kernel_rfl) Try.func6 (by kernel_rfl)
    (of_decide_eq_true (by kernel_rfl)) (by unfold Func.isWrapper; first | (rw [if_pos (by decide +kernel)]; kernel_rfl) | (rw [if_neg (by decide +kernel)]; exact ⟨rfl, rfl⟩))
    (fun os started H enc _ => lifted os started H enc)

theorem proved : Rows.MixRisesSaid :=
  over
#print axioms proved
end Go.Proofs.Ytdbffcjcgbkejaa.mixRises
