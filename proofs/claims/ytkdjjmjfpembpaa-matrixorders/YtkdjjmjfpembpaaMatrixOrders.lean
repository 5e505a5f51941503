/-
  For any three lists of rows of bytes, where the products of the first two and of the last two may be, the products of all three put together in either order are the same: 'mooringlaw02.MatrixOrders' returns true and leaves its arguments as they were.
  Conditions: none.
-/
import Derived.Test.YtkdjjmjfpembpaaRows
import Derived.WalkKit
import Derived.ProofKit
import Derived.OpenShut
import Derived.SizedLaws
import Derived.ShutString
import Derived.ChangeOld
import Derived.Below
import Derived.Test.YtkdjjmjfpembpaaMxLaw
import Derived.Test.YtkdjjmjfpembpaaMxGrid
namespace Go.Proofs.Ytkdjjmjfpembpaa.matrixOrders
open Go.ChangeShapes Go.WideShapes Go.ChangeAt Go.RowKit
open Gf
set_option linter.unusedVariables false

theorem own : ownKnob Try.prog.godebug = none := by kernel_rfl
theorem laidOut : laidOutB Try.prog = true := by kernel_rfl

set_option maxHeartbeats 2000000 in
set_option maxRecDepth 100000 in
theorem walk (a0 : Option Addr) (len0 cap0 : Nat) (A0 : Nat → Option Addr) (L0 C0 : Nat → Nat) (f0 : Nat → Nat → Nat) (a1 : Option Addr) (len1 cap1 : Nat) (A1 : Nat → Option Addr) (L1 C1 : Nat → Nat) (f1 : Nat → Nat → Nat)
    (a2 : Option Addr) (len2 cap2 : Nat) (A2 : Nat → Option Addr) (L2 C2 : Nat → Nat) (f2 : Nat → Nat → Nat) (w : World) (w0 : IsGrid w a0 len0 A0 L0 C0 f0) (w1 : IsGrid w a1 len1 A1 L1 C1 f1) (w2 : IsGrid w a2 len2 A2 L2 C2 f2) :
    Calls Try.prog 7 #[.slice a0 len0 cap0, .slice a1 len1 cap1, .slice a2 len2 cap2] w fun e w' => e = .returned (.bool true) ∧ Below w.heap.size w w' := by
  by_cases l0 : LightN len0 L0
  · have hl0 := light_any a0 len0 cap0 true A0 L0 C0 w w0.1 ⟨fun _ => l0, fun _ => rfl⟩
    by_cases l1 : LightN len1 L1
    · have hl1 := light_any a1 len1 cap1 true A1 L1 C1 w w1.1 ⟨fun _ => l1, fun _ => rfl⟩
      by_cases l2 : LightN len2 L2
      · have hl2 := light_any a2 len2 cap2 true A2 L2 C2 w w2.1 ⟨fun _ => l2, fun _ => rfl⟩
        clear l0 l1 l2
        by_cases g1 : Fits len0 L0 len1 L1
        · by_cases g2 : Fits len1 L1 len2 L2
          · obtain ⟨b0, o0, G0, O0, rfl, hM0⟩ := grid_mat w0 g1.1
            obtain ⟨b1, o1, G1, O1, rfl, hM1⟩ := grid_mat w1 g1.2.1
            obtain ⟨b2, o2, G2, O2, rfl, hM2⟩ := grid_mat w2 g2.2.1
            obtain ⟨m0, m1, e1⟩ := g1
            obtain ⟨_, m2, e2⟩ := g2
            unfold MayN at m0 m1 m2
            generalize L0 0 = p0 at *
            generalize L1 0 = p1 at *
            generalize L2 0 = p2 at *
            subst e1 e2
            obtain ⟨n1, n2, n3, n4, _⟩ := m0
            obtain ⟨_, _, n5, n6, _⟩ := m1
            obtain ⟨_, _, n7, n8, _⟩ := m2
            have hmul1 := mul_yes b0 o0 b1 o1 len0 p0 p1 cap0 cap1 G0 O0 C0 G1 O1 C1 f0 f1 w hM0 hM1 n1 n2 n3 n4 n5 n6
            clear w0 w1 w2
            go_enter Try.func7, Try.ntmps7
            go_wp2_with (first
              | (go_at_call 8; refine hl0.mono ?_; rintro e w' ⟨rfl, rfl⟩; clear hl0)
              | (go_at_call 8; refine hl1.mono ?_; rintro e w' ⟨rfl, rfl⟩; clear hl1)
              | (go_at_call 8; refine hl2.mono ?_; rintro e w' ⟨rfl, rfl⟩; clear hl2)
              | (go_at_call 10; refine hmul1.mono ?_; rintro e x1 ⟨hb1, B1, P1, Q1, rfl, ho1⟩; clear hmul1; have hmul2 := mul_yes b1 o1 b2 o2 p0 p1 p2 cap1 cap2 G1 O1 C1 G2 O2 C2 f1 f2 x1 (hM1.below (Nat.le_refl _) hb1) (hM2.below (Nat.le_refl _) hb1) n3 n4 n5 n6 n7 n8)
              | (go_at_call 10; refine hmul2.mono ?_; rintro e x2 ⟨hb2, B2, P2, Q2, rfl, ho2⟩; clear hmul2; have hb02 := hb1.trans (hb2.mono hb1.size); have hmul3 := mul_yes B1 0 b2 o2 len0 p1 p2 len0 cap2 P1 (fun _ => 0) Q1 G2 O2 C2 (mulF f0 f1 p0) f2 x2 (ho1.mat.below (Nat.le_refl _) hb2) (hM2.below (Nat.le_refl _) hb02) n1 n2 n5 n6 n7 n8)
              | (go_at_call 10; refine hmul3.mono ?_; rintro e x3 ⟨hb3, B3, P3, Q3, rfl, ho3⟩; clear hmul3; have hb03 := hb02.trans (hb3.mono hb02.size); have hmul4 := mul_yes b0 o0 B2 0 len0 p0 p2 cap0 p0 G0 O0 C0 P2 (fun _ => 0) Q2 f0 (mulF f1 f2 p1) x3 (hM0.below (Nat.le_refl _) hb03) (ho2.mat.below (Nat.le_refl _) hb3) n1 n2 n3 n4 n7 n8)
              | (go_at_call 10; refine hmul4.mono ?_; rintro e x4 ⟨hb4, B4, P4, Q4, rfl, ho4⟩; clear hmul4; have hb04 := hb03.trans (hb4.mono hb03.size); have hsame := same_rows B3 0 B4 0 len0 p2 len0 len0 P3 (fun _ => 0) Q3 P4 (fun _ => 0) Q4 (mulF (mulF f0 f1 p0) f2 p1) (mulF f0 (mulF f1 f2 p1) p0) x4 (by omega) (ho3.mat.below (Nat.le_refl _) hb4) ho4.mat (fun r hr j hj => mul_assoc3 f0 f1 f2 hM0.lt hM1.lt hM2.lt p0 r j p1))
              | (go_at_call 15; refine hsame.mono ?_; rintro e x5 ⟨rfl, m, rfl⟩; clear hsame)
              | (go_at_call 9; refine (awake_any _).mono ?_; rintro e x6 ⟨rfl, hb6⟩))
            go_ret
            exact ⟨rfl, (below_drewN' hb04 m).trans (hb6.mono (by exact hb04.size))⟩
          · obtain ⟨b0, o0, G0, O0, rfl, hM0⟩ := grid_mat w0 g1.1
            have w1' := w1
            obtain ⟨b1, o1, G1, O1, rfl, hM1⟩ := grid_mat w1' g1.2.1
            have m0 := g1.1
            have m1 := g1.2.1
            have e1 := g1.2.2
            unfold MayN at m0 m1
            have hmul1 := mul_yes b0 o0 b1 o1 len0 (L0 0) (L1 0) cap0 cap1 G0 O0 C0 G1 O1 C1 f0 f1 w hM0 (by rw [e1]; exact hM1) m0.1 m0.2.1 m0.2.2.1 m0.2.2.2.1 m1.2.2.1 m1.2.2.2.1
            rw [e1] at hmul1
            clear e1 m0 m1 hM0 hM1 w0 g1 w1'
            go_enter Try.func7, Try.ntmps7
            go_wp2_with (first
              | (go_at_call 8; refine hl0.mono ?_; rintro e w' ⟨rfl, rfl⟩; clear hl0)
              | (go_at_call 8; refine hl1.mono ?_; rintro e w' ⟨rfl, rfl⟩; clear hl1)
              | (go_at_call 8; refine hl2.mono ?_; rintro e w' ⟨rfl, rfl⟩; clear hl2)
              | (go_at_call 10; refine hmul1.mono ?_; rintro e x1 ⟨hb1, B1, P1, Q1, rfl, ho1⟩; clear hmul1; have hmul2 := mul_bad _ a2 len1 len2 cap1 cap2 A1 A2 L1 C1 L2 C2 f1 f2 x1 (w1.below hb1) (w2.below hb1) g2)
              | (go_at_call 10; refine hmul2.mono ?_; rintro e x2 ⟨rfl, rfl⟩; clear hmul2)
              | (go_at_call 9; refine (awake_any _).mono ?_; rintro e x6 ⟨rfl, hb6⟩))
            go_ret
            exact ⟨rfl, hb1.trans (hb6.mono (by exact hb1.size))⟩
        · have hmul1 := mul_bad a0 a1 len0 len1 cap0 cap1 A0 A1 L0 C0 L1 C1 f0 f1 w w0 w1 g1
          have hmul2 := mul_some a1 a2 len1 len2 cap1 cap2 A1 A2 L1 C1 L2 C2 f1 f2 w w1 w2
          clear w0 w1 w2 g1
          go_enter Try.func7, Try.ntmps7
          go_wp2_with (first
            | (go_at_call 8; refine hl0.mono ?_; rintro e w' ⟨rfl, rfl⟩; clear hl0)
            | (go_at_call 8; refine hl1.mono ?_; rintro e w' ⟨rfl, rfl⟩; clear hl1)
            | (go_at_call 8; refine hl2.mono ?_; rintro e w' ⟨rfl, rfl⟩; clear hl2)
            | (go_at_call 10; refine hmul1.mono ?_; rintro e x1 ⟨rfl, rfl⟩; clear hmul1)
            | (go_at_call 10; refine hmul2.mono ?_; rintro e x2 ⟨v, z, rfl, hb1⟩; clear hmul2)
            | (go_at_call 9; refine (awake_any _).mono ?_; rintro e x6 ⟨rfl, hb6⟩))
          go_ret
          exact ⟨rfl, hb1.trans (hb6.mono (by exact hb1.size))⟩
      · have hl2 := light_any a2 len2 cap2 false A2 L2 C2 w w2.1 ⟨fun h => (by cases h), fun h => absurd h l2⟩
        clear l0 l1 l2 w0 w1 w2
        go_enter Try.func7, Try.ntmps7
        go_wp2_with (first | (go_at_call 8; refine hl0.mono ?_; rintro e w' ⟨rfl, rfl⟩; clear hl0) | (go_at_call 8; refine hl1.mono ?_; rintro e w' ⟨rfl, rfl⟩; clear hl1) | (go_at_call 8; refine hl2.mono ?_; rintro e w' ⟨rfl, rfl⟩; clear hl2) | (go_at_call 9; refine (awake_any _).mono ?_; rintro e x6 ⟨rfl, hb6⟩))
        go_ret
        exact ⟨rfl, hb6⟩
    · have hl1 := light_any a1 len1 cap1 false A1 L1 C1 w w1.1 ⟨fun h => (by cases h), fun h => absurd h l1⟩
      clear l0 l1 w0 w1 w2
      go_enter Try.func7, Try.ntmps7
      go_wp2_with (first | (go_at_call 8; refine hl0.mono ?_; rintro e w' ⟨rfl, rfl⟩; clear hl0) | (go_at_call 8; refine hl1.mono ?_; rintro e w' ⟨rfl, rfl⟩; clear hl1) | (go_at_call 9; refine (awake_any _).mono ?_; rintro e x6 ⟨rfl, hb6⟩))
      go_ret
      exact ⟨rfl, hb6⟩
  · have hl0 := light_any a0 len0 cap0 false A0 L0 C0 w w0.1 ⟨fun h => (by cases h), fun h => absurd h l0⟩
    clear l0 w0 w1 w2
    go_enter Try.func7, Try.ntmps7
    go_wp2_with (first | (go_at_call 8; refine hl0.mono ?_; rintro e w' ⟨rfl, rfl⟩; clear hl0) | (go_at_call 9; refine (awake_any _).mono ?_; rintro e x6 ⟨rfl, hb6⟩))
    go_ret
    exact ⟨rfl, hb6⟩

set_option maxRecDepth 100000 in
theorem lifted (os : Os) (started : os.Started) (H : Type) (enc : TypeId × Value → H) :
    ReturnsInHanded {} Try.checked os 7 .any (Rows.matrixOrdersSpec.pre6 enc Try.prog Try.f7 Rows.matrixOrdersRow.domain false) (Rows.matrixOrdersSpec.post enc Try.prog Try.f7 false true false false) := by
  refine returnsInHanded_of_change (C := Try.checked) own started (by kernel_rfl) Try.func7
    (ChangeSpec.witness6 (enc := enc) (C := Try.checked) false ⟨#[], #[.slice none 0 0, .slice none 0 0, .slice none 0 0], []⟩ 8 (by kernel_rfl) (by kernel_rfl) (by kernel_rfl) (by kernel_rfl)) ?_
  intro W base args ds gs before hval0 hW hcnd _
  have hval : ∀ (j : Nat) t v, Try.f7.params[j]? = some t → args[j]? = some v → Value.okWide Try.prog W .any base t v := hval0
  have hW' := hW
  obtain ⟨p, q, hA0, hV, rfl, hfz, hnd⟩ := hW
  have hA : DataW.TrodAll enc Try.prog W 0 (fun _ => true) true Try.f7.params.toList args.toList ds p := hA0
  rw [Try.params7] at hA hval
  obtain ⟨v0, vs0, d0, ds0, p0, q0, hargs, rfl, rfl, h0, r0⟩ := trodAll_cons hA
  obtain ⟨v1, vs1, d1, ds1, p1, q1, rfl, rfl, rfl, h1, r1⟩ := trodAll_cons r0
  obtain ⟨v2, vs2, d2, ds2, p2, q2, rfl, rfl, rfl, h2, r2⟩ := trodAll_cons r1
  obtain ⟨rfl, rfl, rfl⟩ := trodAll_nil r2
  obtain rfl : args = #[v0, v1, v2] := by cases args; simp_all
  obtain ⟨rfl, rfl⟩ := trodVars_none hV
  obtain ⟨a0, len0, cap0, rfl⟩ := okWide_slice Try.underlying22 (hval 0 22 v0 rfl rfl)
  have k0 := h0
  have lt0 : ∀ x ∈ p0, x.block < W.heap.size := by obtain ⟨m, hm⟩ := k0; exact DataW.trod_lt m _ _ _ hm
  obtain ⟨A0, L0, C0, f0, w0⟩ := grid_of h0
  obtain ⟨a1, len1, cap1, rfl⟩ := okWide_slice Try.underlying22 (hval 1 22 v1 rfl rfl)
  have k1 := h1
  have lt1 : ∀ x ∈ p1, x.block < W.heap.size := by obtain ⟨m, hm⟩ := k1; exact DataW.trod_lt m _ _ _ hm
  obtain ⟨A1, L1, C1, f1, w1⟩ := grid_of h1
  obtain ⟨a2, len2, cap2, rfl⟩ := okWide_slice Try.underlying22 (hval 2 22 v2 rfl rfl)
  have k2 := h2
  have lt2 : ∀ x ∈ p2, x.block < W.heap.size := by obtain ⟨m, hm⟩ := k2; exact DataW.trod_lt m _ _ _ hm
  obtain ⟨A2, L2, C2, f2, w2⟩ := grid_of h2
  clear hA0 hval0
  refine (walk a0 len0 cap0 A0 L0 C0 f0 a1 len1 cap1 A1 L1 C1 f1 a2 len2 cap2 A2 L2 C2 f2 W w0 w1 w2).mono fun e W' ⟨he, bel⟩ => ?_
  subst he
  exact ⟨_, rfl, _, _, _, [], _, [], hW', trodAll_mk1 (shut_bool Try.underlying4 _), (trodAll_cons_mk (Below.trod laidOut (by kernel_rfl) (of_decide_eq_true (by kernel_rfl)) k0 bel lt0) (trodAll_cons_mk (Below.trod laidOut (by kernel_rfl) (of_decide_eq_true (by kernel_rfl)) k1 bel lt1) (trodAll_cons_mk (Below.trod laidOut (by kernel_rfl) (of_decide_eq_true (by kernel_rfl)) k2 bel lt2) trodAll_mk0))), rfl, bel.frame _, fun h => by cases h⟩

theorem over : Rows.matrixOrdersRow.holds Try.pinned (OpenSpec.ofChange Rows.matrixOrdersSpec) :=
  OpenClaim.holds_of_wide 7 Try.f7 rfl rfl rfl rfl rfl rfl rfl ⟨rfl, rfl, rfl, rfl, rfl⟩ rfl rfl rfl rfl rfl (by kernel_rfl) Try.func7 (by kernel_rfl)
    (of_decide_eq_true (by kernel_rfl)) (by unfold Func.isWrapper; first | (rw [if_pos (by decide +kernel)]; kernel_rfl) | (rw [if_neg (by decide +kernel)]; exact ⟨rfl, rfl⟩))
    (fun os started H enc _ => lifted os started H enc)

theorem proved : Rows.MatrixOrdersSaid := over
#print axioms proved
end Go.Proofs.Ytkdjjmjfpembpaa.matrixOrders
