/-
  For any two lists of rows of bytes package matrix tells as the document does whether the first may be a matrix, and their product, or that there is none: 'mooringlaw02.MatrixMuls' returns true and leaves its arguments as they were.
  Conditions: none.
-/
import Derived.Test.YtkdjjmjfpembpaaRows
import Derived.WalkKit
import Derived.ProofKit
import Derived.OpenShut
import Derived.SizedLaws
import Derived.ShutString
import Derived.ChangeOld
import Derived.Below
import Derived.Test.YtkdjjmjfpembpaaMxLaw
import Derived.Test.YtkdjjmjfpembpaaMxGrid
import Derived.Test.YtkdjjmjfpembpaaMxRefMul
namespace Go.Proofs.Ytkdjjmjfpembpaa.matrixMuls
open Go.ChangeShapes Go.WideShapes Go.ChangeAt Go.RowKit
open Gf
set_option linter.unusedVariables false

theorem own : ownKnob Try.prog.godebug = none := by kernel_rfl
theorem laidOut : laidOutB Try.prog = true := by kernel_rfl

theorem below_from_drewN {B m : Nat} {w x : World} (h : Below B (w.drewN m) x) : Below B w x := ⟨h.os, h.tape, h.output, h.size, h.block⟩

theorem fits_cases {n : Nat} {L : Nat → Nat} {n' : Nat} {L' : Nat → Nat} (h : ¬ Fits n L n' L') : ¬ MayN n L ∨ ¬ MayN n' L' ∨ L 0 ≠ n' := by
  by_cases h1 : MayN n L
  · by_cases h2 : MayN n' L'
    · exact .inr (.inr fun e => h ⟨h1, h2, e⟩)
    · exact .inr (.inl h2)
  · exact .inl h1

set_option maxHeartbeats 2000000 in
set_option maxRecDepth 100000 in
theorem bad (a0 : Option Addr) (len0 cap0 : Nat) (A0 : Nat → Option Addr) (L0 C0 : Nat → Nat) (f0 : Nat → Nat → Nat) (a1 : Option Addr) (len1 cap1 : Nat) (A1 : Nat → Option Addr) (L1 C1 : Nat → Nat) (f1 : Nat → Nat → Nat)
    (w : World) (w0 : IsGrid w a0 len0 A0 L0 C0 f0) (w1 : IsGrid w a1 len1 A1 L1 C1 f1) (t : Bool) (z : Int) (hl0 : Calls Try.prog 8 #[.slice a0 len0 cap0] w fun e w' => e = .returned (.bool true) ∧ w' = w)
    (hl1 : Calls Try.prog 8 #[.slice a1 len1 cap1] w fun e w' => e = .returned (.bool true) ∧ w' = w) (g1 : ¬ Fits len0 L0 len1 L1) (hz : z = if t then 0 else 1) (hy : MayN len0 L0 → t = true) (hx : ¬ MayN len0 L0 → t = false) :
    Calls Try.prog 3 #[.slice a0 len0 cap0, .slice a1 len1 cap1] w fun e w' => e = .returned (.bool true) ∧ Below w.heap.size w w' := by
  have hmul := mul_bad a0 a1 len0 len1 cap0 cap1 A0 A1 L0 C0 L1 C1 f0 f1 w w0 w1 g1
  have hrm := rmulm_out a0 a1 len0 len1 cap0 cap1 A0 A1 L0 C0 L1 C1 w w0.1 w1.1 (fits_cases g1)
  have hck : ∀ m, Calls Try.prog 12 #[.slice a0 len0 cap0] (w.drewN m) fun e w' => e = .returned (.int .i64 z) ∧ w' = w.drewN m := fun m => check_any a0 len0 cap0 z A0 L0 C0 (w.drewN m) w0.1 (fun k => by rw [hz, hy k]; rfl) (fun k => by rw [hz, hx k]; rfl)
  have hmy : ∀ m, Calls Try.prog 14 #[.slice a0 len0 cap0] (w.drewN m) fun e w' => e = .returned (.bool t) ∧ ∃ k, w' = w.drewN k := fun m => (may_any a0 len0 cap0 t A0 L0 C0 (w.drewN m) w0.1 hy hx).mono fun e w' h => ⟨h.1, by obtain ⟨k, rfl⟩ := h.2; exact ⟨m + k, by rw [World.drewN_drewN]⟩⟩
  have her : ∀ w : World, Calls Try.prog 13 #[.bool t] w fun e w' => e = .returned (.int .i64 z) ∧ w' = w := fun w => by rw [hz]; exact errno_any t w
  have hzz : (z == z) = true := by simp
  clear hz hy hx g1 w0 w1
  go_enter Try.func3, Try.ntmps3
  go_wp2_with (first
    | (go_at_call 8; refine hl0.mono ?_; rintro e w' ⟨rfl, rfl⟩; clear hl0)
    | (go_at_call 8; refine hl1.mono ?_; rintro e w' ⟨rfl, rfl⟩; clear hl1)
    | (go_at_call 10; refine hmul.mono ?_; rintro e w' ⟨rfl, rfl⟩; clear hmul)
    | (go_at_call 11; refine hrm.mono ?_; rintro e x1 ⟨rfl, m1, rfl⟩; clear hrm)
    | (go_at_call 12; refine (hck m1).mono ?_; rintro e x1 ⟨rfl, rfl⟩; clear hck)
    | (go_at_call 14; refine (hmy m1).mono ?_; rintro e x1 ⟨rfl, m2, rfl⟩; clear hmy)
    | (go_at_call 13; refine (her _).mono ?_; rintro e x1 ⟨rfl, rfl⟩)
    | (go_at_call 15; refine (same_zero _ _ _ _ _).mono ?_; rintro e x1 ⟨rfl, rfl⟩)
    | (go_at_call 9; refine (awake_any _).mono ?_; rintro e x6 ⟨rfl, hb6⟩))
  go_ret
  exact ⟨rfl, below_from_drewN hb6⟩

set_option maxHeartbeats 2000000 in
set_option maxRecDepth 100000 in
theorem walk (a0 : Option Addr) (len0 cap0 : Nat) (A0 : Nat → Option Addr) (L0 C0 : Nat → Nat) (f0 : Nat → Nat → Nat) (a1 : Option Addr) (len1 cap1 : Nat) (A1 : Nat → Option Addr) (L1 C1 : Nat → Nat) (f1 : Nat → Nat → Nat)
    (w : World) (w0 : IsGrid w a0 len0 A0 L0 C0 f0) (w1 : IsGrid w a1 len1 A1 L1 C1 f1) :
    Calls Try.prog 3 #[.slice a0 len0 cap0, .slice a1 len1 cap1] w fun e w' => e = .returned (.bool true) ∧ Below w.heap.size w w' := by
  by_cases l0 : LightN len0 L0
  · have hl0 := light_any a0 len0 cap0 true A0 L0 C0 w w0.1 ⟨fun _ => l0, fun _ => rfl⟩
    by_cases l1 : LightN len1 L1
    · have hl1 := light_any a1 len1 cap1 true A1 L1 C1 w w1.1 ⟨fun _ => l1, fun _ => rfl⟩
      by_cases g1 : Fits len0 L0 len1 L1
      · have w0' := w0
        obtain ⟨b0, o0, G0, O0, rfl, hM0⟩ := grid_mat w0' g1.1
        obtain ⟨b1, o1, G1, O1, rfl, hM1⟩ := grid_mat w1 g1.2.1
        obtain ⟨m0, m1, e1⟩ := g1
        have hm0 := m0
        unfold MayN at m0 m1
        have hck : ∀ x, Below w.heap.size w x → Calls Try.prog 12 #[.slice (some ⟨b0, o0, none⟩) len0 cap0] x fun e w' => e = .returned (.int .i64 0) ∧ w' = x := fun x hx => check_yes _ len0 cap0 A0 L0 C0 x ((w0.below hx).1) hm0
        have hmy : ∀ x, Below w.heap.size w x → Calls Try.prog 14 #[.slice (some ⟨b0, o0, none⟩) len0 cap0] x fun e w' => e = .returned (.bool true) ∧ ∃ k, w' = x.drewN k := fun x hx => may_any _ len0 cap0 true A0 L0 C0 x ((w0.below hx).1) (fun _ => rfl) (fun k => absurd hm0 k)
        clear w0 w0' w1 l0 l1 hm0
        generalize L0 0 = p0 at *
        generalize L1 0 = p1 at *
        subst e1
        obtain ⟨n1, n2, n3, n4, _⟩ := m0
        obtain ⟨_, _, n5, n6, _⟩ := m1
        have hmul := mul_yes b0 o0 b1 o1 len0 p0 p1 cap0 cap1 G0 O0 C0 G1 O1 C1 f0 f1 w hM0 hM1 n1 n2 n3 n4 n5 n6
        go_enter Try.func3, Try.ntmps3
        go_wp2_with (first
          | (go_at_call 8; refine hl0.mono ?_; rintro e w' ⟨rfl, rfl⟩; clear hl0)
          | (go_at_call 8; refine hl1.mono ?_; rintro e w' ⟨rfl, rfl⟩; clear hl1)
          | (go_at_call 10; refine hmul.mono ?_; rintro e x1 ⟨hb1, B1, P1, Q1, rfl, ho1⟩; clear hmul; have hmul2 := rmulm_yes b0 o0 b1 o1 len0 p0 p1 cap0 cap1 G0 O0 C0 G1 O1 C1 f0 f1 x1 (hM0.below (Nat.le_refl _) hb1) (hM1.below (Nat.le_refl _) hb1) n1 n2 n3 n4 n5 n6)
          | (go_at_call 11; refine hmul2.mono ?_; rintro e x2 ⟨hb2, B2, c2, P2, Q2, rfl, ho2⟩; clear hmul2; have hb02 := hb1.trans (hb2.mono hb1.size))
          | (go_at_call 12; refine (hck _ hb02).mono ?_; rintro e x3 ⟨rfl, hx3⟩; subst hx3; clear hck)
          | (go_at_call 14; refine (hmy _ hb02).mono ?_; rintro e x3 ⟨rfl, m2, rfl⟩; clear hmy)
          | (go_at_call 13; refine (errno_any true _).mono ?_; rintro e x4 ⟨rfl, rfl⟩)
          | (go_at_call 15; refine (same_rows B1 0 B2 0 len0 p1 len0 c2 P1 (fun _ => 0) Q1 P2 (fun _ => 0) Q2 (mulF f0 f1 p0) (mulF f0 f1 p0) _ (by omega) ((ho1.mat.below (Nat.le_refl _) hb2).drewN m2) (ho2.mat.drewN m2) (fun r hr j hj => rfl)).mono ?_; rintro e x5 ⟨rfl, m3, rfl⟩)
          | (go_at_call 9; refine (awake_any _).mono ?_; rintro e x6 ⟨rfl, hb6⟩))
        go_ret
        exact ⟨rfl, hb02.trans (below_from_drewN (hb6.mono (by exact hb02.size)))⟩
      · clear l0 l1
        by_cases hm : MayN len0 L0
        · exact bad a0 len0 cap0 A0 L0 C0 f0 a1 len1 cap1 A1 L1 C1 f1 w w0 w1 true 0 hl0 hl1 g1 rfl (fun _ => rfl) (fun k => absurd hm k)
        · exact bad a0 len0 cap0 A0 L0 C0 f0 a1 len1 cap1 A1 L1 C1 f1 w w0 w1 false 1 hl0 hl1 g1 rfl (fun k => absurd k hm) (fun _ => rfl)
    · have hl1 := light_any a1 len1 cap1 false A1 L1 C1 w w1.1 ⟨fun h => (by cases h), fun h => absurd h l1⟩
      clear l0 l1 w0 w1
      go_enter Try.func3, Try.ntmps3
      go_wp2_with (first | (go_at_call 8; refine hl0.mono ?_; rintro e w' ⟨rfl, rfl⟩; clear hl0) | (go_at_call 8; refine hl1.mono ?_; rintro e w' ⟨rfl, rfl⟩; clear hl1) | (go_at_call 9; refine (awake_any _).mono ?_; rintro e x6 ⟨rfl, hb6⟩))
      go_ret
      exact ⟨rfl, hb6⟩
  · have hl0 := light_any a0 len0 cap0 false A0 L0 C0 w w0.1 ⟨fun h => (by cases h), fun h => absurd h l0⟩
    clear l0 w0 w1
    go_enter Try.func3, Try.ntmps3
    go_wp2_with (first | (go_at_call 8; refine hl0.mono ?_; rintro e w' ⟨rfl, rfl⟩; clear hl0) | (go_at_call 9; refine (awake_any _).mono ?_; rintro e x6 ⟨rfl, hb6⟩))
    go_ret
    exact ⟨rfl, hb6⟩

set_option maxRecDepth 100000 in
theorem lifted (os : Os) (started : os.Started) (H : Type) (enc : TypeId × Value → H) :
    ReturnsInHanded {} Try.checked os 3 .any (Rows.matrixMulsSpec.pre6 enc Try.prog Try.f3 Rows.matrixMulsRow.domain false) (Rows.matrixMulsSpec.post enc Try.prog Try.f3 false true false false) := by
  refine returnsInHanded_of_change (C := Try.checked) own started (by kernel_rfl) Try.func3
    (ChangeSpec.witness6 (enc := enc) (C := Try.checked) false ⟨#[], #[.slice none 0 0, .slice none 0 0], []⟩ 8 (by kernel_rfl) (by kernel_rfl) (by kernel_rfl) (by kernel_rfl)) ?_
  intro W base args ds gs before hval0 hW hcnd _
  have hval : ∀ (j : Nat) t v, Try.f3.params[j]? = some t → args[j]? = some v → Value.okWide Try.prog W .any base t v := hval0
  have hW' := hW
  obtain ⟨p, q, hA0, hV, rfl, hfz, hnd⟩ := hW
  have hA : DataW.TrodAll enc Try.prog W 0 (fun _ => true) true Try.f3.params.toList args.toList ds p := hA0
  rw [Try.params3] at hA hval
  obtain ⟨v0, vs0, d0, ds0, p0, q0, hargs, rfl, rfl, h0, r0⟩ := trodAll_cons hA
  obtain ⟨v1, vs1, d1, ds1, p1, q1, rfl, rfl, rfl, h1, r1⟩ := trodAll_cons r0
  obtain ⟨rfl, rfl, rfl⟩ := trodAll_nil r1
  obtain rfl : args = #[v0, v1] := by cases args; simp_all
  obtain ⟨rfl, rfl⟩ := trodVars_none hV
  obtain ⟨a0, len0, cap0, rfl⟩ := okWide_slice Try.underlying22 (hval 0 22 v0 rfl rfl)
  have k0 := h0
  have lt0 : ∀ x ∈ p0, x.block < W.heap.size := by obtain ⟨m, hm⟩ := k0; exact DataW.trod_lt m _ _ _ hm
  obtain ⟨A0, L0, C0, f0, w0⟩ := grid_of h0
  obtain ⟨a1, len1, cap1, rfl⟩ := okWide_slice Try.underlying22 (hval 1 22 v1 rfl rfl)
  have k1 := h1
  have lt1 : ∀ x ∈ p1, x.block < W.heap.size := by obtain ⟨m, hm⟩ := k1; exact DataW.trod_lt m _ _ _ hm
  obtain ⟨A1, L1, C1, f1, w1⟩ := grid_of h1
  clear hA0 hval0
  refine (walk a0 len0 cap0 A0 L0 C0 f0 a1 len1 cap1 A1 L1 C1 f1 W w0 w1).mono fun e W' ⟨he, bel⟩ => ?_
  subst he
  exact ⟨_, rfl, _, _, _, [], _, [], hW', trodAll_mk1 (shut_bool Try.underlying4 _), (trodAll_cons_mk (Below.trod laidOut (by kernel_rfl) (of_decide_eq_true (by kernel_rfl)) k0 bel lt0) (trodAll_cons_mk (Below.trod laidOut (by kernel_rfl) (of_decide_eq_true (by kernel_rfl)) k1 bel lt1) trodAll_mk0)), rfl, bel.frame _, fun h => by cases h⟩

theorem over : Rows.matrixMulsRow.holds Try.pinned (OpenSpec.ofChange Rows.matrixMulsSpec) :=
  OpenClaim.holds_of_wide 3 Try.f3 rfl rfl rfl rfl rfl rfl rfl ⟨rfl, rfl, rfl, rfl, rfl⟩ rfl rfl rfl rfl rfl (by kernel_rfl) Try.func3 (by kernel_rfl)
    (of_decide_eq_true (by kernel_rfl)) (by unfold Func.isWrapper; first | (rw [if_pos (by decide +kernel)]; kernel_rfl) | (rw [if_neg (by decide +kernel)]; exact ⟨rfl, rfl⟩))
    (fun os started H enc _ => lifted os started H enc)

theorem proved : Rows.MatrixMulsSaid := over
#print axioms proved
end Go.Proofs.Ytkdjjmjfpembpaa.matrixMuls
