/-
  For any list of rows of bytes package matrix tells an inverse just if the list is a square matrix whose rank is how many rows it has, refuses others as the document asks, and what it tells is the inverse from either side: 'mooringlaw02.MatrixInverts' returns true and leaves its argument as it was.
  Conditions: none.
-/
import Derived.Test.YtkdjjmjfpembpaaRows
import Derived.WalkKit
import Derived.ProofKit
import Derived.OpenShut
import Derived.SizedLaws
import Derived.ShutString
import Derived.ChangeOld
import Derived.Below
import Derived.Test.YtkdjjmjfpembpaaMxLaw
import Derived.Test.YtkdjjmjfpembpaaMxGrid
import Derived.Test.YtkdjjmjfpembpaaMxRefRank
import Derived.Test.YtkdjjmjfpembpaaMxInvPlain
namespace Go.Proofs.Ytkdjjmjfpembpaa.matrixInverts
open Go.ChangeShapes Go.WideShapes Go.ChangeAt Go.RowKit
open Gf
set_option linter.unusedVariables false

theorem own : ownKnob Try.prog.godebug = none := by kernel_rfl
theorem laidOut : laidOutB Try.prog = true := by kernel_rfl

theorem below_from_drewN {B m : Nat} {w x : World} (h : Below B (w.drewN m) x) : Below B w x := ⟨h.os, h.tape, h.output, h.size, h.block⟩

theorem ranks (f : Nat → Nat → Nat) (n : Nat) : (rnk n f n).1 = (red n (aug f n) n).1 :=
  (red_rnk n n (aug f n) f (fun s _ j hj => aug_left f n s j hj) n (Nat.le_refl _)).1.symm

set_option maxHeartbeats 2000000 in
set_option maxRecDepth 100000 in
theorem square (b o n c : Nat) (G O C : Nat → Nat) (f : Nat → Nat → Nat) (w : World) (hM : Mat w b o n n G O C f) (h1 : 1 ≤ n) (h2 : n ≤ 255)
    (hl : Calls Try.prog 8 #[.slice (some ⟨b, o, none⟩) n c] w fun e w' => e = .returned (.bool true) ∧ w' = w) :
    Calls Try.prog 5 #[.slice (some ⟨b, o, none⟩) n c] w fun e w' => e = .returned (.bool true) ∧ Below w.heap.size w w' := by
  have hf := hM.lt
  have hI := inverse_any b o n c G O C f w hM h1 h2
  have hrk := ranks f n
  have hle := red_le n (aug f n) n
  have hmy : ∀ x, Below w.heap.size w x → Calls Try.prog 14 #[.slice (some ⟨b, o, none⟩) n c] x fun e w' => e = .returned (.bool true) ∧ ∃ k, w' = x.drewN k := fun x hx => may_any _ n c true _ _ C x (hM.below (Nat.le_refl _) hx).tops (fun _ => rfl) (fun k => absurd ⟨h1, h2, h1, h2, fun r _ => rfl⟩ k)
  have hrank : ∀ x, Below w.heap.size w x → Calls Try.prog 20 #[.slice (some ⟨b, o, none⟩) n c] x fun e w' => e = .returned (.int .i64 ((red n (aug f n) n).1 : Int)) ∧ Below x.heap.size x w' := fun x hx => by
    have := rrank_any b o n n c G O C f x (hM.below (Nat.le_refl _) hx) h1 h2 h1 h2
    rwa [hrk] at this
  have ht : ∀ x, Below w.heap.size w x → x.cell? ⟨b, o, none⟩ = some (.slice (some ⟨G 0, O 0, none⟩) n (C 0)) := fun x hx => (hM.below (Nat.le_refl _) hx).top 0 (by omega)
  have hn0 : (0 : Int) < (n : Int) := by omega
  have HM : Hid (Mat w b o n n G O C f) := hM
  by_cases hr : (red n (aug f n) n).1 < n
  · have hinv : Calls Try.prog 21 #[.slice (some ⟨b, o, none⟩) n c] w fun e w' => e = .returned (.tuple #[.slice none 0 0, .int .i64 4]) ∧ Below w.heap.size w w' := hI.mono fun e w' h => by
      rcases h.2 with ⟨_, he⟩ | ⟨h0, _⟩
      · exact ⟨he, h.1⟩
      · omega
    generalize (red n (aug f n) n).1 = R at hr hrank hle
    have hrn : (R : Int) < (n : Int) := by omega
    clear hI hrk hM hf
    go_enter Try.func5, Try.ntmps5
    go_wp2_with (first
      | (go_at_call 8; refine hl.mono ?_; rintro e w' ⟨rfl, rfl⟩; clear hl)
      | (go_at_call 21; refine hinv.mono ?_; rintro e x1 ⟨rfl, hb1⟩; clear hinv)
      | (go_at_call 14; refine (hmy _ hb1).mono ?_; rintro e x2 ⟨rfl, m2, rfl⟩; clear hmy; have hb2 := below_drewN' hb1 m2; have ht2 := ht _ hb2; clear ht)
      | (go_at_call 20; refine (hrank _ hb2).mono ?_; rintro e x3 ⟨rfl, hb3⟩; clear hrank)
      | (go_at_call 9; refine (awake_any _).mono ?_; rintro e x6 ⟨rfl, hb6⟩))
    go_ret
    exact ⟨rfl, (hb2.trans (hb3.mono (by exact hb2.size))).trans (hb6.mono (Nat.le_trans hb2.size hb3.size))⟩
  · have hrn : (red n (aug f n) n).1 = n := by omega
    have hinv : Calls Try.prog 21 #[.slice (some ⟨b, o, none⟩) n c] w fun e w' => ∃ B G1 C1, e = .returned (.tuple #[.slice (some ⟨B, 0, none⟩) n n, .int .i64 0]) ∧ Below w.heap.size w w' ∧ Own w.heap.size w' B n n G1 C1 (right f n) := hI.mono fun e w' h => by
      rcases h.2 with ⟨h0, _⟩ | ⟨_, B, G1, C1, he, ho⟩
      · omega
      · exact ⟨B, G1, C1, he, h.1, ho⟩
    have HL : Hid (∀ r, r < n → ∀ j, j < n → mulF (right f n) f n r j = delta r j) := fun r hr j hj => inv_left hf hrn hr hj
    have HR : Hid (∀ r, r < n → ∀ j, j < n → mulF f (right f n) n r j = delta r j) := fun r hr j hj => inv_right hf hrn hr hj
    rw [hrn] at hrank
    clear hI hrk hM hf hr hrn hle
    go_enter Try.func5, Try.ntmps5
    go_wp2_with (first
      | (go_at_call 8; refine hl.mono ?_; rintro e w' ⟨rfl, rfl⟩; clear hl)
      | (go_at_call 21; refine hinv.mono ?_; rintro e x1 ⟨B, G1, C1, rfl, hb1, ho1⟩; clear hinv)
      | (go_at_call 14; refine (hmy _ hb1).mono ?_; rintro e x2 ⟨rfl, m2, rfl⟩; clear hmy; have hb2 := below_drewN' hb1 m2; have ht2 := ht _ hb2; have ho2 := ho1.drewN m2; clear ht ho1)
      | (go_at_call 20; refine (hrank _ hb2).mono ?_; rintro e x3 ⟨rfl, hb3⟩; clear hrank; have hb03 := hb2.trans (hb3.mono hb2.size); have ho3 := ho2.below (Nat.le_refl _) hb3; clear ho2; have hmul1 := rmulm_yes b o B 0 n n n c n G O C G1 (fun _ => 0) C1 f (right f n) x3 (HM.out.below (Nat.le_refl _) hb03) ho3.mat h1 h2 h1 h2 h1 h2)
      | (go_at_call 11; refine hmul1.mono ?_; rintro e x4 ⟨hb4, B4, c4, G4, C4, rfl, ho4⟩; clear hmul1; have hb04 := hb03.trans (hb4.mono hb03.size); have ho34 := ho3.below (Nat.le_refl _) hb4; clear ho3; have hmul2 := rmulm_yes B 0 b o n n n n c G1 (fun _ => 0) C1 G O C (right f n) f x4 ho34.mat (HM.out.below (Nat.le_refl _) hb04) h1 h2 h1 h2 h1 h2)
      | (go_at_call 11; refine hmul2.mono ?_; rintro e x5 ⟨hb5, B5, c5, G5, C5, rfl, ho5⟩; clear hmul2; have hb05 := hb04.trans (hb5.mono hb04.size); have ho45 := ho4.below (Nat.le_refl _) hb5; clear ho4)
      | (go_at_call 17; refine (rident_any n _ h1 h2).mono ?_; rintro e x7 ⟨V, G7, C7, rfl, hgr⟩; have hb7 := hgr.below; obtain ⟨B7, c7, hV, ho7⟩ := grow_own hgr (by omega); subst hV; clear hgr; have hb07 := hb05.trans (hb7.mono hb05.size); have hs1 := same_rows B4 0 B7 0 n n c4 c7 G4 (fun _ => 0) C4 G7 (fun _ => 0) C7 (mulF f (right f n) n) delta x7 (by omega) (ho45.mat.below (Nat.le_refl _) hb7) ho7.mat HR.out)
      | (go_at_call 15; refine hs1.mono ?_; rintro e x8 ⟨rfl, m8, rfl⟩; clear hs1; have hs2 := same_rows B5 0 B7 0 n n c5 c7 G5 (fun _ => 0) C5 G7 (fun _ => 0) C7 (mulF (right f n) f n) delta (x7.drewN m8) (by omega) ((ho5.mat.below (Nat.le_refl _) hb7).drewN m8) (ho7.mat.drewN m8) HL.out)
      | (go_at_call 15; refine hs2.mono ?_; rintro e x9 ⟨rfl, m9, rfl⟩; clear hs2)
      | (go_at_call 9; refine (awake_any _).mono ?_; rintro e x6 ⟨rfl, hb6⟩))
    go_ret
    exact ⟨rfl, hb07.trans (below_from_drewN (hb6.mono (by exact hb07.size)))⟩

set_option maxHeartbeats 2000000 in
set_option maxRecDepth 100000 in
theorem walk (a0 : Option Addr) (len0 cap0 : Nat) (A0 : Nat → Option Addr) (L0 C0 : Nat → Nat) (f0 : Nat → Nat → Nat) (w : World) (w0 : IsGrid w a0 len0 A0 L0 C0 f0) :
    Calls Try.prog 5 #[.slice a0 len0 cap0] w fun e w' => e = .returned (.bool true) ∧ Below w.heap.size w w' := by
  by_cases l0 : LightN len0 L0
  · have hl := light_any a0 len0 cap0 true A0 L0 C0 w w0.1 ⟨fun _ => l0, fun _ => rfl⟩
    clear l0
    by_cases hm : MayN len0 L0
    · by_cases hq : len0 = L0 0
      · obtain ⟨b, o, G, O, rfl, hM⟩ := grid_mat w0 hm
        rw [← hq] at hM
        exact square b o len0 cap0 G O C0 f0 w hM hm.1 hm.2.1 hl
      · have hinv := inverse_out a0 len0 cap0 A0 L0 C0 w w0.1 (.inr hq)
        have hmy := may_any a0 len0 cap0 true A0 L0 C0 w w0.1 (fun _ => rfl) (fun k => absurd hm k)
        have hne : ((len0 : Int) != (L0 0 : Int)) = true := by simp; omega
        have hn0 : (0 : Int) < (len0 : Int) := by have := hm.1; omega
        rcases w0.1 with h0 | ⟨b, o, rfl, _, ht⟩
        · have := hm.1; omega
        · have ht0 : w.cell? ⟨b, o, none⟩ = some (.slice (A0 0) (L0 0) (C0 0)) := ht 0 (by have := hm.1; omega)
          clear ht hm hq w0
          go_enter Try.func5, Try.ntmps5
          go_wp2_with (first
            | (go_at_call 8; refine hl.mono ?_; rintro e w' ⟨rfl, rfl⟩; clear hl)
            | (go_at_call 21; refine hinv.mono ?_; rintro e x1 ⟨rfl, rfl⟩; clear hinv)
            | (go_at_call 14; refine hmy.mono ?_; rintro e x2 ⟨rfl, m2, rfl⟩; clear hmy)
            | (go_at_call 9; refine (awake_any _).mono ?_; rintro e x6 ⟨rfl, hb6⟩))
          go_ret
          exact ⟨rfl, below_from_drewN hb6⟩
    · have hinv := inverse_out a0 len0 cap0 A0 L0 C0 w w0.1 (.inl hm)
      have hmy := may_any a0 len0 cap0 false A0 L0 C0 w w0.1 (fun k => absurd k hm) (fun _ => rfl)
      clear hm w0
      go_enter Try.func5, Try.ntmps5
      go_wp2_with (first
        | (go_at_call 8; refine hl.mono ?_; rintro e w' ⟨rfl, rfl⟩; clear hl)
        | (go_at_call 21; refine hinv.mono ?_; rintro e x1 ⟨rfl, rfl⟩; clear hinv)
        | (go_at_call 14; refine hmy.mono ?_; rintro e x2 ⟨rfl, m2, rfl⟩; clear hmy)
        | (go_at_call 9; refine (awake_any _).mono ?_; rintro e x6 ⟨rfl, hb6⟩))
      go_ret
      exact ⟨rfl, below_from_drewN hb6⟩
  · have hl := light_any a0 len0 cap0 false A0 L0 C0 w w0.1 ⟨fun h => (by cases h), fun h => absurd h l0⟩
    clear l0 w0
    go_enter Try.func5, Try.ntmps5
    go_wp2_with (first | (go_at_call 8; refine hl.mono ?_; rintro e w' ⟨rfl, rfl⟩; clear hl) | (go_at_call 9; refine (awake_any _).mono ?_; rintro e x6 ⟨rfl, hb6⟩))
    go_ret
    exact ⟨rfl, hb6⟩

set_option maxRecDepth 100000 in
theorem lifted (os : Os) (started : os.Started) (H : Type) (enc : TypeId × Value → H) :
    ReturnsInHanded {} Try.checked os 5 .any (Rows.matrixInvertsSpec.pre6 enc Try.prog Try.f5 Rows.matrixInvertsRow.domain false) (Rows.matrixInvertsSpec.post enc Try.prog Try.f5 false true false false) := by
  refine returnsInHanded_of_change (C := Try.checked) own started (by kernel_rfl) Try.func5
    (ChangeSpec.witness6 (enc := enc) (C := Try.checked) false ⟨#[], #[.slice none 0 0], []⟩ 8 (by kernel_rfl) (by kernel_rfl) (by kernel_rfl) (by kernel_rfl)) ?_
  intro W base args ds gs before hval0 hW hcnd _
  have hval : ∀ (j : Nat) t v, Try.f5.params[j]? = some t → args[j]? = some v → Value.okWide Try.prog W .any base t v := hval0
  have hW' := hW
  obtain ⟨p, q, hA0, hV, rfl, hfz, hnd⟩ := hW
  have hA : DataW.TrodAll enc Try.prog W 0 (fun _ => true) true Try.f5.params.toList args.toList ds p := hA0
  rw [Try.params5] at hA hval
  obtain ⟨v0, vs0, d0, ds0, p0, q0, hargs, rfl, rfl, h0, r0⟩ := trodAll_cons hA
  obtain ⟨rfl, rfl, rfl⟩ := trodAll_nil r0
  obtain rfl : args = #[v0] := by cases args; simp_all
  obtain ⟨rfl, rfl⟩ := trodVars_none hV
  obtain ⟨a0, len0, cap0, rfl⟩ := okWide_slice Try.underlying22 (hval 0 22 v0 rfl rfl)
  have k0 := h0
  have lt0 : ∀ x ∈ p0, x.block < W.heap.size := by obtain ⟨m, hm⟩ := k0; exact DataW.trod_lt m _ _ _ hm
  obtain ⟨A0, L0, C0, f0, w0⟩ := grid_of h0
  clear hA0 hval0
  refine (walk a0 len0 cap0 A0 L0 C0 f0 W w0).mono fun e W' ⟨he, bel⟩ => ?_
  subst he
  exact ⟨_, rfl, _, _, _, [], _, [], hW', trodAll_mk1 (shut_bool Try.underlying4 _), (trodAll_cons_mk (Below.trod laidOut (by kernel_rfl) (of_decide_eq_true (by kernel_rfl)) k0 bel lt0) trodAll_mk0), rfl, bel.frame _, fun h => by cases h⟩

theorem over : Rows.matrixInvertsRow.holds Try.pinned (OpenSpec.ofChange Rows.matrixInvertsSpec) :=
  OpenClaim.holds_of_wide 5 Try.f5 rfl rfl rfl rfl rfl rfl rfl ⟨rfl, rfl, rfl, rfl, rfl⟩ rfl rfl rfl rfl rfl (by kernel_rfl) Try.func5 (by kernel_rfl)
    (of_decide_eq_true (by kernel_rfl)) (by unfold Func.isWrapper; first | (rw [if_pos (by decide +kernel)]; kernel_rfl) | (rw [if_neg (by decide +kernel)]; exact ⟨rfl, rfl⟩))
    (fun os started H enc _ => lifted os started H enc)

theorem proved : Rows.MatrixInvertsSaid := over
#print axioms proved
end Go.Proofs.Ytkdjjmjfpembpaa.matrixInverts
