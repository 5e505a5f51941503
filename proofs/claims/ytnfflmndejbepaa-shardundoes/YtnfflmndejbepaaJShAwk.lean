/-
  2 texts of this proof, one behind the other: ShAwk, ShAwake.
-/
import Derived.Test.YtnfflmndejbepaaShWr
import Derived.Test.YtnfflmndejbepaaJShStgP
import Derived.Test.YtnfflmndejbepaaShGet
import Derived.Test.YtnfflmndejbepaaJMxOrders
import Derived.Test.YtnfflmndejbepaaJShFil
import Derived.Deep.DeepCutAuto
/-
  awake, plainly: what comes of the fixed values.
  Conditions: none.
-/
namespace Go.Proofs.Ytnfflmndejbepaa.Sh
set_option linter.unusedSectionVars false
variable [Inhabited DZ]
open Go.RowKit By Fl Na
set_option linter.unusedVariables false
set_option linter.unusedSimpArgs false
set_option maxRecDepth 100000

def nmA : ByteArray := ⟨#[97]⟩
theorem nmA_ok : NameOk nmA := by
  refine ⟨[97], [], ⟨by decide +kernel, fun r hr => ?_, .inl rfl, Na.nat_lt _⟩, by decide +kernel⟩
  rw [List.mem_singleton.1 hr]
  unfold ok
  omega

def eA : Ent := ⟨1, 0, 0, nmA, 0, false, 1⟩
def cA : Chk := ⟨1, [7], 0⟩
def sA (z : Int) : Shd := ⟨0, z, [], [], []⟩

theorem sA_ok {z : Int} (h : 1 ≤ z ∧ z ≤ 10) : okS (sA z) :=
  .inr ⟨by show z ≠ 0; omega, by show 1 ≤ z ∧ z ≤ 1048576; omega, by show (0 : Int) ≤ 0 ∧ (0 : Int) ≤ 31; omega, Nat.le_refl _, fun x hx => (by cases hx), List.Pairwise.nil, fun i e h => by simp [sA] at h, fun i u e h => by simp [sA] at h⟩
theorem eA_ok : okE eA := ⟨by decide, by decide, by decide, nmA_ok, fun h => absurd rfl h, (fun h => absurd h (by decide)), by decide, by decide⟩
theorem cA_ok : okC cA := ⟨by decide, by decide, by decide⟩
theorem zS_ok : okS zS := .inl ⟨rfl, rfl⟩
theorem zH_ok : okH zH := ⟨by decide, zS_ok, by decide, by decide, trivial⟩

theorem stage_a : stageP zH (sA 3) = (⟨3, zS, [sA 3]⟩, 0) := by
  unfold stageP
  rw [bz_true zH_ok, bz_true (p := (sA 3).si ≠ 0 ∧ okS (sA 3)) ⟨by decide, sA_ok (by decide)⟩]
  rfl

def H1 : Hld := ⟨3, zS, [sA 3]⟩
theorem H1_ok : okH H1 := ⟨by decide, zS_ok, by decide, by decide, by decide, by decide, sA_ok (by decide), trivial⟩

theorem act_a : actP H1 3 = (⟨3, sA 3, []⟩, 0) := by
  unfold actP askP
  rw [bz_true H1_ok]
  rfl

def H2 : Hld := ⟨3, doE (sA 3) eA cA, []⟩
theorem write_a : writeP H1 3 eA cA = (H2, 0) := by
  unfold writeP
  rw [act_a, bz_true eA_ok, bz_true cA_ok]
  rfl

theorem do_a : doE (sA 3) eA cA = ⟨0, 3, [⟨nmA, cA⟩], [eA], [⟨1, nmA, false, zC⟩]⟩ := rfl

theorem H2_ok : okH H2 := now_ok (s := sA 3) (t := doE (sA 3) eA cA) ⟨by decide, sA_ok (by decide), by decide, by decide, trivial⟩ (do_ok (sA_ok (by decide)) (by decide) eA_ok cA_ok rfl) rfl

theorem stage_b : stageP H2 (sA 2) = (H2, 7) := by
  unfold stageP
  rw [bz_true H2_ok, bz_true (p := (sA 2).si ≠ 0 ∧ okS (sA 2)) ⟨by decide, sA_ok (by decide)⟩]
  rfl

theorem find_a : find nmA (doE (sA 3) eA cA).its = some cA := by
  rw [do_a]
  unfold find
  simp

theorem H1_small : Small H1 := fun s hs => by
  rcases List.mem_cons.1 hs with e | e
  · rw [e]; exact ⟨by decide, by decide, by decide⟩
  · rw [List.mem_singleton.1 e]; exact ⟨by decide, by decide, by decide⟩

end Go.Proofs.Ytnfflmndejbepaa.Sh

/-
  awake, entry, and what compares errors.
  Conditions: none.
-/
namespace Go.Proofs.Ytnfflmndejbepaa.Sh
set_option linter.unusedSectionVars false
variable [Inhabited DZ]
open Go.RowKit By Fl
set_option linter.unusedVariables false
set_option linter.unusedSimpArgs false
set_option maxRecDepth 100000

theorem entry_any (w : World) : Calls Try.prog 53 #[.int .i64 1] w fun r w' => r = .returned (.agg #[.int .i64 1, .int .i64 0, .int .i64 0, .string ⟨#[97]⟩, .int .i64 0, .bool false, .int .i64 1]) ∧ Below w.heap.size w w' := by
  go_enter Try.func53, Try.ntmps53
  go_wp2_with fail
  refine bodyPost_ret (v := .agg #[.int .i64 1, .int .i64 0, .int .i64 0, .string ⟨#[97]⟩, .int .i64 0, .bool false, .int .i64 1]) ?_ rfl ?_
  · rw [results_cell1 rfl]
    go_simp
  · exact ⟨rfl, al _ _⟩

set_option maxHeartbeats 12800000 in
theorem awake_any (w : World) : Calls Try.prog 25 #[] w fun e w' => e = .returned (.bool true) ∧ Below w.heap.size w w' := by
  have hS1 := stage_any (w := w) (v := zHV) (s := ⟨0, 3, none, 0, 0, [], none, 0, 0, [], none, 0, 0, []⟩) (zHV_own w).toH (G := fun _ => True) ⟨Lis.empty w _, Lis.empty w _, Lis.empty w _⟩
  rw [show stageP (pH zHV) (pS ⟨0, 3, none, 0, 0, [], none, 0, 0, [], none, 0, 0, []⟩) = (⟨3, zS, [sA 3]⟩, 0) from stage_a] at hS1
  have HEn := hid entry_any
  unfold Tells vH vS zHV zSV at hS1
  dsimp only at hS1
  go_enter Try.func25, Try.ntmps25
  go_upto_region 2 with (go_at_call 30; refine hS1.mono ?_; rintro r wa ⟨v1, rfl, H1'⟩; clear hS1)
  obtain ⟨G0, Gl, GN, o1, e1, b1, q1⟩ := H1'.out
  obtain ⟨p, hp⟩ : ∃ p, p = wa.heap.size := ⟨_, rfl⟩
  obtain ⟨w2, hw2⟩ : ∃ w2, w2 = wa.alloc (.cells #[.int .i64 v1.fe, .int .i64 v1.now.pl, .int .i64 v1.now.si, .slice v1.now.x1 v1.now.n1 v1.now.c1, .slice v1.now.x2 v1.now.n2 v1.now.c2, .slice v1.now.x3 v1.now.n3 v1.now.c3, .slice v1.x v1.n v1.c] 29) := ⟨_, rfl⟩
  have b2 : Below wa.heap.size wa w2 := by rw [hw2]; exact al _ _
  have hg : w2.heap[wa.heap.size]? = some (.cells (HCells v1) 29 (0, 0)) := by rw [hw2]; exact heap_alloc_new _ _
  rw [← hw2, ← hp]
  rw [← hp] at hg
  have HG1 := hid hg
  have HB1 := hid (on b1 b2)
  have HO1 := hid (And.intro (o1.below b2) (And.intro (show pH v1 = H1 from e1) True.intro))
  have HPw := hid (show w.heap.size ≤ p by rw [hp]; exact b1.size)
  have HK1 : Hid (∀ W, Below w2.heap.size w2 W → W.cell? ⟨p, 0, none⟩ = some (.int .i64 v1.fe) ∧ W.cell? ⟨p, 1, none⟩ = some (.int .i64 v1.now.pl) ∧ W.cell? ⟨p, 2, none⟩ = some (.int .i64 v1.now.si) ∧ W.cell? ⟨p, 3, none⟩ = some (.slice v1.now.x1 v1.now.n1 v1.now.c1) ∧ W.cell? ⟨p, 4, none⟩ = some (.slice v1.now.x2 v1.now.n2 v1.now.c2) ∧ W.cell? ⟨p, 5, none⟩ = some (.slice v1.now.x3 v1.now.n3 v1.now.c3) ∧ W.cell? ⟨p, 6, none⟩ = some (.slice v1.x v1.n v1.c)) := hid fun W hW => hcells ((hW.block p (lt_heap hg)).trans hg)
  clear H1' o1 e1 b1 q1 hp hw2 b2 hg
  go_upto_region 4 with (fail)
  go_cut [2] (fun s2 wc => s2 = .int .i64 0 ∧ ∃ v2, Hid (wc.heap[p]? = some (.cells (HCells v2) 29 (0, 0)) ∧ HAt wc (fun _ => True) v2 ∧ pH v2 = H2 ∧ Below w.heap.size w wc))
  case first =>
    refine wp_region_held_drew (S := fun _ => True) (by kernel_rfl) trivial (fun hHeld => ?_)
    have HBD := hid (show Below w2.heap.size w2 w2.drew from (Below.refl _ _).drew)
    generalize w2.drew = wD at *
    refine wpAnyH_ready (rs := [0, 1, 2]) (by kernel_rfl) (by simp) ?_
    refine (AllReadyH.cons rfl (fun K hK => ?_) (AllReadyH.cons rfl (fun K hK => ?_) (AllReadyH.cons rfl (fun K hK => ?_) AllReadyH.nil)))
    · obtain ⟨z0, z1, z2, z3, z4, z5, z6⟩ := HK1.out _ HBD.out
      go_simp
      refine hK.out _ _ trivial (fun hHeld => ?_)
      clear hK K
      clear z0 z1 z2 z3 z4 z5 z6
      refine wpAnyH_ready (rs := [1, 2]) (by kernel_rfl) (by simp) ?_
      refine (AllReadyH.cons rfl (fun K hK => ?_) (AllReadyH.cons rfl (fun K hK => ?_) AllReadyH.nil))
      · go_simp
        refine (HEn.out _).mono ?_
        rintro r wX ⟨rfl, bX⟩
        have b1 := on HBD.out bX
        refine hK.out _ _ trivial (fun hHeld => ?_)
        clear hK K
        refine wpAnyH_ready (rs := [2]) (by kernel_rfl) (by simp) ?_
        refine AllReadyH.cons rfl (fun K hK => ?_) AllReadyH.nil
        go_simp
        have b2 := on b1 (al wX (.cells #[.int .u8 7] 5))
        have l2 := heap_alloc_new wX (.cells #[.int .u8 7] 5)
        refine hK.out _ _ trivial (fun hHeld => ?_)
        clear hK K
        refine By.hk 3 ?_
        have cC : CAt (wX.alloc (.cells #[.int .u8 7] 5)) (fun _ => True) ⟨1, some ⟨wX.heap.size, 0, none⟩, 1, 1, [7], 0⟩ := ⟨⟨rfl, Nat.le_refl _, (fun h => by cases h), .inr ⟨_, _, rfl, lt_heap l2, fun i hi => by have e0 : i = 0 := Nat.lt_one_iff.1 hi; subst e0; exact cell_heap l2 rfl⟩, fun v hv => by rw [List.mem_singleton.1 hv]; omega⟩, (show 1 ≤ 100000000 by omega), fun _ _ _ => trivial⟩
        have hWr := write_any 3 eA ⟨1, some ⟨wX.heap.size, 0, none⟩, 1, 1, [7], 0⟩ (HO1.out.1.below b2).toH (by decide) cC (by rw [HO1.out.2.1]; exact H1_small)
        rw [HO1.out.2.1, show writeP H1 3 eA (pC ⟨1, some ⟨wX.heap.size, 0, none⟩, 1, 1, [7], 0⟩) = (H2, 0) from write_a] at hWr
        unfold vH vE vC at hWr
        dsimp only [eA, nmA] at hWr
        have HB2 := hid b2
        clear cC 
        refine wpAnyH_ready (rs := [4]) (by kernel_rfl) (by simp) ?_
        refine AllReadyH.cons rfl (fun K hK => ?_) AllReadyH.nil
        go_simp
        refine hWr.mono ?_
        rintro r w5 ⟨v2, rfl, H5⟩
        obtain ⟨I0, Il, IN, o5, e5, b5, q5⟩ := H5.out
        have HO5 := hid (And.intro o5 (And.intro e5 (And.intro b5 q5)))
        clear o5 e5 b5 q5 H5 hWr
        unfold vH
        refine hK.out _ _ trivial (fun hHeld => ?_)
        clear hK K
        refine By.hk 5 ?_
        refine By.hk 6 ?_
        refine By.hk 7 ?_
        have hg5 := ((on HB2.out HO5.out.2.2.1).block p (lt_heap HG1.out)).trans HG1.out
        have HG5 := hid hg5
        have m0 := cell_heap (j := 0) hg5 rfl
        have fm0 := fr_heap hg5 0
        have m1 := cell_heap (j := 1) hg5 rfl
        have fm1 := fr_heap hg5 1
        have m2 := cell_heap (j := 2) hg5 rfl
        have fm2 := fr_heap hg5 2
        have m3 := cell_heap (j := 3) hg5 rfl
        have fm3 := fr_heap hg5 3
        have m4 := cell_heap (j := 4) hg5 rfl
        have fm4 := fr_heap hg5 4
        have m5 := cell_heap (j := 5) hg5 rfl
        have fm5 := fr_heap hg5 5
        have m6 := cell_heap (j := 6) hg5 rfl
        have fm6 := fr_heap hg5 6
        clear hg5
        refine wpAnyH_ready (rs := [8]) (by kernel_rfl) (by simp) ?_
        refine AllReadyH.cons rfl (fun K hK => ?_) AllReadyH.nil
        go_simp
        refine hK.out _ _ trivial (fun hHeld => ?_)
        clear hK K
        refine By.hk 9 ?_
        refine wpAnyH_done (by kernel_rfl) ?_ _
        have e7 : (((((((w5).setCell ⟨p, 0, none⟩ (.int .i64 v2.fe)).setCell ⟨p, 1, none⟩ (.int .i64 v2.now.pl)).setCell ⟨p, 2, none⟩ (.int .i64 v2.now.si)).setCell ⟨p, 3, none⟩ (.slice v2.now.x1 v2.now.n1 v2.now.c1)).setCell ⟨p, 4, none⟩ (.slice v2.now.x2 v2.now.n2 v2.now.c2)).setCell ⟨p, 5, none⟩ (.slice v2.now.x3 v2.now.n3 v2.now.c3)).setCell ⟨p, 6, none⟩ (.slice v2.x v2.n v2.c) = put7 w5 p v2 := rfl
        rw [e7]
        have hg7 := put7_box HG5.out rfl v2
        have t7 := turns_put7 w5 p v2
        have k7 := HO5.out.1.keeps (.turns t7 fun q hq e => by have h1 := (HO5.out.2.2.2 q hq).1; have := HB2.out.size; have := lt_heap HG1.out; omega)
        have bE : Below w.heap.size w (put7 w5 p v2) := by
          have h1 := on HB1.out (on HB2.out HO5.out.2.2.1)
          exact h1.trans (t7.below (fun q e => by have := HPw.out; omega) h1.size)
        have HF := hid (And.intro hg7 (And.intro k7.toH (And.intro HO5.out.2.1 bE)))
        generalize put7 w5 p v2 = w6 at *
        clear e7 hg7 t7 k7 bE m0 m1 m2 m3 m4 m5 m6 fm0 fm1 fm2 fm3 fm4 fm5 fm6
        go_wp2_with fail
        go_meet
        case rel => exact ⟨rfl, v2, HF.out⟩
      · go_simp
        have b1 := on HBD.out (al wD (.cells #[.int .u8 7] 5))
        have l1 := heap_alloc_new wD (.cells #[.int .u8 7] 5)
        refine hK.out _ _ trivial (fun hHeld => ?_)
        clear hK K
        refine By.hk 3 ?_
        refine wpAnyH_ready (rs := [1]) (by kernel_rfl) (by simp) ?_
        refine AllReadyH.cons rfl (fun K hK => ?_) AllReadyH.nil
        go_simp
        refine (HEn.out _).mono ?_
        rintro r wX ⟨rfl, bX⟩
        have b2 := on b1 bX
        have l2 := (bX.block _ (lt_heap l1)).trans l1
        refine hK.out _ _ trivial (fun hHeld => ?_)
        clear hK K
        have cC : CAt wX (fun _ => True) ⟨1, some ⟨wD.heap.size, 0, none⟩, 1, 1, [7], 0⟩ := ⟨⟨rfl, Nat.le_refl _, (fun h => by cases h), .inr ⟨_, _, rfl, lt_heap l2, fun i hi => by have e0 : i = 0 := Nat.lt_one_iff.1 hi; subst e0; exact cell_heap l2 rfl⟩, fun v hv => by rw [List.mem_singleton.1 hv]; omega⟩, (show 1 ≤ 100000000 by omega), fun _ _ _ => trivial⟩
        have hWr := write_any 3 eA ⟨1, some ⟨wD.heap.size, 0, none⟩, 1, 1, [7], 0⟩ (HO1.out.1.below b2).toH (by decide) cC (by rw [HO1.out.2.1]; exact H1_small)
        rw [HO1.out.2.1, show writeP H1 3 eA (pC ⟨1, some ⟨wD.heap.size, 0, none⟩, 1, 1, [7], 0⟩) = (H2, 0) from write_a] at hWr
        unfold vH vE vC at hWr
        dsimp only [eA, nmA] at hWr
        have HB2 := hid b2
        clear cC 
        refine wpAnyH_ready (rs := [4]) (by kernel_rfl) (by simp) ?_
        refine AllReadyH.cons rfl (fun K hK => ?_) AllReadyH.nil
        go_simp
        refine hWr.mono ?_
        rintro r w5 ⟨v2, rfl, H5⟩
        obtain ⟨I0, Il, IN, o5, e5, b5, q5⟩ := H5.out
        have HO5 := hid (And.intro o5 (And.intro e5 (And.intro b5 q5)))
        clear o5 e5 b5 q5 H5 hWr
        unfold vH
        refine hK.out _ _ trivial (fun hHeld => ?_)
        clear hK K
        refine By.hk 5 ?_
        refine By.hk 6 ?_
        refine By.hk 7 ?_
        have hg5 := ((on HB2.out HO5.out.2.2.1).block p (lt_heap HG1.out)).trans HG1.out
        have HG5 := hid hg5
        have m0 := cell_heap (j := 0) hg5 rfl
        have fm0 := fr_heap hg5 0
        have m1 := cell_heap (j := 1) hg5 rfl
        have fm1 := fr_heap hg5 1
        have m2 := cell_heap (j := 2) hg5 rfl
        have fm2 := fr_heap hg5 2
        have m3 := cell_heap (j := 3) hg5 rfl
        have fm3 := fr_heap hg5 3
        have m4 := cell_heap (j := 4) hg5 rfl
        have fm4 := fr_heap hg5 4
        have m5 := cell_heap (j := 5) hg5 rfl
        have fm5 := fr_heap hg5 5
        have m6 := cell_heap (j := 6) hg5 rfl
        have fm6 := fr_heap hg5 6
        clear hg5
        refine wpAnyH_ready (rs := [8]) (by kernel_rfl) (by simp) ?_
        refine AllReadyH.cons rfl (fun K hK => ?_) AllReadyH.nil
        go_simp
        refine hK.out _ _ trivial (fun hHeld => ?_)
        clear hK K
        refine By.hk 9 ?_
        refine wpAnyH_done (by kernel_rfl) ?_ _
        have e7 : (((((((w5).setCell ⟨p, 0, none⟩ (.int .i64 v2.fe)).setCell ⟨p, 1, none⟩ (.int .i64 v2.now.pl)).setCell ⟨p, 2, none⟩ (.int .i64 v2.now.si)).setCell ⟨p, 3, none⟩ (.slice v2.now.x1 v2.now.n1 v2.now.c1)).setCell ⟨p, 4, none⟩ (.slice v2.now.x2 v2.now.n2 v2.now.c2)).setCell ⟨p, 5, none⟩ (.slice v2.now.x3 v2.now.n3 v2.now.c3)).setCell ⟨p, 6, none⟩ (.slice v2.x v2.n v2.c) = put7 w5 p v2 := rfl
        rw [e7]
        have hg7 := put7_box HG5.out rfl v2
        have t7 := turns_put7 w5 p v2
        have k7 := HO5.out.1.keeps (.turns t7 fun q hq e => by have h1 := (HO5.out.2.2.2 q hq).1; have := HB2.out.size; have := lt_heap HG1.out; omega)
        have bE : Below w.heap.size w (put7 w5 p v2) := by
          have h1 := on HB1.out (on HB2.out HO5.out.2.2.1)
          exact h1.trans (t7.below (fun q e => by have := HPw.out; omega) h1.size)
        have HF := hid (And.intro hg7 (And.intro k7.toH (And.intro HO5.out.2.1 bE)))
        generalize put7 w5 p v2 = w6 at *
        clear e7 hg7 t7 k7 bE m0 m1 m2 m3 m4 m5 m6 fm0 fm1 fm2 fm3 fm4 fm5 fm6
        go_wp2_with fail
        go_meet
        case rel => exact ⟨rfl, v2, HF.out⟩
    · go_simp
      refine (HEn.out _).mono ?_
      rintro r wX ⟨rfl, bX⟩
      have b1 := on HBD.out bX
      refine hK.out _ _ trivial (fun hHeld => ?_)
      clear hK K
      refine wpAnyH_ready (rs := [0, 2]) (by kernel_rfl) (by simp) ?_
      refine (AllReadyH.cons rfl (fun K hK => ?_) (AllReadyH.cons rfl (fun K hK => ?_) AllReadyH.nil))
      · obtain ⟨z0, z1, z2, z3, z4, z5, z6⟩ := HK1.out _ b1
        go_simp
        refine hK.out _ _ trivial (fun hHeld => ?_)
        clear hK K
        clear z0 z1 z2 z3 z4 z5 z6
        refine wpAnyH_ready (rs := [2]) (by kernel_rfl) (by simp) ?_
        refine AllReadyH.cons rfl (fun K hK => ?_) AllReadyH.nil
        go_simp
        have b2 := on b1 (al wX (.cells #[.int .u8 7] 5))
        have l2 := heap_alloc_new wX (.cells #[.int .u8 7] 5)
        refine hK.out _ _ trivial (fun hHeld => ?_)
        clear hK K
        refine By.hk 3 ?_
        have cC : CAt (wX.alloc (.cells #[.int .u8 7] 5)) (fun _ => True) ⟨1, some ⟨wX.heap.size, 0, none⟩, 1, 1, [7], 0⟩ := ⟨⟨rfl, Nat.le_refl _, (fun h => by cases h), .inr ⟨_, _, rfl, lt_heap l2, fun i hi => by have e0 : i = 0 := Nat.lt_one_iff.1 hi; subst e0; exact cell_heap l2 rfl⟩, fun v hv => by rw [List.mem_singleton.1 hv]; omega⟩, (show 1 ≤ 100000000 by omega), fun _ _ _ => trivial⟩
        have hWr := write_any 3 eA ⟨1, some ⟨wX.heap.size, 0, none⟩, 1, 1, [7], 0⟩ (HO1.out.1.below b2).toH (by decide) cC (by rw [HO1.out.2.1]; exact H1_small)
        rw [HO1.out.2.1, show writeP H1 3 eA (pC ⟨1, some ⟨wX.heap.size, 0, none⟩, 1, 1, [7], 0⟩) = (H2, 0) from write_a] at hWr
        unfold vH vE vC at hWr
        dsimp only [eA, nmA] at hWr
        have HB2 := hid b2
        clear cC 
        refine wpAnyH_ready (rs := [4]) (by kernel_rfl) (by simp) ?_
        refine AllReadyH.cons rfl (fun K hK => ?_) AllReadyH.nil
        go_simp
        refine hWr.mono ?_
        rintro r w5 ⟨v2, rfl, H5⟩
        obtain ⟨I0, Il, IN, o5, e5, b5, q5⟩ := H5.out
        have HO5 := hid (And.intro o5 (And.intro e5 (And.intro b5 q5)))
        clear o5 e5 b5 q5 H5 hWr
        unfold vH
        refine hK.out _ _ trivial (fun hHeld => ?_)
        clear hK K
        refine By.hk 5 ?_
        refine By.hk 6 ?_
        refine By.hk 7 ?_
        have hg5 := ((on HB2.out HO5.out.2.2.1).block p (lt_heap HG1.out)).trans HG1.out
        have HG5 := hid hg5
        have m0 := cell_heap (j := 0) hg5 rfl
        have fm0 := fr_heap hg5 0
        have m1 := cell_heap (j := 1) hg5 rfl
        have fm1 := fr_heap hg5 1
        have m2 := cell_heap (j := 2) hg5 rfl
        have fm2 := fr_heap hg5 2
        have m3 := cell_heap (j := 3) hg5 rfl
        have fm3 := fr_heap hg5 3
        have m4 := cell_heap (j := 4) hg5 rfl
        have fm4 := fr_heap hg5 4
        have m5 := cell_heap (j := 5) hg5 rfl
        have fm5 := fr_heap hg5 5
        have m6 := cell_heap (j := 6) hg5 rfl
        have fm6 := fr_heap hg5 6
        clear hg5
        refine wpAnyH_ready (rs := [8]) (by kernel_rfl) (by simp) ?_
        refine AllReadyH.cons rfl (fun K hK => ?_) AllReadyH.nil
        go_simp
        refine hK.out _ _ trivial (fun hHeld => ?_)
        clear hK K
        refine By.hk 9 ?_
        refine wpAnyH_done (by kernel_rfl) ?_ _
        have e7 : (((((((w5).setCell ⟨p, 0, none⟩ (.int .i64 v2.fe)).setCell ⟨p, 1, none⟩ (.int .i64 v2.now.pl)).setCell ⟨p, 2, none⟩ (.int .i64 v2.now.si)).setCell ⟨p, 3, none⟩ (.slice v2.now.x1 v2.now.n1 v2.now.c1)).setCell ⟨p, 4, none⟩ (.slice v2.now.x2 v2.now.n2 v2.now.c2)).setCell ⟨p, 5, none⟩ (.slice v2.now.x3 v2.now.n3 v2.now.c3)).setCell ⟨p, 6, none⟩ (.slice v2.x v2.n v2.c) = put7 w5 p v2 := rfl
        rw [e7]
        have hg7 := put7_box HG5.out rfl v2
        have t7 := turns_put7 w5 p v2
        have k7 := HO5.out.1.keeps (.turns t7 fun q hq e => by have h1 := (HO5.out.2.2.2 q hq).1; have := HB2.out.size; have := lt_heap HG1.out; omega)
        have bE : Below w.heap.size w (put7 w5 p v2) := by
          have h1 := on HB1.out (on HB2.out HO5.out.2.2.1)
          exact h1.trans (t7.below (fun q e => by have := HPw.out; omega) h1.size)
        have HF := hid (And.intro hg7 (And.intro k7.toH (And.intro HO5.out.2.1 bE)))
        generalize put7 w5 p v2 = w6 at *
        clear e7 hg7 t7 k7 bE m0 m1 m2 m3 m4 m5 m6 fm0 fm1 fm2 fm3 fm4 fm5 fm6
        go_wp2_with fail
        go_meet
        case rel => exact ⟨rfl, v2, HF.out⟩
      · go_simp
        have b2 := on b1 (al wX (.cells #[.int .u8 7] 5))
        have l2 := heap_alloc_new wX (.cells #[.int .u8 7] 5)
        refine hK.out _ _ trivial (fun hHeld => ?_)
        clear hK K
        refine By.hk 3 ?_
        obtain ⟨z0, z1, z2, z3, z4, z5, z6⟩ := HK1.out _ b2
        refine wpAnyH_ready (rs := [0]) (by kernel_rfl) (by simp) ?_
        refine AllReadyH.cons rfl (fun K hK => ?_) AllReadyH.nil
        go_simp
        refine hK.out _ _ trivial (fun hHeld => ?_)
        clear hK K
        clear z0 z1 z2 z3 z4 z5 z6
        have cC : CAt (wX.alloc (.cells #[.int .u8 7] 5)) (fun _ => True) ⟨1, some ⟨wX.heap.size, 0, none⟩, 1, 1, [7], 0⟩ := ⟨⟨rfl, Nat.le_refl _, (fun h => by cases h), .inr ⟨_, _, rfl, lt_heap l2, fun i hi => by have e0 : i = 0 := Nat.lt_one_iff.1 hi; subst e0; exact cell_heap l2 rfl⟩, fun v hv => by rw [List.mem_singleton.1 hv]; omega⟩, (show 1 ≤ 100000000 by omega), fun _ _ _ => trivial⟩
        have hWr := write_any 3 eA ⟨1, some ⟨wX.heap.size, 0, none⟩, 1, 1, [7], 0⟩ (HO1.out.1.below b2).toH (by decide) cC (by rw [HO1.out.2.1]; exact H1_small)
        rw [HO1.out.2.1, show writeP H1 3 eA (pC ⟨1, some ⟨wX.heap.size, 0, none⟩, 1, 1, [7], 0⟩) = (H2, 0) from write_a] at hWr
        unfold vH vE vC at hWr
        dsimp only [eA, nmA] at hWr
        have HB2 := hid b2
        clear cC 
        refine wpAnyH_ready (rs := [4]) (by kernel_rfl) (by simp) ?_
        refine AllReadyH.cons rfl (fun K hK => ?_) AllReadyH.nil
        go_simp
        refine hWr.mono ?_
        rintro r w5 ⟨v2, rfl, H5⟩
        obtain ⟨I0, Il, IN, o5, e5, b5, q5⟩ := H5.out
        have HO5 := hid (And.intro o5 (And.intro e5 (And.intro b5 q5)))
        clear o5 e5 b5 q5 H5 hWr
        unfold vH
        refine hK.out _ _ trivial (fun hHeld => ?_)
        clear hK K
        refine By.hk 5 ?_
        refine By.hk 6 ?_
        refine By.hk 7 ?_
        have hg5 := ((on HB2.out HO5.out.2.2.1).block p (lt_heap HG1.out)).trans HG1.out
        have HG5 := hid hg5
        have m0 := cell_heap (j := 0) hg5 rfl
        have fm0 := fr_heap hg5 0
        have m1 := cell_heap (j := 1) hg5 rfl
        have fm1 := fr_heap hg5 1
        have m2 := cell_heap (j := 2) hg5 rfl
        have fm2 := fr_heap hg5 2
        have m3 := cell_heap (j := 3) hg5 rfl
        have fm3 := fr_heap hg5 3
        have m4 := cell_heap (j := 4) hg5 rfl
        have fm4 := fr_heap hg5 4
        have m5 := cell_heap (j := 5) hg5 rfl
        have fm5 := fr_heap hg5 5
        have m6 := cell_heap (j := 6) hg5 rfl
        have fm6 := fr_heap hg5 6
        clear hg5
        refine wpAnyH_ready (rs := [8]) (by kernel_rfl) (by simp) ?_
        refine AllReadyH.cons rfl (fun K hK => ?_) AllReadyH.nil
        go_simp
        refine hK.out _ _ trivial (fun hHeld => ?_)
        clear hK K
        refine By.hk 9 ?_
        refine wpAnyH_done (by kernel_rfl) ?_ _
        have e7 : (((((((w5).setCell ⟨p, 0, none⟩ (.int .i64 v2.fe)).setCell ⟨p, 1, none⟩ (.int .i64 v2.now.pl)).setCell ⟨p, 2, none⟩ (.int .i64 v2.now.si)).setCell ⟨p, 3, none⟩ (.slice v2.now.x1 v2.now.n1 v2.now.c1)).setCell ⟨p, 4, none⟩ (.slice v2.now.x2 v2.now.n2 v2.now.c2)).setCell ⟨p, 5, none⟩ (.slice v2.now.x3 v2.now.n3 v2.now.c3)).setCell ⟨p, 6, none⟩ (.slice v2.x v2.n v2.c) = put7 w5 p v2 := rfl
        rw [e7]
        have hg7 := put7_box HG5.out rfl v2
        have t7 := turns_put7 w5 p v2
        have k7 := HO5.out.1.keeps (.turns t7 fun q hq e => by have h1 := (HO5.out.2.2.2 q hq).1; have := HB2.out.size; have := lt_heap HG1.out; omega)
        have bE : Below w.heap.size w (put7 w5 p v2) := by
          have h1 := on HB1.out (on HB2.out HO5.out.2.2.1)
          exact h1.trans (t7.below (fun q e => by have := HPw.out; omega) h1.size)
        have HF := hid (And.intro hg7 (And.intro k7.toH (And.intro HO5.out.2.1 bE)))
        generalize put7 w5 p v2 = w6 at *
        clear e7 hg7 t7 k7 bE m0 m1 m2 m3 m4 m5 m6 fm0 fm1 fm2 fm3 fm4 fm5 fm6
        go_wp2_with fail
        go_meet
        case rel => exact ⟨rfl, v2, HF.out⟩
    · go_simp
      have b1 := on HBD.out (al wD (.cells #[.int .u8 7] 5))
      have l1 := heap_alloc_new wD (.cells #[.int .u8 7] 5)
      refine hK.out _ _ trivial (fun hHeld => ?_)
      clear hK K
      refine By.hk 3 ?_
      refine wpAnyH_ready (rs := [0, 1]) (by kernel_rfl) (by simp) ?_
      refine (AllReadyH.cons rfl (fun K hK => ?_) (AllReadyH.cons rfl (fun K hK => ?_) AllReadyH.nil))
      · obtain ⟨z0, z1, z2, z3, z4, z5, z6⟩ := HK1.out _ b1
        go_simp
        refine hK.out _ _ trivial (fun hHeld => ?_)
        clear hK K
        clear z0 z1 z2 z3 z4 z5 z6
        refine wpAnyH_ready (rs := [1]) (by kernel_rfl) (by simp) ?_
        refine AllReadyH.cons rfl (fun K hK => ?_) AllReadyH.nil
        go_simp
        refine (HEn.out _).mono ?_
        rintro r wX ⟨rfl, bX⟩
        have b2 := on b1 bX
        have l2 := (bX.block _ (lt_heap l1)).trans l1
        refine hK.out _ _ trivial (fun hHeld => ?_)
        clear hK K
        have cC : CAt wX (fun _ => True) ⟨1, some ⟨wD.heap.size, 0, none⟩, 1, 1, [7], 0⟩ := ⟨⟨rfl, Nat.le_refl _, (fun h => by cases h), .inr ⟨_, _, rfl, lt_heap l2, fun i hi => by have e0 : i = 0 := Nat.lt_one_iff.1 hi; subst e0; exact cell_heap l2 rfl⟩, fun v hv => by rw [List.mem_singleton.1 hv]; omega⟩, (show 1 ≤ 100000000 by omega), fun _ _ _ => trivial⟩
        have hWr := write_any 3 eA ⟨1, some ⟨wD.heap.size, 0, none⟩, 1, 1, [7], 0⟩ (HO1.out.1.below b2).toH (by decide) cC (by rw [HO1.out.2.1]; exact H1_small)
        rw [HO1.out.2.1, show writeP H1 3 eA (pC ⟨1, some ⟨wD.heap.size, 0, none⟩, 1, 1, [7], 0⟩) = (H2, 0) from write_a] at hWr
        unfold vH vE vC at hWr
        dsimp only [eA, nmA] at hWr
        have HB2 := hid b2
        clear cC 
        refine wpAnyH_ready (rs := [4]) (by kernel_rfl) (by simp) ?_
        refine AllReadyH.cons rfl (fun K hK => ?_) AllReadyH.nil
        go_simp
        refine hWr.mono ?_
        rintro r w5 ⟨v2, rfl, H5⟩
        obtain ⟨I0, Il, IN, o5, e5, b5, q5⟩ := H5.out
        have HO5 := hid (And.intro o5 (And.intro e5 (And.intro b5 q5)))
        clear o5 e5 b5 q5 H5 hWr
        unfold vH
        refine hK.out _ _ trivial (fun hHeld => ?_)
        clear hK K
        refine By.hk 5 ?_
        refine By.hk 6 ?_
        refine By.hk 7 ?_
        have hg5 := ((on HB2.out HO5.out.2.2.1).block p (lt_heap HG1.out)).trans HG1.out
        have HG5 := hid hg5
        have m0 := cell_heap (j := 0) hg5 rfl
        have fm0 := fr_heap hg5 0
        have m1 := cell_heap (j := 1) hg5 rfl
        have fm1 := fr_heap hg5 1
        have m2 := cell_heap (j := 2) hg5 rfl
        have fm2 := fr_heap hg5 2
        have m3 := cell_heap (j := 3) hg5 rfl
        have fm3 := fr_heap hg5 3
        have m4 := cell_heap (j := 4) hg5 rfl
        have fm4 := fr_heap hg5 4
        have m5 := cell_heap (j := 5) hg5 rfl
        have fm5 := fr_heap hg5 5
        have m6 := cell_heap (j := 6) hg5 rfl
        have fm6 := fr_heap hg5 6
        clear hg5
        refine wpAnyH_ready (rs := [8]) (by kernel_rfl) (by simp) ?_
        refine AllReadyH.cons rfl (fun K hK => ?_) AllReadyH.nil
        go_simp
        refine hK.out _ _ trivial (fun hHeld => ?_)
        clear hK K
        refine By.hk 9 ?_
        refine wpAnyH_done (by kernel_rfl) ?_ _
        have e7 : (((((((w5).setCell ⟨p, 0, none⟩ (.int .i64 v2.fe)).setCell ⟨p, 1, none⟩ (.int .i64 v2.now.pl)).setCell ⟨p, 2, none⟩ (.int .i64 v2.now.si)).setCell ⟨p, 3, none⟩ (.slice v2.now.x1 v2.now.n1 v2.now.c1)).setCell ⟨p, 4, none⟩ (.slice v2.now.x2 v2.now.n2 v2.now.c2)).setCell ⟨p, 5, none⟩ (.slice v2.now.x3 v2.now.n3 v2.now.c3)).setCell ⟨p, 6, none⟩ (.slice v2.x v2.n v2.c) = put7 w5 p v2 := rfl
        rw [e7]
        have hg7 := put7_box HG5.out rfl v2
        have t7 := turns_put7 w5 p v2
        have k7 := HO5.out.1.keeps (.turns t7 fun q hq e => by have h1 := (HO5.out.2.2.2 q hq).1; have := HB2.out.size; have := lt_heap HG1.out; omega)
        have bE : Below w.heap.size w (put7 w5 p v2) := by
          have h1 := on HB1.out (on HB2.out HO5.out.2.2.1)
          exact h1.trans (t7.below (fun q e => by have := HPw.out; omega) h1.size)
        have HF := hid (And.intro hg7 (And.intro k7.toH (And.intro HO5.out.2.1 bE)))
        generalize put7 w5 p v2 = w6 at *
        clear e7 hg7 t7 k7 bE m0 m1 m2 m3 m4 m5 m6 fm0 fm1 fm2 fm3 fm4 fm5 fm6
        go_wp2_with fail
        go_meet
        case rel => exact ⟨rfl, v2, HF.out⟩
      · go_simp
        refine (HEn.out _).mono ?_
        rintro r wX ⟨rfl, bX⟩
        have b2 := on b1 bX
        have l2 := (bX.block _ (lt_heap l1)).trans l1
        refine hK.out _ _ trivial (fun hHeld => ?_)
        clear hK K
        obtain ⟨z0, z1, z2, z3, z4, z5, z6⟩ := HK1.out _ b2
        refine wpAnyH_ready (rs := [0]) (by kernel_rfl) (by simp) ?_
        refine AllReadyH.cons rfl (fun K hK => ?_) AllReadyH.nil
        go_simp
        refine hK.out _ _ trivial (fun hHeld => ?_)
        clear hK K
        clear z0 z1 z2 z3 z4 z5 z6
        have cC : CAt wX (fun _ => True) ⟨1, some ⟨wD.heap.size, 0, none⟩, 1, 1, [7], 0⟩ := ⟨⟨rfl, Nat.le_refl _, (fun h => by cases h), .inr ⟨_, _, rfl, lt_heap l2, fun i hi => by have e0 : i = 0 := Nat.lt_one_iff.1 hi; subst e0; exact cell_heap l2 rfl⟩, fun v hv => by rw [List.mem_singleton.1 hv]; omega⟩, (show 1 ≤ 100000000 by omega), fun _ _ _ => trivial⟩
        have hWr := write_any 3 eA ⟨1, some ⟨wD.heap.size, 0, none⟩, 1, 1, [7], 0⟩ (HO1.out.1.below b2).toH (by decide) cC (by rw [HO1.out.2.1]; exact H1_small)
        rw [HO1.out.2.1, show writeP H1 3 eA (pC ⟨1, some ⟨wD.heap.size, 0, none⟩, 1, 1, [7], 0⟩) = (H2, 0) from write_a] at hWr
        unfold vH vE vC at hWr
        dsimp only [eA, nmA] at hWr
        have HB2 := hid b2
        clear cC 
        refine wpAnyH_ready (rs := [4]) (by kernel_rfl) (by simp) ?_
        refine AllReadyH.cons rfl (fun K hK => ?_) AllReadyH.nil
        go_simp
        refine hWr.mono ?_
        rintro r w5 ⟨v2, rfl, H5⟩
        obtain ⟨I0, Il, IN, o5, e5, b5, q5⟩ := H5.out
        have HO5 := hid (And.intro o5 (And.intro e5 (And.intro b5 q5)))
        clear o5 e5 b5 q5 H5 hWr
        unfold vH
        refine hK.out _ _ trivial (fun hHeld => ?_)
        clear hK K
        refine By.hk 5 ?_
        refine By.hk 6 ?_
        refine By.hk 7 ?_
        have hg5 := ((on HB2.out HO5.out.2.2.1).block p (lt_heap HG1.out)).trans HG1.out
        have HG5 := hid hg5
        have m0 := cell_heap (j := 0) hg5 rfl
        have fm0 := fr_heap hg5 0
        have m1 := cell_heap (j := 1) hg5 rfl
        have fm1 := fr_heap hg5 1
        have m2 := cell_heap (j := 2) hg5 rfl
        have fm2 := fr_heap hg5 2
        have m3 := cell_heap (j := 3) hg5 rfl
        have fm3 := fr_heap hg5 3
        have m4 := cell_heap (j := 4) hg5 rfl
        have fm4 := fr_heap hg5 4
        have m5 := cell_heap (j := 5) hg5 rfl
        have fm5 := fr_heap hg5 5
        have m6 := cell_heap (j := 6) hg5 rfl
        have fm6 := fr_heap hg5 6
        clear hg5
        refine wpAnyH_ready (rs := [8]) (by kernel_rfl) (by simp) ?_
        refine AllReadyH.cons rfl (fun K hK => ?_) AllReadyH.nil
        go_simp
        refine hK.out _ _ trivial (fun hHeld => ?_)
        clear hK K
        refine By.hk 9 ?_
        refine wpAnyH_done (by kernel_rfl) ?_ _
        have e7 : (((((((w5).setCell ⟨p, 0, none⟩ (.int .i64 v2.fe)).setCell ⟨p, 1, none⟩ (.int .i64 v2.now.pl)).setCell ⟨p, 2, none⟩ (.int .i64 v2.now.si)).setCell ⟨p, 3, none⟩ (.slice v2.now.x1 v2.now.n1 v2.now.c1)).setCell ⟨p, 4, none⟩ (.slice v2.now.x2 v2.now.n2 v2.now.c2)).setCell ⟨p, 5, none⟩ (.slice v2.now.x3 v2.now.n3 v2.now.c3)).setCell ⟨p, 6, none⟩ (.slice v2.x v2.n v2.c) = put7 w5 p v2 := rfl
        rw [e7]
        have hg7 := put7_box HG5.out rfl v2
        have t7 := turns_put7 w5 p v2
        have k7 := HO5.out.1.keeps (.turns t7 fun q hq e => by have h1 := (HO5.out.2.2.2 q hq).1; have := HB2.out.size; have := lt_heap HG1.out; omega)
        have bE : Below w.heap.size w (put7 w5 p v2) := by
          have h1 := on HB1.out (on HB2.out HO5.out.2.2.1)
          exact h1.trans (t7.below (fun q e => by have := HPw.out; omega) h1.size)
        have HF := hid (And.intro hg7 (And.intro k7.toH (And.intro HO5.out.2.1 bE)))
        generalize put7 w5 p v2 = w6 at *
        clear e7 hg7 t7 k7 bE m0 m1 m2 m3 m4 m5 m6 fm0 fm1 fm2 fm3 fm4 fm5 fm6
        go_wp2_with fail
        go_meet
        case rel => exact ⟨rfl, v2, HF.out⟩
  case rest =>
    obtain ⟨rfl, v2, HF⟩ := hcut
    have hsi : v2.now.si = 3 := congrArg (fun H => H.now.si) HF.out.2.2.1
    have hn2 : v2.now.n2 = 1 := by rw [← HF.out.2.1.s.e.len]; exact congrArg (fun H => H.now.log.length) HF.out.2.2.1
    have hits : v2.now.I.map pI = (doE (sA 3) eA cA).its := congrArg (fun H => H.now.its) HF.out.2.2.1
    have hget := get_any nmA HF.out.2.1.s
    rw [hits, find_a] at hget
    have HS2 : Hid (∀ W, Below wc.heap.size wc W → Calls Try.prog 30 #[.agg #[.int .i64 v2.fe, .int .i64 v2.now.pl, .int .i64 v2.now.si, .slice v2.now.x1 v2.now.n1 v2.now.c1, .slice v2.now.x2 v2.now.n2 v2.now.c2, .slice v2.now.x3 v2.now.n3 v2.now.c3, .slice v2.x v2.n v2.c], .agg #[.int .i64 0, .int .i64 2, .slice none 0 0, .slice none 0 0, .slice none 0 0]] W fun r w' => ∃ v' : HV, r = .returned (.tuple #[.agg #[.int .i64 v'.fe, .int .i64 v'.now.pl, .int .i64 v'.now.si, .slice v'.now.x1 v'.now.n1 v'.now.c1, .slice v'.now.x2 v'.now.n2 v'.now.c2, .slice v'.now.x3 v'.now.n3 v'.now.c3, .slice v'.x v'.n v'.c], .int .i64 7]) ∧ Hid (Below W.heap.size W w')) := hid fun W hW => by
      have := stage_any (w := W) (v := v2) (s := ⟨0, 2, none, 0, 0, [], none, 0, 0, [], none, 0, 0, []⟩) (HF.out.2.1.below hW) (G := fun _ => True) ⟨Lis.empty W _, Lis.empty W _, Lis.empty W _⟩
      rw [HF.out.2.2.1, show stageP H2 (pS ⟨0, 2, none, 0, 0, [], none, 0, 0, [], none, 0, 0, []⟩) = (H2, 7) from stage_b] at this
      exact this.mono fun r w' ⟨v', h1, h2⟩ => ⟨v', h1, hid (by obtain ⟨_, _, _, _, _, b, _⟩ := h2.out; exact b)⟩
    have HHd := hid (fun W => head_any v2.now W)
    have HKk : Hid (∀ W, Below wc.heap.size wc W → W.cell? ⟨p, 0, none⟩ = some (.int .i64 v2.fe) ∧ W.cell? ⟨p, 1, none⟩ = some (.int .i64 v2.now.pl) ∧ W.cell? ⟨p, 2, none⟩ = some (.int .i64 v2.now.si) ∧ W.cell? ⟨p, 3, none⟩ = some (.slice v2.now.x1 v2.now.n1 v2.now.c1) ∧ W.cell? ⟨p, 4, none⟩ = some (.slice v2.now.x2 v2.now.n2 v2.now.c2) ∧ W.cell? ⟨p, 5, none⟩ = some (.slice v2.now.x3 v2.now.n3 v2.now.c3) ∧ W.cell? ⟨p, 6, none⟩ = some (.slice v2.x v2.n v2.c)) := hid fun W hW => hcells ((hW.block p (lt_heap HF.out.1)).trans HF.out.1)
    unfold vS at hget HHd
    rw [hsi, hn2] at HHd hget
    rw [hsi, hn2] at HKk HS2
    obtain ⟨k0, k1, k2, k3, k4, k5, k6⟩ := HKk.out wc (Below.refl _ _)
    clear hits hsi hn2
    dsimp only [nmA] at hget
    go_upto_region 6 with (go_at_call 11; refine hget.mono ?_; rintro r w7 ⟨c7, rfl, H7⟩; unfold vC; clear hget k0 k1 k2 k3 k4 k5 k6)
    have hcn : c7.n = 1 := by rw [← H7.out.1.s.len]; exact congrArg (fun c => c.dat.length) H7.out.2.1
    obtain ⟨g, hgg⟩ : ∃ g, g = w7.heap.size := ⟨_, rfl⟩
    obtain ⟨w8, hw8⟩ : ∃ w8, w8 = w7.alloc (.cells #[.int .i64 c7.sz, .slice c7.x c7.n c7.c, .int .u32 c7.sum] 36) := ⟨_, rfl⟩
    have b8 : Below w7.heap.size w7 w8 := by rw [hw8]; exact al _ _
    have hgc : w8.heap[w7.heap.size]? = some (.cells #[.int .i64 c7.sz, .slice c7.x c7.n c7.c, .int .u32 c7.sum] 36 (0, 0)) := by rw [hw8]; exact heap_alloc_new _ _
    rw [← hw8, ← hgg]
    rw [← hgg] at hgc
    have HB8 := hid (on H7.out.2.2 b8)
    have HGc := hid hgc
    rw [hcn] at HGc
    obtain ⟨k0, k1, k2, k3, k4, k5, k6⟩ := HKk.out w8 HB8.out
    clear hgg hw8 b8 hgc hcn H7
    go_upto_region 7 with (go_at_call 30; refine (HS2.out _ HB8.out).mono ?_; rintro r w9 ⟨v9, rfl, H9⟩; clear k0 k1 k2 k3 k4 k5 k6)
    obtain ⟨wE, hwE⟩ : ∃ wE, wE = w9.alloc (.cells #[.int .i64 v9.fe, .int .i64 v9.now.pl, .int .i64 v9.now.si, .slice v9.now.x1 v9.now.n1 v9.now.c1, .slice v9.now.x2 v9.now.n2 v9.now.c2, .slice v9.now.x3 v9.now.n3 v9.now.c3, .slice v9.x v9.n v9.c] 29) := ⟨_, rfl⟩
    have bE : Below w8.heap.size w8 wE := by rw [hwE]; exact on H9.out (al _ _)
    rw [← hwE]
    have HBE := hid bE
    obtain ⟨k0, k1, k2, k3, k4, k5, k6⟩ := HKk.out wE (on HB8.out bE)
    have c1 : wE.cell? ⟨g, 1, none⟩ = some (.slice c7.x 1 c7.c) := keep bE (cell_heap HGc.out rfl)
    clear hwE bE H9
    go_wp2_with (go_at_call 23; refine (HHd.out _).mono ?_; rintro r wH ⟨rfl, bH⟩)
    go_ret
    exact ⟨by simp, on HF.out.2.2.2 (on HB8.out (on HBE.out bH))⟩

end Go.Proofs.Ytnfflmndejbepaa.Sh
