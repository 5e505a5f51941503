/-
  Commit.
  Conditions: the holder lies in memory, no list is too long.
-/
import Derived.Test.YtnfflmndejbepaaJShDelF
import Derived.Test.YtnfflmndejbepaaJShStgP
namespace Go.Proofs.Ytnfflmndejbepaa.Sh
set_option linter.unusedSectionVars false
variable [Inhabited DZ]
open Go.RowKit By Fl
set_option linter.unusedVariables false
set_option linter.unusedSimpArgs false
set_option maxRecDepth 100000

set_option maxHeartbeats 12800000 in
theorem commit_any {w : World} {F : Nat → Prop} {v : HV} (since head : Int) (h : HAt w F v) :
    Calls Try.prog 37 #[vH v, .int .i64 since, .int .i64 head] w fun r w' => Tells w (commitP (pH v) since head).1 (commitP (pH v) since head).2 r w' := by
  obtain ⟨w1, hw1, bb, hsz, g0, g1, g2⟩ := three_boxes w #[.int .i64 v.fe, .int .i64 v.now.pl, .int .i64 v.now.si, .slice v.now.x1 v.now.n1 v.now.c1, .slice v.now.x2 v.now.n2 v.now.c2, .slice v.now.x3 v.now.n3 v.now.c3, .slice v.x v.n v.c] #[.int .i64 head] #[.int .i64 0, .int .i64 0, .int .i64 0, .slice none 0 0, .slice none 0 0, .slice none 0 0, .slice none 0 0] 29 3 29
  have hC1 := activate_any since (h.below bb)
  have HCp := hid (fun W (hW : Below w1.heap.size w1 W) => copied_any (h.below (on bb hW)))
  have hW1 : (actP (pH v) since).2 ≠ 0 → commitP (pH v) since head = actP (pH v) since := fun q => by unfold commitP; rw [if_pos q]
  have hW2 : (actP (pH v) since).2 = 0 → ∀ A, A = (actP (pH v) since).1 → commitP (pH v) since head = if decide ((0 : Int) ≤ head ∧ head ≤ (A.now.log.length : Int)) then (⟨A.fe, commitU head A.now, A.nx⟩, 0) else (pH v, 1) := fun q A hA => by
    subst hA
    unfold commitP
    rw [if_neg (by simp [q])]
  have HW1 := hid hW1
  have HW2 := hid hW2
  generalize commitP (pH v) since head = PP at *
  generalize hAA : actP (pH v) since = AA at *
  have HB := hid bb
  have HSz := hid hsz
  have HKi : Hid (∀ W, Below w1.heap.size w1 W → W.cell? ⟨w.heap.size + 1, 0, none⟩ = some (.int .i64 head)) := hid fun W hW => keep hW (cell_heap g1 rfl)
  have HKa : Hid (∀ W, Below w1.heap.size w1 W → W.cell? ⟨w.heap.size, 0, none⟩ = some (.int .i64 v.fe) ∧ W.cell? ⟨w.heap.size, 1, none⟩ = some (.int .i64 v.now.pl) ∧ W.cell? ⟨w.heap.size, 2, none⟩ = some (.int .i64 v.now.si) ∧ W.cell? ⟨w.heap.size, 3, none⟩ = some (.slice v.now.x1 v.now.n1 v.now.c1) ∧ W.cell? ⟨w.heap.size, 4, none⟩ = some (.slice v.now.x2 v.now.n2 v.now.c2) ∧ W.cell? ⟨w.heap.size, 5, none⟩ = some (.slice v.now.x3 v.now.n3 v.now.c3) ∧ W.cell? ⟨w.heap.size, 6, none⟩ = some (.slice v.x v.n v.c)) := hid fun W hW => ⟨keep hW (cell_heap g0 rfl), keep hW (cell_heap g0 rfl), keep hW (cell_heap g0 rfl), keep hW (cell_heap g0 rfl), keep hW (cell_heap g0 rfl), keep hW (cell_heap g0 rfl), keep hW (cell_heap g0 rfl)⟩
  have HKr : Hid (∀ W, Below w1.heap.size w1 W → W.heap[w.heap.size + 2]? = some (.cells #[.int .i64 0, .int .i64 0, .int .i64 0, .slice none 0 0, .slice none 0 0, .slice none 0 0, .slice none 0 0] 29 (0, 0))) := hid fun W hW => (hW.block _ (by omega)).trans g2
  have HKj : Hid (∀ W, Below w1.heap.size w1 W → W.heap[w.heap.size + 1]? = some (.cells #[.int .i64 head] 3 (0, 0))) := hid fun W hW => (hW.block _ (by omega)).trans g1
  clear h bb hsz g0 g1 g2 hW1 hW2
  unfold Tells at hC1
  unfold vH at hC1 HCp ⊢
  have HW := hid hw1
  obtain ⟨a0, a1, a2, a3, a4, a5, a6⟩ := HKa.out w1 (Below.refl _ _)
  rw [hw1] at hC1 a0 a1 a2 a3 a4 a5 a6
  clear hw1 hAA
  go_enter Try.func37, Try.ntmps37
  go_upto_region 2 with (go_at_call 33; refine hC1.mono ?_; rintro r wa ⟨u, rfl, H1⟩; clear hC1)
  obtain ⟨G0, Gl, GN, o1, e1, b1, q1⟩ := H1.out
  rw [← HW.out] at b1 q1
  obtain ⟨p, hp⟩ : ∃ p, p = wa.heap.size := ⟨_, rfl⟩
  obtain ⟨w2, hw2⟩ : ∃ w2, w2 = wa.alloc (.cells #[.int .i64 u.fe, .int .i64 u.now.pl, .int .i64 u.now.si, .slice u.now.x1 u.now.n1 u.now.c1, .slice u.now.x2 u.now.n2 u.now.c2, .slice u.now.x3 u.now.n3 u.now.c3, .slice u.x u.n u.c] 29) := ⟨_, rfl⟩
  have b2 : Below wa.heap.size wa w2 := by rw [hw2]; exact al _ _
  have hg : w2.heap[wa.heap.size]? = some (.cells (HCells u) 29 (0, 0)) := by rw [hw2]; exact heap_alloc_new _ _
  have hs2 : w2.heap.size = wa.heap.size + 1 := by rw [hw2]; simp
  rw [← hw2, ← hp]
  rw [← hp] at hg hs2
  have b12 := on b1 b2
  have HO := hid (o1.below b2)
  have HE1 := hid e1
  have HB2 := hid b12
  have HQ := hid (fun q hq => (⟨(q1 q hq).1, by have := (q1 q hq).2; omega⟩ : w1.heap.size ≤ q ∧ q < p))
  have HPz := hid (And.intro hs2 (show w1.heap.size ≤ p by rw [hp]; exact b1.size))
  have HGp := hid hg
  have HKp : Hid (∀ W, Below w2.heap.size w2 W → W.cell? ⟨p, 0, none⟩ = some (.int .i64 u.fe) ∧ W.cell? ⟨p, 1, none⟩ = some (.int .i64 u.now.pl) ∧ W.cell? ⟨p, 2, none⟩ = some (.int .i64 u.now.si) ∧ W.cell? ⟨p, 3, none⟩ = some (.slice u.now.x1 u.now.n1 u.now.c1) ∧ W.cell? ⟨p, 4, none⟩ = some (.slice u.now.x2 u.now.n2 u.now.c2) ∧ W.cell? ⟨p, 5, none⟩ = some (.slice u.now.x3 u.now.n3 u.now.c3) ∧ W.cell? ⟨p, 6, none⟩ = some (.slice u.x u.n u.c)) := hid fun W hW => ⟨keep hW (cell_heap hg rfl), keep hW (cell_heap hg rfl), keep hW (cell_heap hg rfl), keep hW (cell_heap hg rfl), keep hW (cell_heap hg rfl), keep hW (cell_heap hg rfl), keep hW (cell_heap hg rfl)⟩
  clear H1 o1 e1 b1 q1 hp hw2 b2 hg hs2 b12 a0 a1 a2 a3 a4 a5 a6
  have fin : ∀ (wc W : World) (z : Int), Below w2.heap.size w2 wc → Turns (fun k => k = w.heap.size + 2) wc W → PP = (pH u, z) → Tells w PP.1 PP.2 (.returned (.tuple #[vH u, .int .i64 z])) W := fun wc W z hb t hpp => by
    rw [hpp]
    exact own_end (r := w.heap.size + 2) HB.out ⟨by omega, by have := HSz.out; omega⟩ (on HB2.out hb) (HO.out.below hb) rfl (fun q hq => ⟨(HQ.out q hq).1, by have := (HQ.out q hq).2; have := HPz.out.1; have := hb.size; omega⟩) t
  have HFin := hid fin
  clear fin
  generalize hzz : AA.2 = z at *
  by_cases hz0 : z = 0
  rotate_left
  · have HPP := hid (HW1.out hz0)
    have hbz : (z != 0) = true := by simp [hz0]
    have HZ := hid hzz
    obtain ⟨k0, k1, k2, k3, k4, k5, k6⟩ := HKp.out w2 (Below.refl _ _)
    have gr := HKr.out w2 HB2.out
    have b0 := cell_heap gr (j := 0) rfl
    have fb0 := fr_heap gr 0
    have b1 := cell_heap gr (j := 1) rfl
    have fb1 := fr_heap gr 1
    have b2 := cell_heap gr (j := 2) rfl
    have fb2 := fr_heap gr 2
    have b3 := cell_heap gr (j := 3) rfl
    have fb3 := fr_heap gr 3
    have b4 := cell_heap gr (j := 4) rfl
    have fb4 := fr_heap gr 4
    have b5 := cell_heap gr (j := 5) rfl
    have fb5 := fr_heap gr 5
    have b6 := cell_heap gr (j := 6) rfl
    have fb6 := fr_heap gr 6
    clear hz0 hzz gr
    go_wp2_with fail
    refine bodyPost_ret (v := .tuple #[vH u, .int .i64 z]) ?_ rfl ?_
    · rw [results_cell2 rfl]
      unfold vH
      go_simp
    · refine HFin.out w2 _ z (Below.refl _ _) ?_ (by rw [HPP.out, ← HZ.out, HE1.out])
      repeat (first | with_reducible exact Turns.refl _ _ | with_reducible refine turns_put ?_ _ _)
  subst hz0
  obtain ⟨n, hn⟩ : ∃ n, n = u.now.n2 := ⟨_, rfl⟩
  have hnl : u.now.E.length = n := by rw [hn]; exact HO.out.now.toS.e.len
  have hnm : n ≤ 100000000 := by rw [hn]; exact HO.out.now.toS.e.small
  obtain ⟨tW, htW⟩ : ∃ t, t = decide ((0 : Int) ≤ head ∧ head ≤ (n : Int)) := ⟨_, rfl⟩
  have hq2 := HW2.out rfl (pH u) HE1.out
  have HQ2 : Hid (PP = if tW then (⟨u.fe, commitU head (pS u.now), u.N.map pS⟩, 0) else (pH v, 1)) := hid (by
    rw [hq2, htW, ← hnl]
    rfl)
  have HWi : Hid (∀ W, Calls Try.prog 42 #[.int .i64 head, .int .i64 0, .int .i64 (n : Int)] W fun e w' => e = .returned (.bool tW) ∧ w' = W) := hid fun W => by
    rw [htW]
    exact within_any head 0 n W
  have HHd := hid (fun W => head_any u.now W)
  unfold vS at HHd
  rw [← hn] at HHd HKp
  have HN := hid (And.intro hn hnl)
  clear HW1 HW2 hq2 htW hzz hnl hn
  obtain ⟨k0, k1, k2, k3, k4, k5, k6⟩ := HKp.out w2 (Below.refl _ _)
  go_upto_region 4 with (fail)
  have bD : Below w2.heap.size w2 w2.drew := (Below.refl _ _).drew
  have S1 := (⟨HKi.out _ (on HB2.out bD), (HKp.out _ bD).2.1, (HKp.out _ bD).2.2.1, (HKp.out _ bD).2.2.2.1, (HKp.out _ bD).2.2.2.2.1, (HKp.out _ bD).2.2.2.2.2.1⟩ : w2.drew.cell? ⟨w.heap.size + 1, 0, none⟩ = some (.int .i64 head) ∧ w2.drew.cell? ⟨p, 1, none⟩ = some (.int .i64 u.now.pl) ∧ w2.drew.cell? ⟨p, 2, none⟩ = some (.int .i64 u.now.si) ∧ w2.drew.cell? ⟨p, 3, none⟩ = some (.slice u.now.x1 u.now.n1 u.now.c1) ∧ w2.drew.cell? ⟨p, 4, none⟩ = some (.slice u.now.x2 n u.now.c2) ∧ w2.drew.cell? ⟨p, 5, none⟩ = some (.slice u.now.x3 u.now.n3 u.now.c3))
  refine wp_region_tail (fun W => W.cell? ⟨w.heap.size + 1, 0, none⟩ = some (.int .i64 head) ∧ W.cell? ⟨p, 1, none⟩ = some (.int .i64 u.now.pl) ∧ W.cell? ⟨p, 2, none⟩ = some (.int .i64 u.now.si) ∧ W.cell? ⟨p, 3, none⟩ = some (.slice u.now.x1 u.now.n1 u.now.c1) ∧ W.cell? ⟨p, 4, none⟩ = some (.slice u.now.x2 n u.now.c2) ∧ W.cell? ⟨p, 5, none⟩ = some (.slice u.now.x3 u.now.n3 u.now.c3)) [] (by kernel_rfl) S1 (fun hS => ?_)
  have HBD := hid bD
  clear S1 bD k0 k1 k2 k3 k4 k5 k6
  generalize w2.drew = wD at *
  refine By.tk 0 ?_
  refine By.tk 1 ?_
  refine By.tk 2 ?_
  refine wpAnyT_one (i := 3) (by kernel_rfl) rfl (fun K hK => ?_)
  go_simp
  refine (HHd.out wD).mono ?_
  rintro r w3 ⟨rfl, b3⟩
  have HBW := hid (on HBD.out b3)
  have S2 := (⟨HKi.out _ (on HB2.out HBW.out), (HKp.out _ HBW.out).2.1, (HKp.out _ HBW.out).2.2.1, (HKp.out _ HBW.out).2.2.2.1, (HKp.out _ HBW.out).2.2.2.2.1, (HKp.out _ HBW.out).2.2.2.2.2.1⟩ : w3.cell? ⟨w.heap.size + 1, 0, none⟩ = some (.int .i64 head) ∧ w3.cell? ⟨p, 1, none⟩ = some (.int .i64 u.now.pl) ∧ w3.cell? ⟨p, 2, none⟩ = some (.int .i64 u.now.si) ∧ w3.cell? ⟨p, 3, none⟩ = some (.slice u.now.x1 u.now.n1 u.now.c1) ∧ w3.cell? ⟨p, 4, none⟩ = some (.slice u.now.x2 n u.now.c2) ∧ w3.cell? ⟨p, 5, none⟩ = some (.slice u.now.x3 u.now.n3 u.now.c3))
  clear hS b3
  refine hK.out _ _ (fun _ => S2) ?_
  clear hK K
  refine wpAnyT_one (i := 4) (by kernel_rfl) rfl (fun K hK => ?_)
  go_simp
  refine (HWi.out w3).mono ?_
  rintro r w4 ⟨rfl, hw4⟩
  subst w4
  refine hK.out _ _ (fun _ => S2) ?_
  clear hK K
  refine By.tk 5 ?_
  refine wpAnyT_done (by kernel_rfl) ?_ _
  clear S2
  cases tW with
  | false =>
    obtain ⟨a0, a1, a2, a3, a4, a5, a6⟩ := HKa.out w3 (on HB2.out HBW.out)
    go_wp2_with (go_at_call 56; refine (HCp.out _ (on HB2.out HBW.out)).mono ?_; rintro r wd ⟨t, rfl, H5⟩; have gr := HKr.out wd (on (on HB2.out HBW.out) (by obtain ⟨_, _, _, _, _, bq, _⟩ := H5.out; exact bq)); have b0 := cell_heap gr (j := 0) rfl; have fb0 := fr_heap gr 0; have b1 := cell_heap gr (j := 1) rfl; have fb1 := fr_heap gr 1; have b2 := cell_heap gr (j := 2) rfl; have fb2 := fr_heap gr 2; have b3 := cell_heap gr (j := 3) rfl; have fb3 := fr_heap gr 3; have b4 := cell_heap gr (j := 4) rfl; have fb4 := fr_heap gr 4; have b5 := cell_heap gr (j := 5) rfl; have fb5 := fr_heap gr 5; have b6 := cell_heap gr (j := 6) rfl; have fb6 := fr_heap gr 6; clear gr)
    obtain ⟨I0, Il, IN, o5, e5, b5, q5⟩ := H5.out
    refine bodyPost_ret (v := .tuple #[vH t, .int .i64 1]) ?_ rfl ?_
    · rw [results_cell2 rfl]
      unfold vH
      go_simp
    · rw [HQ2.out]
      refine own_end (r := w.heap.size + 2) HB.out ⟨by omega, by have := HSz.out; omega⟩ (on (on HB2.out HBW.out) b5) o5 e5 (fun q hq => ⟨by have := (q5 q hq).1; have := (on HB2.out HBW.out).size; omega, (q5 q hq).2⟩) ?_
      repeat (first | with_reducible exact Turns.refl _ _ | with_reducible refine turns_put ?_ _ _)
  | true =>
    have hDf := deletefU_any head (HO.out.now.ou.below HBW.out) (HKj.out w3 (on HB2.out HBW.out)) rfl (by decide) HO.out.now.toS.u.len HO.out.now.toS.u.small
    obtain ⟨k0, k1, k2, k3, k4, k5, k6⟩ := HKp.out w3 HBW.out
    go_upto_region 6 with (fail)
    have HBw := HBW
    have hg3 := (HBW.out.block p (lt_heap HGp.out)).trans HGp.out
    have hr3 := HKr.out w3 (on HB2.out HBW.out)
    have HG3 := hid (And.intro hg3 hr3)
    clear hg3 hr3 k0 k1 k2 k3 k4 k6
    go_upto_region 7 with (go_at_call 62; refine hDf.mono ?_; rintro r w5 ⟨q, rfl, H5⟩; clear hDf k5; have hg5 := (H5.out.2.2.block p (lt_heap HG3.out.1) (fun e => box_ne (HO.out.now.ou.below HBW.out) HG3.out.1 (by decide) e rfl)).trans HG3.out.1; have HG5 := hid hg5; have m5 := (hcells hg5).2.2.2.2.2.1; have fm5 := fr_heap hg5 5; clear hg5)
    have hg6 := heap_set HG5.out (j := 5) (.slice u.now.x3 q u.now.c3)
    have t6 := turns_put (j := 5) (Turns.refl (fun k => k = p) w5) (.slice u.now.x3 q u.now.c3)
    have hT := undo_less (head := head) HG3.out.1 (show BoxS (HCells u) 1 u.now from ⟨rfl, rfl, rfl, rfl, rfl⟩) ⟨by decide, by decide, by decide, by decide⟩ (HO.out.now.below HBW.out) H5.out t6 hg6
    obtain ⟨t, o9, p9, t9, k0, k1, k2, k3, k4, k5, k6⟩ := OwH.done (HO.out.below HBW.out) (fun k hk => ⟨by have := (HQ.out k hk).2; have := HPz.out.1; have := HBW.out.size; omega, by have := (HQ.out k hk).2; omega⟩) hT
    generalize w5.setCell ⟨p, 5, none⟩ (.slice u.now.x3 q u.now.c3) = w9 at *
    have gr := (t9.block _ (lt_heap HG3.out.2) (fun hk => by
      rcases hk with hk | hk
      · have := HPz.out.2; have := HSz.out; omega
      · have := (HQ.out _ (.inl hk)).1; have := HSz.out; omega)).trans HG3.out.2
    have b0 := cell_heap gr (j := 0) rfl
    have fb0 := fr_heap gr 0
    have b1 := cell_heap gr (j := 1) rfl
    have fb1 := fr_heap gr 1
    have b2 := cell_heap gr (j := 2) rfl
    have fb2 := fr_heap gr 2
    have b3 := cell_heap gr (j := 3) rfl
    have fb3 := fr_heap gr 3
    have b4 := cell_heap gr (j := 4) rfl
    have fb4 := fr_heap gr 4
    have b5 := cell_heap gr (j := 5) rfl
    have fb5 := fr_heap gr 5
    have b6 := cell_heap gr (j := 6) rfl
    have fb6 := fr_heap gr 6
    have H10 := hid (And.intro o9 (And.intro p9 t9))
    clear gr o9 p9 t9 hg6 t6 hT m5 fm5
    go_wp2_with fail
    refine bodyPost_ret (v := .tuple #[vH ⟨u.fe, t, u.x, u.n, u.c, u.N⟩, .int .i64 0]) ?_ rfl ?_
    · rw [results_cell2 rfl]
      unfold vH
      go_simp
    · rw [HQ2.out]
      have b19 : Below w1.heap.size w1 w9 := (on HB2.out HBW.out).trans (H10.out.2.2.below (fun k hk => by
        rcases hk with hk | hk
        · have := HPz.out.2; omega
        · exact (HQ.out k (.inl hk)).1) (on HB2.out HBW.out).size)
      refine own_end (r := w.heap.size + 2) HB.out ⟨by omega, by have := HSz.out; omega⟩ b19 H10.out.1 ?_ (fun k hk => ?_) ?_
      · show (⟨u.fe, pS t, u.N.map pS⟩ : Hld) = _
        rw [H10.out.2.1]
        rfl
      · have s2 := HB2.out.size
        have s3 := HBW.out.size
        have s9 := H10.out.2.2.size
        have sz := HPz.out.1
        rcases hk with (hk | hk) | hk
        · have := HQ.out k (.inl hk); exact ⟨this.1, by omega⟩
        · exact ⟨by have := hk.1; omega, hk.2⟩
        · have := HQ.out k (.inr hk); exact ⟨this.1, by omega⟩
      · repeat (first | with_reducible exact Turns.refl _ _ | with_reducible refine turns_put ?_ _ _)

end Go.Proofs.Ytnfflmndejbepaa.Sh
