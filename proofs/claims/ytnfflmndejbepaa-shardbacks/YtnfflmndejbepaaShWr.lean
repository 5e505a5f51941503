/-
  Write.
  Conditions: the holder and what is written lie in memory, no list is too long.
-/
import Derived.Test.YtnfflmndejbepaaJShWrP
namespace Go.Proofs.Ytnfflmndejbepaa.Sh
set_option linter.unusedSectionVars false
variable [Inhabited DZ]
open Go.RowKit By Fl
set_option linter.unusedVariables false
set_option linter.unusedSimpArgs false
set_option maxRecDepth 100000

theorem four_boxes (w : World) (A B C D : Array Value) (t1 t2 t3 t4 : TypeId) : ∃ w1, w1 = (((w.alloc (.cells A t1)).alloc (.cells B t2)).alloc (.cells C t3)).alloc (.cells D t4) ∧ Below w.heap.size w w1 ∧ w1.heap.size = w.heap.size + 4 ∧
    w1.heap[w.heap.size]? = some (.cells A t1 (0, 0)) ∧ w1.heap[w.heap.size + 1]? = some (.cells B t2 (0, 0)) ∧ w1.heap[w.heap.size + 2]? = some (.cells C t3 (0, 0)) ∧ w1.heap[w.heap.size + 3]? = some (.cells D t4 (0, 0)) := by
  obtain ⟨b1, s1, h0, h1⟩ := two_boxes2 w A B t1 t2
  obtain ⟨b2, s2, h2, h3⟩ := two_boxes2 ((w.alloc (.cells A t1)).alloc (.cells B t2)) C D t3 t4
  refine ⟨_, rfl, on b1 b2, by omega, (b2.block _ (by omega)).trans h0, (b2.block _ (by omega)).trans h1, ?_, ?_⟩
  · rw [s1] at h2; exact h2
  · rw [s1] at h3; exact h3

set_option maxHeartbeats 12800000 in
theorem write_any {w : World} {F G : Nat → Prop} {v : HV} (since : Int) (e : Ent) (c : CV) (h : HAt w F v) (he : e.nm.size ≤ 1048576) (hc : CAt w G c) (hsm : Small (pH v)) :
    Calls Try.prog 35 #[vH v, .int .i64 since, vE e, vC c] w fun r w' => Tells w (writeP (pH v) since e (pC c)).1 (writeP (pH v) since e (pC c)).2 r w' := by
  obtain ⟨w1, hw1, bb, hsz, g0, g1, g2, g3⟩ := four_boxes w #[.int .i64 v.fe, .int .i64 v.now.pl, .int .i64 v.now.si, .slice v.now.x1 v.now.n1 v.now.c1, .slice v.now.x2 v.now.n2 v.now.c2, .slice v.now.x3 v.now.n3 v.now.c3, .slice v.x v.n v.c] #[.int .i64 e.seq, .int .i64 e.cl, .int .i64 e.ks, .string e.nm, .int .i64 e.code, .bool e.gone, .int .i64 e.sz] #[.int .i64 c.sz, .slice c.x c.n c.c, .int .u32 c.sum] #[.int .i64 0, .int .i64 0, .int .i64 0, .slice none 0 0, .slice none 0 0, .slice none 0 0, .slice none 0 0] 29 67 36 29
  have hC1 := activate_any since (h.below bb)
  have HCp := hid (fun W (hW : Below w1.heap.size w1 W) => copied_any (h.below (on bb hW)))
  have HEm := hid (fun W => entrymay_any (w := W) (F := F) (e := e) he)
  have HCm := hid (fun W (hW : Below w1.heap.size w1 W) => chunkmay_any (CAt.below hc (on bb hW)))
  have HCl := hid (CAt.lt hc)
  have HNm := hid he
  obtain ⟨tE, htE⟩ : ∃ t, t = bz (okE e) := ⟨_, rfl⟩
  obtain ⟨tC, htC⟩ : ∃ t, t = bz (okC (pC c)) := ⟨_, rfl⟩
  rw [← htE] at HEm
  rw [← htC] at HCm
  have HTE := hid htE
  have hay := act_yes (H := pH v) (since := since)
  have has := fun q => act_small (H := pH v) (since := since) q hsm
  have hW1 : (actP (pH v) since).2 ≠ 0 → writeP (pH v) since e (pC c) = actP (pH v) since := fun q => by unfold writeP; rw [if_pos q]
  have hW2 : (actP (pH v) since).2 = 0 → (tE && tC) = false → writeP (pH v) since e (pC c) = (pH v, 1) := fun q k => by unfold writeP; rw [if_neg (by simp [q]), ← htE, ← htC, k]; rfl
  have hW3 : (actP (pH v) since).2 = 0 → tE = true → tC = true → ∀ A n, A = (actP (pH v) since).1 → n = A.now.log.length → ((n : Int) + 1 < e.seq → writeP (pH v) since e (pC c) = (A, 9)) ∧ (e.seq = (n : Int) + 1 → writeP (pH v) since e (pC c) = (⟨A.fe, doE A.now e (pC c), A.nx⟩, 0)) ∧
      (e.seq < (n : Int) + 1 → A.now.log[(e.seq - 1).toNat]? = some e → writeP (pH v) since e (pC c) = (A, 0)) ∧ (e.seq < (n : Int) + 1 → ¬ A.now.log[(e.seq - 1).toNat]? = some e → writeP (pH v) since e (pC c) = (A, 8)) := fun q k1 k2 A n hA hn => by
    subst hA
    subst hn
    unfold writeP
    rw [if_neg (by simp [q]), ← htE, ← htC, k1, k2]
    simp only [Bool.and_self, if_true]
    refine ⟨fun a => by rw [if_pos a], fun a => by rw [if_neg (by omega), if_pos a], fun a b => by rw [if_neg (by omega), if_neg (by omega), bz_true b]; rfl, fun a b => by rw [if_neg (by omega), if_neg (by omega), bz_false b]; rfl⟩
  have HW1 := hid hW1
  have HW2 := hid hW2
  have HW3 := hid hW3
  have HAy := hid hay
  have HAs := hid has
  generalize writeP (pH v) since e (pC c) = PP at *
  generalize hAA : actP (pH v) since = AA at *
  have HB := hid bb
  have HSz := hid hsz
  have HG3 := hid g3
  have HKe : Hid (∀ W, Below w1.heap.size w1 W → W.cell? ⟨w.heap.size + 1, 0, none⟩ = some (.int .i64 e.seq) ∧ W.cell? ⟨w.heap.size + 1, 1, none⟩ = some (.int .i64 e.cl) ∧ W.cell? ⟨w.heap.size + 1, 2, none⟩ = some (.int .i64 e.ks) ∧ W.cell? ⟨w.heap.size + 1, 3, none⟩ = some (.string e.nm) ∧ W.cell? ⟨w.heap.size + 1, 4, none⟩ = some (.int .i64 e.code) ∧ W.cell? ⟨w.heap.size + 1, 5, none⟩ = some (.bool e.gone) ∧ W.cell? ⟨w.heap.size + 1, 6, none⟩ = some (.int .i64 e.sz)) := hid fun W hW => ⟨keep hW (cell_heap g1 rfl), keep hW (cell_heap g1 rfl), keep hW (cell_heap g1 rfl), keep hW (cell_heap g1 rfl), keep hW (cell_heap g1 rfl), keep hW (cell_heap g1 rfl), keep hW (cell_heap g1 rfl)⟩
  have HKc : Hid (∀ W, Below w1.heap.size w1 W → W.cell? ⟨w.heap.size + 2, 0, none⟩ = some (.int .i64 c.sz) ∧ W.cell? ⟨w.heap.size + 2, 1, none⟩ = some (.slice c.x c.n c.c) ∧ W.cell? ⟨w.heap.size + 2, 2, none⟩ = some (.int .u32 c.sum)) := hid fun W hW => ⟨keep hW (cell_heap g2 rfl), keep hW (cell_heap g2 rfl), keep hW (cell_heap g2 rfl)⟩
  have HKa : Hid (∀ W, Below w1.heap.size w1 W → W.cell? ⟨w.heap.size, 0, none⟩ = some (.int .i64 v.fe) ∧ W.cell? ⟨w.heap.size, 1, none⟩ = some (.int .i64 v.now.pl) ∧ W.cell? ⟨w.heap.size, 2, none⟩ = some (.int .i64 v.now.si) ∧ W.cell? ⟨w.heap.size, 3, none⟩ = some (.slice v.now.x1 v.now.n1 v.now.c1) ∧ W.cell? ⟨w.heap.size, 4, none⟩ = some (.slice v.now.x2 v.now.n2 v.now.c2) ∧ W.cell? ⟨w.heap.size, 5, none⟩ = some (.slice v.now.x3 v.now.n3 v.now.c3) ∧ W.cell? ⟨w.heap.size, 6, none⟩ = some (.slice v.x v.n v.c)) := hid fun W hW => ⟨keep hW (cell_heap g0 rfl), keep hW (cell_heap g0 rfl), keep hW (cell_heap g0 rfl), keep hW (cell_heap g0 rfl), keep hW (cell_heap g0 rfl), keep hW (cell_heap g0 rfl), keep hW (cell_heap g0 rfl)⟩
  have HKr : Hid (∀ W, Below w1.heap.size w1 W → W.heap[w.heap.size + 3]? = some (.cells #[.int .i64 0, .int .i64 0, .int .i64 0, .slice none 0 0, .slice none 0 0, .slice none 0 0, .slice none 0 0] 29 (0, 0))) := hid fun W hW => (hW.block _ (by omega)).trans g3
  clear h bb hsz g0 g1 g2 g3 he hc hsm htE htC hay has hW1 hW2 hW3
  unfold Tells at hC1
  unfold vH at hC1 HCp ⊢
  unfold vE at HEm ⊢
  unfold vC at HCm ⊢
  have HW := hid hw1
  rw [hw1] at hC1
  obtain ⟨a0, a1, a2, a3, a4, a5, a6⟩ := HKa.out w1 (Below.refl _ _)
  rw [hw1] at a0 a1 a2 a3 a4 a5 a6
  clear hw1 hAA
  go_enter Try.func35, Try.ntmps35
  go_upto_region 2 with (go_at_call 33; refine hC1.mono ?_; rintro r wa ⟨u, rfl, H1⟩; clear hC1)
  obtain ⟨G0, Gl, GN, o1, e1, b1, q1⟩ := H1.out
  rw [← HW.out] at b1 q1
  obtain ⟨p, hp⟩ : ∃ p, p = wa.heap.size := ⟨_, rfl⟩
  obtain ⟨w2, hw2⟩ : ∃ w2, w2 = wa.alloc (.cells #[.int .i64 u.fe, .int .i64 u.now.pl, .int .i64 u.now.si, .slice u.now.x1 u.now.n1 u.now.c1, .slice u.now.x2 u.now.n2 u.now.c2, .slice u.now.x3 u.now.n3 u.now.c3, .slice u.x u.n u.c] 29) := ⟨_, rfl⟩
  have b2 : Below wa.heap.size wa w2 := by rw [hw2]; exact al _ _
  have hg : w2.heap[wa.heap.size]? = some (.cells (HCells u) 29 (0, 0)) := by rw [hw2]; exact heap_alloc_new _ _
  have hs2 : w2.heap.size = wa.heap.size + 1 := by rw [hw2]; simp
  rw [← hw2, ← hp]
  rw [← hp] at hg hs2
  have b12 := on b1 b2
  have HO := hid (o1.below b2)
  have HE1 := hid e1
  have HB2 := hid b12
  have HQ := hid (fun q hq => (⟨(q1 q hq).1, by have := (q1 q hq).2; omega⟩ : w1.heap.size ≤ q ∧ q < p))
  have HPz := hid (And.intro hs2 (show w1.heap.size ≤ p by rw [hp]; exact b1.size))
  have HGp := hid hg
  have HKp : Hid (∀ W, Below w2.heap.size w2 W → W.cell? ⟨p, 0, none⟩ = some (.int .i64 u.fe) ∧ W.cell? ⟨p, 1, none⟩ = some (.int .i64 u.now.pl) ∧ W.cell? ⟨p, 2, none⟩ = some (.int .i64 u.now.si) ∧ W.cell? ⟨p, 3, none⟩ = some (.slice u.now.x1 u.now.n1 u.now.c1) ∧ W.cell? ⟨p, 4, none⟩ = some (.slice u.now.x2 u.now.n2 u.now.c2) ∧ W.cell? ⟨p, 5, none⟩ = some (.slice u.now.x3 u.now.n3 u.now.c3) ∧ W.cell? ⟨p, 6, none⟩ = some (.slice u.x u.n u.c)) := hid fun W hW => ⟨keep hW (cell_heap hg rfl), keep hW (cell_heap hg rfl), keep hW (cell_heap hg rfl), keep hW (cell_heap hg rfl), keep hW (cell_heap hg rfl), keep hW (cell_heap hg rfl), keep hW (cell_heap hg rfl)⟩
  clear H1 o1 e1 b1 q1 hp hw2 b2 hg hs2 b12 a0 a1 a2 a3 a4 a5 a6
  have fin : ∀ (wc W : World) (z : Int), Below w2.heap.size w2 wc → Turns (fun k => k = w.heap.size + 3) wc W → PP = (pH u, z) → Tells w PP.1 PP.2 (.returned (.tuple #[vH u, .int .i64 z])) W := fun wc W z hb t hpp => by
    rw [hpp]
    exact own_end (r := w.heap.size + 3) HB.out ⟨by omega, by have := HSz.out; omega⟩ (on HB2.out hb) (HO.out.below hb) rfl (fun q hq => ⟨(HQ.out q hq).1, by have := (HQ.out q hq).2; have := HPz.out.1; have := hb.size; omega⟩) t
  have HFin := hid fin
  clear fin
  generalize hzz : AA.2 = z at *
  by_cases hz0 : z = 0
  rotate_left
  · have HBW := hid (Below.refl w2.heap.size w2)
    have HPP := hid (HW1.out hz0)
    have hbz : (z != 0) = true := by simp [hz0]
    have HZ := hid hzz
    obtain ⟨k0, k1, k2, k3, k4, k5, k6⟩ := HKp.out w2 (Below.refl _ _)
    have gr := HKr.out w2 (on HB2.out HBW.out)
    have b0 := cell_heap gr (j := 0) rfl
    have fb0 := fr_heap gr 0
    have b1 := cell_heap gr (j := 1) rfl
    have fb1 := fr_heap gr 1
    have b2 := cell_heap gr (j := 2) rfl
    have fb2 := fr_heap gr 2
    have b3 := cell_heap gr (j := 3) rfl
    have fb3 := fr_heap gr 3
    have b4 := cell_heap gr (j := 4) rfl
    have fb4 := fr_heap gr 4
    have b5 := cell_heap gr (j := 5) rfl
    have fb5 := fr_heap gr 5
    have b6 := cell_heap gr (j := 6) rfl
    have fb6 := fr_heap gr 6
    clear gr
    clear hz0 hzz
    go_wp2_with fail
    refine bodyPost_ret (v := .tuple #[vH u, .int .i64 z]) ?_ rfl ?_
    · rw [results_cell2 rfl]
      unfold vH
      go_simp
    · refine HFin.out w2 _ z HBW.out ?_ (by rw [HPP.out, ← HZ.out, HE1.out])
      repeat (first | with_reducible exact Turns.refl _ _ | with_reducible refine turns_put ?_ _ _)
  subst hz0
  have HZ := hid hzz
  obtain ⟨hok, hsi, hfe, _, _⟩ := HAy.out rfl
  have hsmA := HAs.out rfl
  rw [← HE1.out] at hok hsmA
  have HOk := hid (And.intro hok hsmA)
  clear hok hsi hfe hsmA HAy HAs HW1
  replace HW2 : Hid ((tE && tC) = false → PP = (pH v, 1)) := hid (HW2.out rfl)
  have HW4 := hid (fun q1 q2 => HW3.out rfl q1 q2 (pH u) u.now.E.length HE1.out rfl)
  clear HW3 hzz
  cases tE with
  | false =>
    obtain ⟨e0, e1, e2, e3, e4, e5, e6⟩ := HKe.out w2 HB2.out
    go_upto_region 5 with (first
      | (go_at_call 59; refine (HEm.out _).mono ?_; rintro r wb ⟨rfl, hb3⟩; have HB3 := hid hb3; clear hb3; obtain ⟨c0, c1, c2⟩ := HKc.out wb (on HB2.out HB3.out))
      | (go_at_call 60; refine (HCm.out _ (on HB2.out HB3.out)).mono ?_; rintro r wc ⟨rfl, hb4⟩; have HB4 := hid (on HB3.out hb4); clear hb4))
    obtain ⟨a0, a1, a2, a3, a4, a5, a6⟩ := HKa.out wb (on HB2.out HB3.out)
    go_wp2_with (go_at_call 56; refine (HCp.out _ (on HB2.out HB3.out)).mono ?_; rintro r wd ⟨t, rfl, H5⟩; have gr := HKr.out wd (on (on HB2.out HB3.out) (by obtain ⟨_, _, _, _, _, bq, _⟩ := H5.out; exact bq)); have b0 := cell_heap gr (j := 0) rfl; have fb0 := fr_heap gr 0; have b1 := cell_heap gr (j := 1) rfl; have fb1 := fr_heap gr 1; have b2 := cell_heap gr (j := 2) rfl; have fb2 := fr_heap gr 2; have b3 := cell_heap gr (j := 3) rfl; have fb3 := fr_heap gr 3; have b4 := cell_heap gr (j := 4) rfl; have fb4 := fr_heap gr 4; have b5 := cell_heap gr (j := 5) rfl; have fb5 := fr_heap gr 5; have b6 := cell_heap gr (j := 6) rfl; have fb6 := fr_heap gr 6; clear gr)
    obtain ⟨I0, Il, IN, o5, e5, b5, q5⟩ := H5.out
    refine bodyPost_ret (v := .tuple #[vH t, .int .i64 1]) ?_ rfl ?_
    · rw [results_cell2 rfl]
      unfold vH
      go_simp
    · rw [HW2.out (by rfl)]
      refine own_end (r := w.heap.size + 3) HB.out ⟨by omega, by have := HSz.out; omega⟩ (on (on HB2.out HB3.out) b5) o5 e5 (fun q hq => ⟨by have := (q5 q hq).1; have := (on HB2.out HB3.out).size; omega, (q5 q hq).2⟩) ?_
      repeat (first | with_reducible exact Turns.refl _ _ | with_reducible refine turns_put ?_ _ _)
  | true =>
  cases tC with
  | false =>
    obtain ⟨e0, e1, e2, e3, e4, e5, e6⟩ := HKe.out w2 HB2.out
    go_upto_region 5 with (first
      | (go_at_call 59; refine (HEm.out _).mono ?_; rintro r wb ⟨rfl, hb3⟩; have HB3 := hid hb3; clear hb3; obtain ⟨c0, c1, c2⟩ := HKc.out wb (on HB2.out HB3.out))
      | (go_at_call 60; refine (HCm.out _ (on HB2.out HB3.out)).mono ?_; rintro r wc ⟨rfl, hb4⟩; have HB4 := hid (on HB3.out hb4); clear hb4))
    obtain ⟨a0, a1, a2, a3, a4, a5, a6⟩ := HKa.out wc (on HB2.out HB4.out)
    go_wp2_with (go_at_call 56; refine (HCp.out _ (on HB2.out HB4.out)).mono ?_; rintro r wd ⟨t, rfl, H5⟩; have gr := HKr.out wd (on (on HB2.out HB4.out) (by obtain ⟨_, _, _, _, _, bq, _⟩ := H5.out; exact bq)); have b0 := cell_heap gr (j := 0) rfl; have fb0 := fr_heap gr 0; have b1 := cell_heap gr (j := 1) rfl; have fb1 := fr_heap gr 1; have b2 := cell_heap gr (j := 2) rfl; have fb2 := fr_heap gr 2; have b3 := cell_heap gr (j := 3) rfl; have fb3 := fr_heap gr 3; have b4 := cell_heap gr (j := 4) rfl; have fb4 := fr_heap gr 4; have b5 := cell_heap gr (j := 5) rfl; have fb5 := fr_heap gr 5; have b6 := cell_heap gr (j := 6) rfl; have fb6 := fr_heap gr 6; clear gr)
    obtain ⟨I0, Il, IN, o5, e5, b5, q5⟩ := H5.out
    refine bodyPost_ret (v := .tuple #[vH t, .int .i64 1]) ?_ rfl ?_
    · rw [results_cell2 rfl]
      unfold vH
      go_simp
    · rw [HW2.out (by rfl)]
      refine own_end (r := w.heap.size + 3) HB.out ⟨by omega, by have := HSz.out; omega⟩ (on (on HB2.out HB4.out) b5) o5 e5 (fun q hq => ⟨by have := (q5 q hq).1; have := (on HB2.out HB4.out).size; omega, (q5 q hq).2⟩) ?_
      repeat (first | with_reducible exact Turns.refl _ _ | with_reducible refine turns_put ?_ _ _)
  | true =>
    have hse : (1 : Int) ≤ e.seq := (bz_of HTE.out.symm).1.1
    obtain ⟨n, hn⟩ : ∃ n, n = u.now.n2 := ⟨_, rfl⟩
    have hnl : u.now.E.length = n := by rw [hn]; exact HO.out.now.toS.e.len
    have hnm : n ≤ 100000000 := by rw [hn]; exact HO.out.now.toS.e.small
    rw [hnl] at HW4
    have HN := hid (And.intro hn hnl)
    replace HW4 := hid (HW4.out rfl rfl)
    obtain ⟨q, hq⟩ : ∃ q : Nat, q = n + 1 := ⟨_, rfl⟩
    have HQq := hid hq
    have hw : IntKind.i64.wrap ((n : Int) + 1) = (q : Int) := by rw [IntKind.wrap_i64]; omega
    have HHd := hid (fun W => head_any u.now W)
    unfold vS at HHd
    rw [← hn] at HKp HHd
    have heq : ((n : Int) + 1) = (q : Int) := by omega
    rw [heq] at HW4
    clear hn hnl hq heq
    obtain ⟨e0, e1, e2, e3, e4, e5, e6⟩ := HKe.out w2 HB2.out
    go_upto_region 7 with (first
      | (go_at_call 59; refine (HEm.out _).mono ?_; rintro r wb ⟨rfl, hb3⟩; have HB3 := hid hb3; clear hb3; obtain ⟨c0, c1, c2⟩ := HKc.out wb (on HB2.out HB3.out))
      | (go_at_call 60; refine (HCm.out _ (on HB2.out HB3.out)).mono ?_; rintro r wc ⟨rfl, hb4⟩; have HB4 := hid (on HB3.out hb4); clear hb4; obtain ⟨k0, k1, k2, k3, k4, k5, k6⟩ := HKp.out wc HB4.out)
      | (go_at_call 23; refine (HHd.out _).mono ?_; rintro r wd ⟨rfl, hb5⟩; have HBW := hid (on HB4.out hb5); clear hb5))
    clear e0 e1 e2 e3 e4 e5 e6 c0 c1 c2 k0 k1 k2 k3 k4 k5 k6
    obtain ⟨e0, e1, e2, e3, e4, e5, e6⟩ := HKe.out wd (on HB2.out HBW.out)
    by_cases hgt : (q : Int) < e.seq
    · obtain ⟨k0, k1, k2, k3, k4, k5, k6⟩ := HKp.out wd HBW.out
      have gr := HKr.out wd (on HB2.out HBW.out)
      have b0 := cell_heap gr (j := 0) rfl
      have fb0 := fr_heap gr 0
      have b1 := cell_heap gr (j := 1) rfl
      have fb1 := fr_heap gr 1
      have b2 := cell_heap gr (j := 2) rfl
      have fb2 := fr_heap gr 2
      have b3 := cell_heap gr (j := 3) rfl
      have fb3 := fr_heap gr 3
      have b4 := cell_heap gr (j := 4) rfl
      have fb4 := fr_heap gr 4
      have b5 := cell_heap gr (j := 5) rfl
      have fb5 := fr_heap gr 5
      have b6 := cell_heap gr (j := 6) rfl
      have fb6 := fr_heap gr 6
      clear gr
      go_wp2_with fail
      refine bodyPost_ret (v := .tuple #[vH u, .int .i64 9]) ?_ rfl ?_
      · rw [results_cell2 rfl]
        unfold vH
        rw [← HN.out.1]
        go_simp
      · refine HFin.out wd _ 9 HBW.out ?_ (HW4.out.1 hgt)
        repeat (first | with_reducible exact Turns.refl _ _ | with_reducible refine turns_put ?_ _ _)
    by_cases hse2 : e.seq = (q : Int)
    · have hbe : (e.seq == (q : Int)) = true := by simp [hse2]
      have HPP := hid (HW4.out.2.1 hse2)
      obtain ⟨c0, c1, c2⟩ := HKc.out wd (on HB2.out HBW.out)
      have hgd := (HBW.out.block p (lt_heap HGp.out)).trans HGp.out
      have hSm := HOk.out.2 (pS u.now) (List.mem_cons_self ..)
      have hI : (u.now.I.map pI).length < 99999990 := hSm.1
      have hU : (u.now.U.map pU).length < 99999990 := hSm.2.2
      rw [List.length_map] at hI hU
      have hDo := do_any (w := wd) (G := G0) (F := fun q => q < w.heap.size) (p := p) (of := 1) (v := u.now) e c hgd ⟨rfl, rfl, rfl, rfl, rfl⟩ (by decide) (by decide) (by decide) (by decide) (HO.out.now.below HBW.out) (okS_rise HOk.out.1.2.1) (by omega) (by have := HN.out.2; have : u.now.E.length < 99999990 := hSm.2.1; omega) (by omega) HNm.out (CAt.below HCl.out (on HB.out (on HB2.out HBW.out)))
        (fun k hk => ⟨by have := HPz.out.2; have := HB.out.size; omega, fun hg => by have := (HQ.out k (.inl hg)).1; have := HB.out.size; omega⟩)
      unfold vE vC at hDo
      clear hgd hSm hI hU hse2
      go_upto_region 13 with (go_at_call 61; refine hDo.mono ?_; rintro r w9 ⟨rfl, H9⟩; clear hDo)
      obtain ⟨t, o9, p9, t9, k0, k1, k2, k3, k4, k5, k6⟩ := OwH.done (HO.out.below HBW.out) (fun k hk => ⟨by have := (HQ.out k hk).2; have := HPz.out.1; have := HBW.out.size; omega, by have := (HQ.out k hk).2; omega⟩) H9.out
      have gr0 := HKr.out wd (on HB2.out HBW.out)
      have gr := (t9.block _ (lt_heap gr0) (fun hk => by
        rcases hk with hk | hk
        · have := HPz.out.2; have := HSz.out; omega
        · have := (HQ.out _ (.inl hk)).1; have := HSz.out; omega)).trans gr0
      have b0 := cell_heap gr (j := 0) rfl
      have fb0 := fr_heap gr 0
      have b1 := cell_heap gr (j := 1) rfl
      have fb1 := fr_heap gr 1
      have b2 := cell_heap gr (j := 2) rfl
      have fb2 := fr_heap gr 2
      have b3 := cell_heap gr (j := 3) rfl
      have fb3 := fr_heap gr 3
      have b4 := cell_heap gr (j := 4) rfl
      have fb4 := fr_heap gr 4
      have b5 := cell_heap gr (j := 5) rfl
      have fb5 := fr_heap gr 5
      have b6 := cell_heap gr (j := 6) rfl
      have fb6 := fr_heap gr 6
      have H10 := hid (And.intro o9 (And.intro p9 t9))
      clear gr gr0 o9 p9 t9 e0 e1 e2 e3 e4 e5 e6 c0 c1 c2
      go_wp2_with fail
      refine bodyPost_ret (v := .tuple #[vH ⟨u.fe, t, u.x, u.n, u.c, u.N⟩, .int .i64 0]) ?_ rfl ?_
      · rw [results_cell2 rfl]
        unfold vH
        go_simp
      · rw [HPP.out]
        have b19 : Below w1.heap.size w1 w9 := (on HB2.out HBW.out).trans (H10.out.2.2.below (fun k hk => by
          rcases hk with hk | hk
          · have := HPz.out.2; omega
          · exact (HQ.out k (.inl hk)).1) (on HB2.out HBW.out).size)
        refine own_end (r := w.heap.size + 3) HB.out ⟨by omega, by have := HSz.out; omega⟩ b19 H10.out.1 ?_ (fun k hk => ?_) ?_
        · show (⟨u.fe, pS t, u.N.map pS⟩ : Hld) = _
          rw [H10.out.2.1]
          rfl
        · have s2 := HB2.out.size
          have s3 := HBW.out.size
          have s9 := H10.out.2.2.size
          have sz := HPz.out.1
          rcases hk with (hk | hk) | hk
          · have := HQ.out k (.inl hk); exact ⟨this.1, by omega⟩
          · exact ⟨by have := hk.1; omega, hk.2⟩
          · have := HQ.out k (.inr hk); exact ⟨this.1, by omega⟩
        · repeat (first | with_reducible exact Turns.refl _ _ | with_reducible refine turns_put ?_ _ _)
    · have hbe : (e.seq == (q : Int)) = false := by simp [hse2]
      obtain ⟨i, hi⟩ : ∃ i : Nat, (i : Int) = e.seq - 1 := ⟨(e.seq - 1).toNat, by omega⟩
      have hwi : IntKind.i64.wrap (e.seq - 1) = (i : Int) := by rw [IntKind.wrap_i64]; have := HQq.out; omega
      have hin : i < n := by have := HQq.out; omega
      have hin2 : (i : Int) < (n : Int) := by omega
      obtain ⟨m, hm⟩ : ∃ m, u.now.E[i]? = some m := ⟨_, List.getElem?_eq_getElem (by have := HN.out.2; omega)⟩
      have HPP := hid (HW4.out.2.2)
      have hti : (e.seq - 1).toNat = i := by omega
      have HLt : Hid (e.seq < (q : Int) ∧ (pH u).now.log[(e.seq - 1).toNat]? = some m) := hid ⟨by omega, by rw [hti]; exact hm⟩
      have hrow := (HO.out.now.toS.e.below HBW.out)
      rcases hrow.row with h0 | ⟨b, o, hx, _, _, hcl⟩
      · have := HN.out.1
        omega
      obtain ⟨r0, r1, r2, r3, r4, r5, r6⟩ := e_at hcl hm
      obtain ⟨k0, k1, k2, k3, k4, k5, k6⟩ := HKp.out wd HBW.out
      rw [hx] at k4
      have HX := hid hx
      have r0' := After.cell r0
      have e0' := After.cell e0
      have r1' := After.cell r1
      have e1' := After.cell e1
      have r2' := After.cell r2
      have e2' := After.cell e2
      have r3' := After.cell r3
      have e3' := After.cell e3
      have r4' := After.cell r4
      have e4' := After.cell e4
      have r5' := After.cell r5
      have e5' := After.cell e5
      have r6' := After.cell r6
      have e6' := After.cell e6
      have k4' := After.cell k4
      have hq := neq_ent m e
      obtain ⟨t, ht⟩ : ∃ t, eqE m e = t := ⟨_, rfl⟩
      rw [ht] at hq
      have HT : Hid (t = true ↔ m = e) := hid (by rw [← ht]; exact eqE_is m e)
      unfold vE at hq
      clear hrow hcl hm hi hti hx ht hse2 r0 r1 r2 r3 r4 r5 r6 k0 k1 k2 k3 k5 k6
      have HBd := HBW
      go_upto_region 11 with (fail)
      haveI := After.ne wd
      refine wp_region_after (by kernel_rfl) (by kernel_rfl) ?_
      repeat (go_big_quiet_step (simp only [hq]))
      refine wpQuiet_nil ?_
      rintro _ ⟨Z, rfl⟩
      clear hq k4 k4' r0' r1' r2' r3' r4' r5' r6' e0' e1' e2' e3' e4' e5' e6' e0 e1 e2 e3 e4 e5 e6
      replace HBW : Hid (Below w2.heap.size w2 Z.W) := hid (on HBd.out Z.h)
      obtain ⟨k0, k1, k2, k3, k4, k5, k6⟩ := HKp.out Z.W HBW.out
      have gr := HKr.out Z.W (on HB2.out HBW.out)
      have b0 := cell_heap gr (j := 0) rfl
      have fb0 := fr_heap gr 0
      have b1 := cell_heap gr (j := 1) rfl
      have fb1 := fr_heap gr 1
      have b2 := cell_heap gr (j := 2) rfl
      have fb2 := fr_heap gr 2
      have b3 := cell_heap gr (j := 3) rfl
      have fb3 := fr_heap gr 3
      have b4 := cell_heap gr (j := 4) rfl
      have fb4 := fr_heap gr 4
      have b5 := cell_heap gr (j := 5) rfl
      have fb5 := fr_heap gr 5
      have b6 := cell_heap gr (j := 6) rfl
      have fb6 := fr_heap gr 6
      clear gr
      cases t with
      | true =>
        go_wp2_with fail
        refine bodyPost_ret (v := .tuple #[vH u, .int .i64 0]) ?_ rfl ?_
        · rw [results_cell2 rfl]
          unfold vH
          rw [← HN.out.1]
          go_simp
        · refine HFin.out Z.W _ 0 HBW.out ?_ (HPP.out.1 HLt.out.1 (HLt.out.2.trans (by rw [HT.out.1 (by trivial)])))
          repeat (first | with_reducible exact Turns.refl _ _ | with_reducible refine turns_put ?_ _ _)
      | false =>
        go_wp2_with fail
        refine bodyPost_ret (v := .tuple #[vH u, .int .i64 8]) ?_ rfl ?_
        · rw [results_cell2 rfl]
          unfold vH
          rw [← HN.out.1]
          go_simp
        · refine HFin.out Z.W _ 8 HBW.out ?_ (HPP.out.2 HLt.out.1 (fun h => by have h2 := HLt.out.2.symm.trans h; injection h2 with h2; have := HT.out.2 h2; cases this))
          repeat (first | with_reducible exact Turns.refl _ _ | with_reducible refine turns_put ?_ _ _)

end Go.Proofs.Ytnfflmndejbepaa.Sh
