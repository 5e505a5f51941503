/-
  The document's Write.
  Conditions: the holder and what is written lie in memory, no list is too long.
-/
import Derived.Test.YtnfflmndejbepaaShRCom
import Derived.Test.YtnfflmndejbepaaJShFil
import Derived.Test.YtnfflmndejbepaaShWr
namespace Go.Proofs.Ytnfflmndejbepaa.Sh
set_option linter.unusedSectionVars false
variable [Inhabited DZ]
open Go.RowKit By Fl
set_option linter.unusedVariables false
set_option linter.unusedSimpArgs false
set_option maxRecDepth 100000

set_option maxHeartbeats 25600000 in
theorem rwrite_any {w : World} {F G : Nat → Prop} {v : HV} (since : Int) (e : Ent) (c : CV) (h0 : HAt w F v) (he : e.nm.size ≤ 1048576) (hc0 : CAt w G c) (hsm : Small (pH v)) :
    Calls Try.prog 36 #[vH v, .int .i64 since, vE e, vC c] w fun r w' => RTells w (fun q => F q ∨ G q) (writeP (pH v) since e (pC c)).1 (writeP (pH v) since e (pC c)).2 r w' := by
  have h : HAt w (fun q => ((F q ∨ G q) ∧ q < w.heap.size)) v := h0.ltF.weak fun q hq => ⟨.inl hq.1, hq.2⟩
  have hc : CAt w (fun q => ((F q ∨ G q) ∧ q < w.heap.size)) c := (CAt.ltF hc0).weak fun q hq => ⟨.inr hq.1, hq.2⟩
  obtain ⟨w1, hw1, bb, hsz, g0, g1, g2, g3⟩ := four_boxes w #[.int .i64 v.fe, .int .i64 v.now.pl, .int .i64 v.now.si, .slice v.now.x1 v.now.n1 v.now.c1, .slice v.now.x2 v.now.n2 v.now.c2, .slice v.now.x3 v.now.n3 v.now.c3, .slice v.x v.n v.c] #[.int .i64 e.seq, .int .i64 e.cl, .int .i64 e.ks, .string e.nm, .int .i64 e.code, .bool e.gone, .int .i64 e.sz] #[.int .i64 c.sz, .slice c.x c.n c.c, .int .u32 c.sum] #[.int .i64 0, .int .i64 0, .int .i64 0, .slice none 0 0, .slice none 0 0, .slice none 0 0, .slice none 0 0] 29 67 36 29
  have hC1 := ract_any since (h.below bb)
  have HEm := hid (fun W => rentry_any (w := W) (F := F) (e := e) he)
  have HCm := hid (fun W (hW : Below w1.heap.size w1 W) => rchunk_any (CAt.below hc (on bb hW)))
  have HCl := hid hc
  have HNm := hid he
  have HHv := hid h
  obtain ⟨tE, htE⟩ : ∃ t, t = bz (okE e) := ⟨_, rfl⟩
  obtain ⟨tC, htC⟩ : ∃ t, t = bz (okC (pC c)) := ⟨_, rfl⟩
  rw [← htE] at HEm
  rw [← htC] at HCm
  have HTE := hid htE
  have hay := act_yes (H := pH v) (since := since)
  have has := fun q => act_small (H := pH v) (since := since) q hsm
  have hW1 : (actP (pH v) since).2 ≠ 0 → writeP (pH v) since e (pC c) = actP (pH v) since := fun q => by unfold writeP; rw [if_pos q]
  have hW2 : (actP (pH v) since).2 = 0 → (tE && tC) = false → writeP (pH v) since e (pC c) = (pH v, 1) := fun q k => by unfold writeP; rw [if_neg (by simp [q]), ← htE, ← htC, k]; rfl
  have hW3 : (actP (pH v) since).2 = 0 → tE = true → tC = true → ∀ A n, A = (actP (pH v) since).1 → n = A.now.log.length → ((n : Int) + 1 < e.seq → writeP (pH v) since e (pC c) = (A, 9)) ∧ (e.seq = (n : Int) + 1 → writeP (pH v) since e (pC c) = (⟨A.fe, doE A.now e (pC c), A.nx⟩, 0)) ∧
      (e.seq < (n : Int) + 1 → A.now.log[(e.seq - 1).toNat]? = some e → writeP (pH v) since e (pC c) = (A, 0)) ∧ (e.seq < (n : Int) + 1 → ¬ A.now.log[(e.seq - 1).toNat]? = some e → writeP (pH v) since e (pC c) = (A, 8)) := fun q k1 k2 A n hA hn => by
    subst hA
    subst hn
    unfold writeP
    rw [if_neg (by simp [q]), ← htE, ← htC, k1, k2]
    simp only [Bool.and_self, if_true]
    refine ⟨fun a => by rw [if_pos a], fun a => by rw [if_neg (by omega), if_pos a], fun a b => by rw [if_neg (by omega), if_neg (by omega), bz_true b]; rfl, fun a b => by rw [if_neg (by omega), if_neg (by omega), bz_false b]; rfl⟩
  have HW1 := hid hW1
  have HW2 := hid hW2
  have HW3 := hid hW3
  have HAy := hid hay
  have HAs := hid has
  generalize writeP (pH v) since e (pC c) = PP at *
  generalize hAA : actP (pH v) since = AA at *
  have HB := hid bb
  have HSz := hid hsz
  have HKe : Hid (∀ W, Below w1.heap.size w1 W → W.cell? ⟨w.heap.size + 1, 0, none⟩ = some (.int .i64 e.seq) ∧ W.cell? ⟨w.heap.size + 1, 1, none⟩ = some (.int .i64 e.cl) ∧ W.cell? ⟨w.heap.size + 1, 2, none⟩ = some (.int .i64 e.ks) ∧ W.cell? ⟨w.heap.size + 1, 3, none⟩ = some (.string e.nm) ∧ W.cell? ⟨w.heap.size + 1, 4, none⟩ = some (.int .i64 e.code) ∧ W.cell? ⟨w.heap.size + 1, 5, none⟩ = some (.bool e.gone) ∧ W.cell? ⟨w.heap.size + 1, 6, none⟩ = some (.int .i64 e.sz)) := hid fun W hW => ⟨keep hW (cell_heap g1 rfl), keep hW (cell_heap g1 rfl), keep hW (cell_heap g1 rfl), keep hW (cell_heap g1 rfl), keep hW (cell_heap g1 rfl), keep hW (cell_heap g1 rfl), keep hW (cell_heap g1 rfl)⟩
  have HKc : Hid (∀ W, Below w1.heap.size w1 W → W.cell? ⟨w.heap.size + 2, 0, none⟩ = some (.int .i64 c.sz) ∧ W.cell? ⟨w.heap.size + 2, 1, none⟩ = some (.slice c.x c.n c.c) ∧ W.cell? ⟨w.heap.size + 2, 2, none⟩ = some (.int .u32 c.sum)) := hid fun W hW => ⟨keep hW (cell_heap g2 rfl), keep hW (cell_heap g2 rfl), keep hW (cell_heap g2 rfl)⟩
  have HKa : Hid (∀ W, Below w1.heap.size w1 W → W.cell? ⟨w.heap.size, 0, none⟩ = some (.int .i64 v.fe) ∧ W.cell? ⟨w.heap.size, 1, none⟩ = some (.int .i64 v.now.pl) ∧ W.cell? ⟨w.heap.size, 2, none⟩ = some (.int .i64 v.now.si) ∧ W.cell? ⟨w.heap.size, 3, none⟩ = some (.slice v.now.x1 v.now.n1 v.now.c1) ∧ W.cell? ⟨w.heap.size, 4, none⟩ = some (.slice v.now.x2 v.now.n2 v.now.c2) ∧ W.cell? ⟨w.heap.size, 5, none⟩ = some (.slice v.now.x3 v.now.n3 v.now.c3) ∧ W.cell? ⟨w.heap.size, 6, none⟩ = some (.slice v.x v.n v.c)) := hid fun W hW => ⟨keep hW (cell_heap g0 rfl), keep hW (cell_heap g0 rfl), keep hW (cell_heap g0 rfl), keep hW (cell_heap g0 rfl), keep hW (cell_heap g0 rfl), keep hW (cell_heap g0 rfl), keep hW (cell_heap g0 rfl)⟩
  have HKr : Hid (∀ W, Below w1.heap.size w1 W → W.heap[w.heap.size + 3]? = some (.cells #[.int .i64 0, .int .i64 0, .int .i64 0, .slice none 0 0, .slice none 0 0, .slice none 0 0, .slice none 0 0] 29 (0, 0))) := hid fun W hW => (hW.block _ (by omega)).trans g3
  clear h h0 hc hc0 bb hsz g0 g1 g2 g3 he hsm htE htC hay has hW1 hW2 hW3
  unfold RTells at hC1
  unfold vH at hC1 ⊢
  unfold vE at HEm ⊢
  unfold vC at HCm ⊢
  have HW := hid hw1
  rw [hw1] at hC1
  obtain ⟨a0, a1, a2, a3, a4, a5, a6⟩ := HKa.out w1 (Below.refl _ _)
  rw [hw1] at a0 a1 a2 a3 a4 a5 a6
  clear hw1 hAA
  go_enter Try.func36, Try.ntmps36
  go_upto_region 2 with (go_at_call 34; refine hC1.mono ?_; rintro r wa ⟨u, rfl, H1⟩; clear hC1)
  obtain ⟨o1, e1, b1⟩ := H1.out
  rw [← HW.out] at b1 o1
  obtain ⟨p, hp⟩ : ∃ p, p = wa.heap.size := ⟨_, rfl⟩
  obtain ⟨w2, hw2⟩ : ∃ w2, w2 = wa.alloc (.cells #[.int .i64 u.fe, .int .i64 u.now.pl, .int .i64 u.now.si, .slice u.now.x1 u.now.n1 u.now.c1, .slice u.now.x2 u.now.n2 u.now.c2, .slice u.now.x3 u.now.n3 u.now.c3, .slice u.x u.n u.c] 29) := ⟨_, rfl⟩
  have b2 : Below wa.heap.size wa w2 := by rw [hw2]; exact al _ _
  have hg : w2.heap[wa.heap.size]? = some (.cells (HCells u) 29 (0, 0)) := by rw [hw2]; exact heap_alloc_new _ _
  have hs2 : w2.heap.size = wa.heap.size + 1 := by rw [hw2]; simp
  rw [← hw2, ← hp]
  rw [← hp] at hg hs2
  have b12 := on b1 b2
  have HO := hid (((o1.below b2).weak fun q hq => hq.imp id fun h => ⟨h.1, by rw [hp]; exact h.2⟩ : HAt w2 (fun q => ((F q ∨ G q) ∧ q < w.heap.size) ∨ (w1.heap.size ≤ q ∧ q < p)) u))
  have HE1 := hid e1
  have HB2 := hid b12
  have HPz := hid (And.intro hs2 (show w1.heap.size ≤ p by rw [hp]; exact b1.size))
  have HGp := hid hg
  have HKp : Hid (∀ W, Below w2.heap.size w2 W → W.cell? ⟨p, 0, none⟩ = some (.int .i64 u.fe) ∧ W.cell? ⟨p, 1, none⟩ = some (.int .i64 u.now.pl) ∧ W.cell? ⟨p, 2, none⟩ = some (.int .i64 u.now.si) ∧ W.cell? ⟨p, 3, none⟩ = some (.slice u.now.x1 u.now.n1 u.now.c1) ∧ W.cell? ⟨p, 4, none⟩ = some (.slice u.now.x2 u.now.n2 u.now.c2) ∧ W.cell? ⟨p, 5, none⟩ = some (.slice u.now.x3 u.now.n3 u.now.c3) ∧ W.cell? ⟨p, 6, none⟩ = some (.slice u.x u.n u.c)) := hid fun W hW => ⟨keep hW (cell_heap hg rfl), keep hW (cell_heap hg rfl), keep hW (cell_heap hg rfl), keep hW (cell_heap hg rfl), keep hW (cell_heap hg rfl), keep hW (cell_heap hg rfl), keep hW (cell_heap hg rfl)⟩
  clear H1 o1 e1 b1 hp hw2 b2 hg hs2 b12 a0 a1 a2 a3 a4 a5 a6
  have fin : ∀ (wc W : World) (z : Int), Below w2.heap.size w2 wc → Turns (fun k => k = w.heap.size + 3) wc W → PP = (pH u, z) → RTells w (fun q => F q ∨ G q) PP.1 PP.2 (.returned (.tuple #[vH u, .int .i64 z])) W := fun wc W z hb t hpp => by
    rw [hpp]
    exact rtell (r := w.heap.size + 3) HB.out ⟨by omega, by have := HSz.out; omega⟩ (on HB2.out hb) (HO.out.below hb) (fun q hq => hq.imp id fun h => ⟨h.1, by have := h.2; have := HPz.out.1; have := hb.size; omega⟩) t rfl
  have HFin := hid fin
  clear fin
  generalize hzz : AA.2 = z at *
  by_cases hz0 : z = 0
  rotate_left
  · have HPP := hid (HW1.out hz0)
    have hbz : (z != 0) = true := by simp [hz0]
    have HZ := hid hzz
    obtain ⟨k0, k1, k2, k3, k4, k5, k6⟩ := HKp.out w2 (Below.refl _ _)
    have gr := HKr.out w2 HB2.out
    have b0 := cell_heap gr (j := 0) rfl
    have fb0 := fr_heap gr 0
    have b1 := cell_heap gr (j := 1) rfl
    have fb1 := fr_heap gr 1
    have b2 := cell_heap gr (j := 2) rfl
    have fb2 := fr_heap gr 2
    have b3 := cell_heap gr (j := 3) rfl
    have fb3 := fr_heap gr 3
    have b4 := cell_heap gr (j := 4) rfl
    have fb4 := fr_heap gr 4
    have b5 := cell_heap gr (j := 5) rfl
    have fb5 := fr_heap gr 5
    have b6 := cell_heap gr (j := 6) rfl
    have fb6 := fr_heap gr 6
    clear gr
    clear hz0 hzz
    go_wp2_with fail
    refine bodyPost_ret (v := .tuple #[vH u, .int .i64 z]) ?_ rfl ?_
    · rw [results_cell2 rfl]
      unfold vH
      go_simp
    · refine HFin.out w2 _ z (Below.refl _ _) ?_ (by rw [HPP.out, ← HZ.out, HE1.out])
      repeat (first | with_reducible exact Turns.refl _ _ | with_reducible refine turns_put ?_ _ _)
  subst hz0
  have HZ := hid hzz
  obtain ⟨hok, hsi, hfe, _, _⟩ := HAy.out rfl
  have hsmA := HAs.out rfl
  rw [← HE1.out] at hok hsmA
  have HOk := hid (And.intro hok hsmA)
  clear hok hsi hfe hsmA HAy HAs HW1
  replace HW2 : Hid ((tE && tC) = false → PP = (pH v, 1)) := hid (HW2.out rfl)
  have HW4 := hid (fun q1 q2 => HW3.out rfl q1 q2 (pH u) u.now.E.length HE1.out rfl)
  clear HW3 hzz
  cases tE with
  | false =>
    obtain ⟨e0, e1, e2, e3, e4, e5, e6⟩ := HKe.out w2 HB2.out
    go_upto_region 5 with (first
      | (go_at_call 51; refine (HEm.out _).mono ?_; rintro r wb ⟨rfl, hb3⟩; have HB3 := hid hb3; clear hb3; obtain ⟨c0, c1, c2⟩ := HKc.out wb (on HB2.out HB3.out))
      | (go_at_call 50; refine (HCm.out _ (on HB2.out HB3.out)).mono ?_; rintro r wc ⟨rfl, hb4⟩; have HB4 := hid (on HB3.out hb4); clear hb4))
    obtain ⟨a0, a1, a2, a3, a4, a5, a6⟩ := HKa.out wb (on HB2.out HB3.out)
    have gr := HKr.out wb (on HB2.out HB3.out)
    have b0 := cell_heap gr (j := 0) rfl
    have fb0 := fr_heap gr 0
    have b1 := cell_heap gr (j := 1) rfl
    have fb1 := fr_heap gr 1
    have b2 := cell_heap gr (j := 2) rfl
    have fb2 := fr_heap gr 2
    have b3 := cell_heap gr (j := 3) rfl
    have fb3 := fr_heap gr 3
    have b4 := cell_heap gr (j := 4) rfl
    have fb4 := fr_heap gr 4
    have b5 := cell_heap gr (j := 5) rfl
    have fb5 := fr_heap gr 5
    have b6 := cell_heap gr (j := 6) rfl
    have fb6 := fr_heap gr 6
    clear gr
    go_wp2_with fail
    refine bodyPost_ret (v := .tuple #[vH v, .int .i64 1]) ?_ rfl ?_
    · rw [results_cell2 rfl]
      unfold vH
      go_simp
    · rw [HW2.out rfl]
      refine rtell (r := w.heap.size + 3) HB.out ⟨by omega, by have := HSz.out; omega⟩ (on HB2.out HB3.out) (HHv.out.below (on HB.out (on HB2.out HB3.out))) (fun q hq => .inl hq) ?_ rfl
      repeat (first | with_reducible exact Turns.refl _ _ | with_reducible refine turns_put ?_ _ _)
  | true =>
  cases tC with
  | false =>
    obtain ⟨e0, e1, e2, e3, e4, e5, e6⟩ := HKe.out w2 HB2.out
    go_upto_region 5 with (first
      | (go_at_call 51; refine (HEm.out _).mono ?_; rintro r wb ⟨rfl, hb3⟩; have HB3 := hid hb3; clear hb3; obtain ⟨c0, c1, c2⟩ := HKc.out wb (on HB2.out HB3.out))
      | (go_at_call 50; refine (HCm.out _ (on HB2.out HB3.out)).mono ?_; rintro r wc ⟨rfl, hb4⟩; have HB4 := hid (on HB3.out hb4); clear hb4))
    obtain ⟨a0, a1, a2, a3, a4, a5, a6⟩ := HKa.out wc (on HB2.out HB4.out)
    have gr := HKr.out wc (on HB2.out HB4.out)
    have b0 := cell_heap gr (j := 0) rfl
    have fb0 := fr_heap gr 0
    have b1 := cell_heap gr (j := 1) rfl
    have fb1 := fr_heap gr 1
    have b2 := cell_heap gr (j := 2) rfl
    have fb2 := fr_heap gr 2
    have b3 := cell_heap gr (j := 3) rfl
    have fb3 := fr_heap gr 3
    have b4 := cell_heap gr (j := 4) rfl
    have fb4 := fr_heap gr 4
    have b5 := cell_heap gr (j := 5) rfl
    have fb5 := fr_heap gr 5
    have b6 := cell_heap gr (j := 6) rfl
    have fb6 := fr_heap gr 6
    clear gr
    go_wp2_with fail
    refine bodyPost_ret (v := .tuple #[vH v, .int .i64 1]) ?_ rfl ?_
    · rw [results_cell2 rfl]
      unfold vH
      go_simp
    · rw [HW2.out rfl]
      refine rtell (r := w.heap.size + 3) HB.out ⟨by omega, by have := HSz.out; omega⟩ (on HB2.out HB4.out) (HHv.out.below (on HB.out (on HB2.out HB4.out))) (fun q hq => .inl hq) ?_ rfl
      repeat (first | with_reducible exact Turns.refl _ _ | with_reducible refine turns_put ?_ _ _)
  | true =>
    have hse : (1 : Int) ≤ e.seq := (bz_of HTE.out.symm).1.1
    obtain ⟨n, hn⟩ : ∃ n, n = u.now.n2 := ⟨_, rfl⟩
    have hnl : u.now.E.length = n := by rw [hn]; exact HO.out.s.e.len
    have hnm : n ≤ 100000000 := by rw [hn]; exact HO.out.s.e.small
    rw [hnl] at HW4
    have HN := hid (And.intro hn hnl)
    replace HW4 := hid (HW4.out rfl rfl)
    obtain ⟨q, hq⟩ : ∃ q : Nat, q = n + 1 := ⟨_, rfl⟩
    have HQq := hid hq
    have hw : IntKind.i64.wrap ((n : Int) + 1) = (q : Int) := by rw [IntKind.wrap_i64]; omega
    rw [← hn] at HKp
    have heq : ((n : Int) + 1) = (q : Int) := by omega
    rw [heq] at HW4
    clear hn hnl hq heq
    obtain ⟨e0, e1, e2, e3, e4, e5, e6⟩ := HKe.out w2 HB2.out
    go_upto_region 7 with (first
      | (go_at_call 51; refine (HEm.out _).mono ?_; rintro r wb ⟨rfl, hb3⟩; have HB3 := hid hb3; clear hb3; obtain ⟨c0, c1, c2⟩ := HKc.out wb (on HB2.out HB3.out))
      | (go_at_call 50; refine (HCm.out _ (on HB2.out HB3.out)).mono ?_; rintro r wd ⟨rfl, hb4⟩; have HBW := hid (on HB3.out hb4); clear hb4; obtain ⟨k0, k1, k2, k3, k4, k5, k6⟩ := HKp.out wd HBW.out))
    clear e0 e1 e2 e3 e4 e5 e6 c0 c1 c2 k0 k1 k2 k3 k4 k5 k6
    obtain ⟨e0, e1, e2, e3, e4, e5, e6⟩ := HKe.out wd (on HB2.out HBW.out)
    by_cases hle : e.seq ≤ (n : Int)
    · obtain ⟨i, hi⟩ : ∃ i : Nat, (i : Int) = e.seq - 1 := ⟨(e.seq - 1).toNat, by omega⟩
      have hwi : IntKind.i64.wrap (e.seq - 1) = (i : Int) := by rw [IntKind.wrap_i64]; omega
      have hin : i < n := by omega
      have hin2 : (i : Int) < (n : Int) := by omega
      obtain ⟨m, hm⟩ : ∃ m, u.now.E[i]? = some m := ⟨_, List.getElem?_eq_getElem (by have := HN.out.2; omega)⟩
      have HPP := hid (HW4.out.2.2)
      have hti : (e.seq - 1).toNat = i := by omega
      have HLt : Hid (e.seq < (q : Int) ∧ (pH u).now.log[(e.seq - 1).toNat]? = some m) := hid ⟨by have := HQq.out; omega, by rw [hti]; exact hm⟩
      have hrow := (HO.out.s.e.below HBW.out)
      rcases hrow.row with h0 | ⟨b, o, hx, _, _, hcl⟩
      · have := HN.out.1
        omega
      obtain ⟨r0, r1, r2, r3, r4, r5, r6⟩ := e_at hcl hm
      obtain ⟨k0, k1, k2, k3, k4, k5, k6⟩ := HKp.out wd HBW.out
      rw [hx] at k4
      have r0' := After.cell r0
      have e0' := After.cell e0
      have r1' := After.cell r1
      have e1' := After.cell e1
      have r2' := After.cell r2
      have e2' := After.cell e2
      have r3' := After.cell r3
      have e3' := After.cell e3
      have r4' := After.cell r4
      have e4' := After.cell e4
      have r5' := After.cell r5
      have e5' := After.cell e5
      have r6' := After.cell r6
      have e6' := After.cell e6
      have k4' := After.cell k4
      have hq := eq_ent m e
      obtain ⟨t, ht⟩ : ∃ t, eqE m e = t := ⟨_, rfl⟩
      rw [ht] at hq
      have HT : Hid (t = true ↔ m = e) := hid (by rw [← ht]; exact eqE_is m e)
      unfold vE at hq
      clear hrow hcl hm hi hti hx ht r0 r1 r2 r3 r4 r5 r6 k0 k1 k2 k3 k5 k6
      have HBd := HBW
      go_upto_region 8 with (fail)
      haveI := After.ne wd
      refine wp_region_after (by kernel_rfl) (by kernel_rfl) ?_
      repeat (go_big_quiet_step (simp only [hq]))
      refine wpQuiet_nil ?_
      rintro _ ⟨Z, rfl⟩
      clear hq k4 k4' r0' r1' r2' r3' r4' r5' r6' e0' e1' e2' e3' e4' e5' e6' e0 e1 e2 e3 e4 e5 e6
      replace HBW : Hid (Below w2.heap.size w2 Z.W) := hid (on HBd.out Z.h)
      obtain ⟨k0, k1, k2, k3, k4, k5, k6⟩ := HKp.out Z.W HBW.out
      have gr := HKr.out Z.W (on HB2.out HBW.out)
      have b0 := cell_heap gr (j := 0) rfl
      have fb0 := fr_heap gr 0
      have b1 := cell_heap gr (j := 1) rfl
      have fb1 := fr_heap gr 1
      have b2 := cell_heap gr (j := 2) rfl
      have fb2 := fr_heap gr 2
      have b3 := cell_heap gr (j := 3) rfl
      have fb3 := fr_heap gr 3
      have b4 := cell_heap gr (j := 4) rfl
      have fb4 := fr_heap gr 4
      have b5 := cell_heap gr (j := 5) rfl
      have fb5 := fr_heap gr 5
      have b6 := cell_heap gr (j := 6) rfl
      have fb6 := fr_heap gr 6
      clear gr
      cases t with
      | true =>
        go_wp2_with fail
        refine bodyPost_ret (v := .tuple #[vH u, .int .i64 0]) ?_ rfl ?_
        · rw [results_cell2 rfl]
          unfold vH
          rw [← HN.out.1]
          go_simp
        · refine HFin.out Z.W _ 0 HBW.out ?_ (HPP.out.1 HLt.out.1 (HLt.out.2.trans (by rw [HT.out.1 (by trivial)])))
          repeat (first | with_reducible exact Turns.refl _ _ | with_reducible refine turns_put ?_ _ _)
      | false =>
        go_wp2_with fail
        refine bodyPost_ret (v := .tuple #[vH u, .int .i64 8]) ?_ rfl ?_
        · rw [results_cell2 rfl]
          unfold vH
          rw [← HN.out.1]
          go_simp
        · refine HFin.out Z.W _ 8 HBW.out ?_ (HPP.out.2 HLt.out.1 (fun h => by have h2 := HLt.out.2.symm.trans h; injection h2 with h2; have := HT.out.2 h2; cases this))
          repeat (first | with_reducible exact Turns.refl _ _ | with_reducible refine turns_put ?_ _ _)
    have hlt : (n : Int) < e.seq := by omega
    by_cases hse2 : e.seq = (q : Int)
    rotate_left
    · have hbe : (e.seq != (q : Int)) = true := by simp [hse2]
      have HPP := hid (HW4.out.1 (by have := HQq.out; omega))
      obtain ⟨k0, k1, k2, k3, k4, k5, k6⟩ := HKp.out wd HBW.out
      have gr := HKr.out wd (on HB2.out HBW.out)
      have b0 := cell_heap gr (j := 0) rfl
      have fb0 := fr_heap gr 0
      have b1 := cell_heap gr (j := 1) rfl
      have fb1 := fr_heap gr 1
      have b2 := cell_heap gr (j := 2) rfl
      have fb2 := fr_heap gr 2
      have b3 := cell_heap gr (j := 3) rfl
      have fb3 := fr_heap gr 3
      have b4 := cell_heap gr (j := 4) rfl
      have fb4 := fr_heap gr 4
      have b5 := cell_heap gr (j := 5) rfl
      have fb5 := fr_heap gr 5
      have b6 := cell_heap gr (j := 6) rfl
      have fb6 := fr_heap gr 6
      clear gr
      clear hse2
      go_wp2_with fail
      refine bodyPost_ret (v := .tuple #[vH u, .int .i64 9]) ?_ rfl ?_
      · rw [results_cell2 rfl]
        unfold vH
        rw [← HN.out.1]
        go_simp
      · refine HFin.out wd _ 9 HBW.out ?_ (HPP.out)
        repeat (first | with_reducible exact Turns.refl _ _ | with_reducible refine turns_put ?_ _ _)
    have hbe : (e.seq != (q : Int)) = false := by simp [hse2]
    have HPP := hid (HW4.out.2.1 hse2)
    have hsmU : Hid (u.now.I.length < 99999990 ∧ u.now.E.length < 99999990 ∧ u.now.U.length < 99999990) := hid (by
      have h1 := HOk.out.2 (pS u.now) (List.mem_cons_self ..)
      have h2 : (u.now.I.map pI).length < 99999990 := h1.1
      have h3 : (u.now.U.map pU).length < 99999990 := h1.2.2
      rw [List.length_map] at h2 h3
      exact ⟨h2, h1.2.1, h3⟩)
    have HSm := hsmU
    clear hse2 hlt HW4 HW2 HFin hsmU
    obtain ⟨k0, k1, k2, k3, k4, k5, k6⟩ := HKp.out wd HBW.out
    have hget := rget_any e.nm (HO.out.s.below HBW.out)
    unfold vS at hget
    rw [← HN.out.1] at hget
    go_upto_region 14 with (go_at_call 12; refine hget.mono ?_; rintro r wf ⟨was, rfl, H5⟩; unfold vC; clear hget)
    obtain ⟨ok, hok⟩ : ∃ ok, (find e.nm (u.now.I.map pI)).isSome = ok := ⟨_, rfl⟩
    rw [hok]
    have HOK := hid hok
    obtain ⟨g, hgg⟩ : ∃ g, g = wf.heap.size := ⟨_, rfl⟩
    obtain ⟨w4, hw4⟩ : ∃ w4, w4 = wf.alloc (.cells #[.int .i64 was.sz, .slice was.x was.n was.c, .int .u32 was.sum] 36) := ⟨_, rfl⟩
    have b4 : Below wf.heap.size wf w4 := by rw [hw4]; exact al _ _
    have hgw : w4.heap[wf.heap.size]? = some (.cells #[.int .i64 was.sz, .slice was.x was.n was.c, .int .u32 was.sum] 36 (0, 0)) := by rw [hw4]; exact heap_alloc_new _ _
    rw [← hw4, ← hgg]
    rw [← hgg] at hgw
    have HB4 := hid (on HBW.out (on H5.out.2.2 b4))
    have HWas := hid (And.intro (CAt.below H5.out.1 b4) H5.out.2.1)
    have HG4 := hid ((HB4.out.block p (lt_heap HGp.out)).trans HGp.out)
    have HGw := hid hgw
    have HP4 := hid (lt_heap HG4.out)
    clear hok hgg hw4 b4 hgw H5 k0 k1 k2 k3 k4 k5 k6 e0 e1 e2 e3 e4 e5 e6
    have HS4 : Hid (∀ W, Below w4.heap.size w4 W → W.cell? ⟨p, 5, none⟩ = some (.slice u.now.x3 u.now.n3 u.now.c3) ∧ W.cell? ⟨w.heap.size + 1, 0, none⟩ = some (.int .i64 e.seq) ∧ W.cell? ⟨w.heap.size + 1, 3, none⟩ = some (.string e.nm) ∧ W.cell? ⟨g, 0, none⟩ = some (.int .i64 was.sz) ∧ W.cell? ⟨g, 1, none⟩ = some (.slice was.x was.n was.c) ∧ W.cell? ⟨g, 2, none⟩ = some (.int .u32 was.sum)) := hid fun W hW => by
      have q1 := HKp.out W (on HB4.out hW)
      have q2 := HKe.out W (on HB2.out (on HB4.out hW))
      exact ⟨q1.2.2.2.2.2.1, q2.1, q2.2.2.2.1, keep hW (cell_heap HGw.out rfl), keep hW (cell_heap HGw.out rfl), keep hW (cell_heap HGw.out rfl)⟩
    go_cut [] (fun wc => Hid (∃ x' c', wc.heap[p]? = some (.cells #[.int .i64 u.fe, .int .i64 u.now.pl, .int .i64 u.now.si, .slice u.now.x1 u.now.n1 u.now.c1, .slice u.now.x2 u.now.n2 u.now.c2, .slice x' (u.now.U.length + 1) c', .slice u.x u.n u.c] 29 (0, 0)) ∧ Own wc w4.heap.size 89 6 enU (.slice x' (u.now.U.length + 1) c') (u.now.U ++ [⟨e.seq, e.nm, ok, was⟩]) ∧ Turns (fun k => k = p) w4 wc))
    case first =>
      have bD : Below w4.heap.size w4 w4.drew := (Below.refl _ _).drew
      have S1 := HS4.out _ bD
      refine wp_region_tail (fun W => W.cell? ⟨p, 5, none⟩ = some (.slice u.now.x3 u.now.n3 u.now.c3) ∧ W.cell? ⟨w.heap.size + 1, 0, none⟩ = some (.int .i64 e.seq) ∧ W.cell? ⟨w.heap.size + 1, 3, none⟩ = some (.string e.nm) ∧ W.cell? ⟨g, 0, none⟩ = some (.int .i64 was.sz) ∧ W.cell? ⟨g, 1, none⟩ = some (.slice was.x was.n was.c) ∧ W.cell? ⟨g, 2, none⟩ = some (.int .u32 was.sum)) [14, 15, 16] (by kernel_rfl) S1 (fun hS => ?_)
      have HBD := hid bD
      clear S1 bD
      generalize w4.drew = wD at *
      refine By.tk 1 ?_
      refine By.tk 2 ?_
      refine By.tk 3 ?_
      refine By.tk 5 ?_
      refine By.tk 6 ?_
      refine By.tk 7 ?_
      refine By.tk 8 ?_
      refine By.tk 9 ?_
      refine By.tk 10 ?_
      refine By.tk 11 ?_
      clear hS
      refine wpAnyT_two (i := 0) (j := 12) (by kernel_rfl) rfl rfl (fun K hK => ?_) (fun K hK => ?_)
      · go_simp
        have b1 := on HBD.out (al wD (.cells #[] 89))
        have o1 : Own (wD.alloc (.cells #[] 89)) w4.heap.size 89 6 enU (.slice (some ⟨wD.heap.size, 0, none⟩) 0 0) [] := Own.empty wD HBD.out.size _ _ _
        refine hK.out _ _ (fun _ => HS4.out _ b1) ?_
        clear hK K
        refine wpAnyT_two (i := 4) (j := 12) (by kernel_rfl) rfl rfl (fun K hK => ?_) (fun K hK => ?_)
        · obtain ⟨y, cy, w5, hap4, o2, t2⟩ := app_all urow (HO.out.s.u.below (on HB4.out b1)) o1 b1.size
          have b2 := b1.trans (t2.below (fun q hq => (World.ownsRow.lt o1 q hq).1) b1.size)
          refine st_append rfl _ _ 24 rfl _ _ rfl rfl hap4 ?_
          (try simp only [Act.put, List.getElem_toArray, List.getElem_cons_succ, List.getElem_cons_zero, List.setIfInBounds_toArray, List.set_cons_zero, List.set_cons_succ])
          refine hK.out _ _ (fun _ => HS4.out _ b2) ?_
          clear hK K
          have b3 := on b2 (al w5 (.cells #[.int .i64 e.seq, .string e.nm, .bool ok, .int .i64 was.sz, .slice was.x was.n was.c, .int .u32 was.sum] 89))
          have l3 := heap_alloc_new w5 (.cells #[.int .i64 e.seq, .string e.nm, .bool ok, .int .i64 was.sz, .slice was.x was.n was.c, .int .u32 was.sum] 89)
          have o3 := o2.below (al w5 (.cells #[.int .i64 e.seq, .string e.nm, .bool ok, .int .i64 was.sz, .slice was.x was.n was.c, .int .u32 was.sum] 89))
          refine wpAnyT_one (i := 12) (by kernel_rfl) rfl (fun K hK => ?_)
          go_simp
          refine hK.out _ _ (fun _ => HS4.out _ b3) ?_
          clear hK K
          obtain ⟨z, cz, w6, hap5, o4, t4⟩ := app_one (a := (⟨e.seq, e.nm, ok, was⟩ : UV)) urow o3 b3.size l3 rfl (by have := HSm.out.2.2; omega)
          have b4 := b3.trans (t4.below (fun q hq => (World.ownsRow.lt o3 q hq).1) b3.size)
          refine wpAnyT_one (i := 13) (by kernel_rfl) rfl (fun K hK => ?_)
          refine st_append rfl _ _ 24 rfl _ _ rfl rfl hap5 ?_
          (try simp only [Act.put, List.getElem_toArray, List.getElem_cons_succ, List.getElem_cons_zero, List.setIfInBounds_toArray, List.set_cons_zero, List.set_cons_succ])
          refine hK.out _ _ (fun _ => HS4.out _ b4) ?_
          clear hK K
          have hg8 := (b4.block p HP4.out).trans HG4.out
          have q8 := cell_heap (j := 5) hg8 rfl
          have f8 := fr_heap hg8 5
          have HFin := hid (And.intro hg8 (And.intro o4 b4))
          clear hap4 hap5 o1 o2 o3 o4 t2 t4 b1 b2 b3 b4 l3 hg8
          refine wpAnyT_one (i := 14) (by kernel_rfl) rfl (fun K hK => ?_)
          go_simp
          refine hK.out _ _ (fun h => absurd (by decide) h) ?_
          clear hK K
          refine wpAnyT_one (i := 15) (by kernel_rfl) rfl (fun K hK => ?_)
          go_simp
          refine hK.out _ _ (fun h => absurd (by decide) h) ?_
          clear hK K
          refine wpAnyT_one (i := 16) (by kernel_rfl) rfl (fun K hK => ?_)
          go_simp
          refine hK.out _ _ (fun h => absurd (by decide) h) ?_
          clear hK K
          refine wpAnyT_done (by kernel_rfl) ?_ _
          clear q8 f8
          go_wp2_with fail
          go_meet
          case rel => exact ⟨_, _, (heap_set HFin.out.1 _).trans (by first | rfl | (unfold HCells; rfl)), HFin.out.2.1.turns (turns_put (j := 5) (Turns.refl (fun k => k = p) _) _) (fun q hq e => by have := (World.ownsRow.lt HFin.out.2.1 q hq).1; have := HP4.out; omega), (Turns.of_below HFin.out.2.2).trans (turns_put (j := 5) (Turns.refl (fun k => k = p) _) _)⟩
        · go_simp
          have b2 := on b1 (al (wD.alloc (.cells #[] 89)) (.cells #[.int .i64 e.seq, .string e.nm, .bool ok, .int .i64 was.sz, .slice was.x was.n was.c, .int .u32 was.sum] 89))
          have l2 := heap_alloc_new (wD.alloc (.cells #[] 89)) (.cells #[.int .i64 e.seq, .string e.nm, .bool ok, .int .i64 was.sz, .slice was.x was.n was.c, .int .u32 was.sum] 89)
          rw [show (wD.alloc (.cells #[] 89)).heap.size = wD.heap.size + 1 by simp] at l2
          have o2 := o1.below (al (wD.alloc (.cells #[] 89)) (.cells #[.int .i64 e.seq, .string e.nm, .bool ok, .int .i64 was.sz, .slice was.x was.n was.c, .int .u32 was.sum] 89))
          obtain ⟨y, cy, w5, hap4, o3, t3⟩ := app_all urow (HO.out.s.u.below (on HB4.out b2)) o2 b2.size
          have b3 := b2.trans (t3.below (fun q hq => (World.ownsRow.lt o2 q hq).1) b2.size)
          refine hK.out _ _ (fun _ => HS4.out _ b2) ?_
          clear hK K
          refine wpAnyT_one (i := 4) (by kernel_rfl) rfl (fun K hK => ?_)
          refine st_append rfl _ _ 24 rfl _ _ rfl rfl hap4 ?_
          (try simp only [Act.put, List.getElem_toArray, List.getElem_cons_succ, List.getElem_cons_zero, List.setIfInBounds_toArray, List.set_cons_zero, List.set_cons_succ])
          refine hK.out _ _ (fun _ => HS4.out _ b3) ?_
          clear hK K
          have l3 := (t3.block _ (lt_heap l2) (fun e => by simp [Value.ownBlock] at e)).trans l2
          obtain ⟨z, cz, w6, hap5, o4, t4⟩ := app_one (a := (⟨e.seq, e.nm, ok, was⟩ : UV)) urow o3 b3.size l3 rfl (by have := HSm.out.2.2; omega)
          have b4 := b3.trans (t4.below (fun q hq => (World.ownsRow.lt o3 q hq).1) b3.size)
          refine wpAnyT_one (i := 13) (by kernel_rfl) rfl (fun K hK => ?_)
          refine st_append rfl _ _ 24 rfl _ _ rfl rfl hap5 ?_
          (try simp only [Act.put, List.getElem_toArray, List.getElem_cons_succ, List.getElem_cons_zero, List.setIfInBounds_toArray, List.set_cons_zero, List.set_cons_succ])
          refine hK.out _ _ (fun _ => HS4.out _ b4) ?_
          clear hK K
          have hg8 := (b4.block p HP4.out).trans HG4.out
          have q8 := cell_heap (j := 5) hg8 rfl
          have f8 := fr_heap hg8 5
          have HFin := hid (And.intro hg8 (And.intro o4 b4))
          clear hap4 hap5 o1 o2 o3 o4 t3 t4 b1 b2 b3 b4 l2 l3 hg8
          refine wpAnyT_one (i := 14) (by kernel_rfl) rfl (fun K hK => ?_)
          go_simp
          refine hK.out _ _ (fun h => absurd (by decide) h) ?_
          clear hK K
          refine wpAnyT_one (i := 15) (by kernel_rfl) rfl (fun K hK => ?_)
          go_simp
          refine hK.out _ _ (fun h => absurd (by decide) h) ?_
          clear hK K
          refine wpAnyT_one (i := 16) (by kernel_rfl) rfl (fun K hK => ?_)
          go_simp
          refine hK.out _ _ (fun h => absurd (by decide) h) ?_
          clear hK K
          refine wpAnyT_done (by kernel_rfl) ?_ _
          clear q8 f8
          go_wp2_with fail
          go_meet
          case rel => exact ⟨_, _, (heap_set HFin.out.1 _).trans (by first | rfl | (unfold HCells; rfl)), HFin.out.2.1.turns (turns_put (j := 5) (Turns.refl (fun k => k = p) _) _) (fun q hq e => by have := (World.ownsRow.lt HFin.out.2.1 q hq).1; have := HP4.out; omega), (Turns.of_below HFin.out.2.2).trans (turns_put (j := 5) (Turns.refl (fun k => k = p) _) _)⟩
      · go_simp
        have b1 := on HBD.out (al wD (.cells #[.int .i64 e.seq, .string e.nm, .bool ok, .int .i64 was.sz, .slice was.x was.n was.c, .int .u32 was.sum] 89))
        have l1 := heap_alloc_new wD (.cells #[.int .i64 e.seq, .string e.nm, .bool ok, .int .i64 was.sz, .slice was.x was.n was.c, .int .u32 was.sum] 89)
        refine hK.out _ _ (fun _ => HS4.out _ b1) ?_
        clear hK K
        have b2 := on b1 (al (wD.alloc (.cells #[.int .i64 e.seq, .string e.nm, .bool ok, .int .i64 was.sz, .slice was.x was.n was.c, .int .u32 was.sum] 89)) (.cells #[] 89))
        have l2 := ((al (wD.alloc (.cells #[.int .i64 e.seq, .string e.nm, .bool ok, .int .i64 was.sz, .slice was.x was.n was.c, .int .u32 was.sum] 89)) (.cells #[] 89)).block _ (lt_heap l1)).trans l1
        have o2 : Own ((wD.alloc (.cells #[.int .i64 e.seq, .string e.nm, .bool ok, .int .i64 was.sz, .slice was.x was.n was.c, .int .u32 was.sum] 89)).alloc (.cells #[] 89)) w4.heap.size 89 6 enU (.slice (some ⟨wD.heap.size + 1, 0, none⟩) 0 0) [] := by have := Own.empty (wD.alloc (.cells #[.int .i64 e.seq, .string e.nm, .bool ok, .int .i64 was.sz, .slice was.x was.n was.c, .int .u32 was.sum] 89)) b1.size 89 6 enU; rw [show (wD.alloc (.cells #[.int .i64 e.seq, .string e.nm, .bool ok, .int .i64 was.sz, .slice was.x was.n was.c, .int .u32 was.sum] 89)).heap.size = wD.heap.size + 1 by simp] at this; exact this
        refine wpAnyT_one (i := 0) (by kernel_rfl) rfl (fun K hK => ?_)
        go_simp
        obtain ⟨y, cy, w5, hap4, o3, t3⟩ := app_all urow (HO.out.s.u.below (on HB4.out b2)) o2 b2.size
        have b3 := b2.trans (t3.below (fun q hq => (World.ownsRow.lt o2 q hq).1) b2.size)
        refine hK.out _ _ (fun _ => HS4.out _ b2) ?_
        clear hK K
        refine wpAnyT_one (i := 4) (by kernel_rfl) rfl (fun K hK => ?_)
        refine st_append rfl _ _ 24 rfl _ _ rfl rfl hap4 ?_
        (try simp only [Act.put, List.getElem_toArray, List.getElem_cons_succ, List.getElem_cons_zero, List.setIfInBounds_toArray, List.set_cons_zero, List.set_cons_succ])
        refine hK.out _ _ (fun _ => HS4.out _ b3) ?_
        clear hK K
        have l3 := (t3.block _ (lt_heap l2) (fun e => by simp [Value.ownBlock] at e)).trans l2
        obtain ⟨z, cz, w6, hap5, o4, t4⟩ := app_one (a := (⟨e.seq, e.nm, ok, was⟩ : UV)) urow o3 b3.size l3 rfl (by have := HSm.out.2.2; omega)
        have b4 := b3.trans (t4.below (fun q hq => (World.ownsRow.lt o3 q hq).1) b3.size)
        refine wpAnyT_one (i := 13) (by kernel_rfl) rfl (fun K hK => ?_)
        refine st_append rfl _ _ 24 rfl _ _ rfl rfl hap5 ?_
        (try simp only [Act.put, List.getElem_toArray, List.getElem_cons_succ, List.getElem_cons_zero, List.setIfInBounds_toArray, List.set_cons_zero, List.set_cons_succ])
        refine hK.out _ _ (fun _ => HS4.out _ b4) ?_
        clear hK K
        have hg8 := (b4.block p HP4.out).trans HG4.out
        have q8 := cell_heap (j := 5) hg8 rfl
        have f8 := fr_heap hg8 5
        have HFin := hid (And.intro hg8 (And.intro o4 b4))
        clear hap4 hap5 o2 o3 o4 t3 t4 b1 b2 b3 b4 l1 l2 l3 hg8
        refine wpAnyT_one (i := 14) (by kernel_rfl) rfl (fun K hK => ?_)
        go_simp
        refine hK.out _ _ (fun h => absurd (by decide) h) ?_
        clear hK K
        refine wpAnyT_one (i := 15) (by kernel_rfl) rfl (fun K hK => ?_)
        go_simp
        refine hK.out _ _ (fun h => absurd (by decide) h) ?_
        clear hK K
        refine wpAnyT_one (i := 16) (by kernel_rfl) rfl (fun K hK => ?_)
        go_simp
        refine hK.out _ _ (fun h => absurd (by decide) h) ?_
        clear hK K
        refine wpAnyT_done (by kernel_rfl) ?_ _
        clear q8 f8
        go_wp2_with fail
        go_meet
        case rel => exact ⟨_, _, (heap_set HFin.out.1 _).trans (by first | rfl | (unfold HCells; rfl)), HFin.out.2.1.turns (turns_put (j := 5) (Turns.refl (fun k => k = p) _) _) (fun q hq e => by have := (World.ownsRow.lt HFin.out.2.1 q hq).1; have := HP4.out; omega), (Turns.of_below HFin.out.2.2).trans (turns_put (j := 5) (Turns.refl (fun k => k = p) _) _)⟩
    case rest =>
      obtain ⟨w9, hw9⟩ : ∃ w9, w9 = wc := ⟨wc, rfl⟩
      subst hw9
      obtain ⟨x', c', hg5, o5, t5⟩ := hcut.out
      clear hcut HS4
      have HG5 := hid hg5
      have HP5 := hid (lt_heap hg5)
      have HO5 := hid o5
      have bp5 : Below p w4 w9 := t5.below (fun q e => by omega) (Nat.le_of_lt HP4.out)
      have hF2p : ∀ q, (((F q ∨ G q) ∧ q < w.heap.size) ∨ (w1.heap.size ≤ q ∧ q < p)) → ¬ q = p := fun q hq e => by
        rcases hq with h | h
        · have := h.2; have := HPz.out.2; have := HSz.out; omega
        · omega
      have HF2p := hid hF2p
      have HOc := hid (HAt.keeps (HO.out.below HB4.out) (.turns t5 hF2p))
      have HWc := hid (CAt.weak (SlF.keeps HWas.out.1 (.turns t5 hF2p)) (fun q hq => hq))
      have HB5 := hid ((on HB2.out HB4.out).trans (bp5.mono HPz.out.2))
      have HS5 : Hid (∀ W, Below w9.heap.size w9 W → W.cell? ⟨p, 4, none⟩ = some (.slice u.now.x2 u.now.n2 u.now.c2) ∧ W.cell? ⟨w.heap.size + 1, 0, none⟩ = some (.int .i64 e.seq) ∧ W.cell? ⟨w.heap.size + 1, 1, none⟩ = some (.int .i64 e.cl) ∧ W.cell? ⟨w.heap.size + 1, 2, none⟩ = some (.int .i64 e.ks) ∧ W.cell? ⟨w.heap.size + 1, 3, none⟩ = some (.string e.nm) ∧ W.cell? ⟨w.heap.size + 1, 4, none⟩ = some (.int .i64 e.code) ∧ W.cell? ⟨w.heap.size + 1, 5, none⟩ = some (.bool e.gone) ∧ W.cell? ⟨w.heap.size + 1, 6, none⟩ = some (.int .i64 e.sz)) := hid fun W hW => by
        exact ⟨keep hW (cell_heap HG5.out rfl), HKe.out W (on HB5.out hW)⟩
      clear hg5 o5 t5 bp5 hF2p
      go_upto_region 15 with (fail)
      go_cut [] (fun wc => Hid (∃ y' d', wc.heap[p]? = some (.cells #[.int .i64 u.fe, .int .i64 u.now.pl, .int .i64 u.now.si, .slice u.now.x1 u.now.n1 u.now.c1, .slice y' (u.now.E.length + 1) d', .slice x' (u.now.U.length + 1) c', .slice u.x u.n u.c] 29 (0, 0)) ∧ Own wc w9.heap.size 67 7 enE (.slice y' (u.now.E.length + 1) d') (u.now.E ++ [e]) ∧ Turns (fun k => k = p) w9 wc))
      case first =>
        have bD : Below w9.heap.size w9 w9.drew := (Below.refl _ _).drew
        have S1 := HS5.out _ bD
        refine wp_region_tail (fun W => W.cell? ⟨p, 4, none⟩ = some (.slice u.now.x2 u.now.n2 u.now.c2) ∧ W.cell? ⟨w.heap.size + 1, 0, none⟩ = some (.int .i64 e.seq) ∧ W.cell? ⟨w.heap.size + 1, 1, none⟩ = some (.int .i64 e.cl) ∧ W.cell? ⟨w.heap.size + 1, 2, none⟩ = some (.int .i64 e.ks) ∧ W.cell? ⟨w.heap.size + 1, 3, none⟩ = some (.string e.nm) ∧ W.cell? ⟨w.heap.size + 1, 4, none⟩ = some (.int .i64 e.code) ∧ W.cell? ⟨w.heap.size + 1, 5, none⟩ = some (.bool e.gone) ∧ W.cell? ⟨w.heap.size + 1, 6, none⟩ = some (.int .i64 e.sz)) [8, 9, 10] (by kernel_rfl) S1 (fun hS => ?_)
        have HBD := hid bD
        clear S1 bD
        generalize w9.drew = wD at *
        refine By.tk 1 ?_
        refine By.tk 2 ?_
        refine By.tk 3 ?_
        refine By.tk 5 ?_
        clear hS
        refine wpAnyT_two (i := 0) (j := 6) (by kernel_rfl) rfl rfl (fun K hK => ?_) (fun K hK => ?_)
        · go_simp
          have b1 := on HBD.out (al wD (.cells #[] 67))
          have o1 : Own (wD.alloc (.cells #[] 67)) w9.heap.size 67 7 enE (.slice (some ⟨wD.heap.size, 0, none⟩) 0 0) [] := Own.empty wD HBD.out.size _ _ _
          refine hK.out _ _ (fun _ => HS5.out _ b1) ?_
          clear hK K
          refine wpAnyT_two (i := 4) (j := 6) (by kernel_rfl) rfl rfl (fun K hK => ?_) (fun K hK => ?_)
          · obtain ⟨y, cy, w5, hap4, o2, t2⟩ := app_all erow (HOc.out.s.e.below b1) o1 b1.size
            have b2 := b1.trans (t2.below (fun q hq => (World.ownsRow.lt o1 q hq).1) b1.size)
            refine st_append rfl _ _ 23 rfl _ _ rfl rfl hap4 ?_
            (try simp only [Act.put, List.getElem_toArray, List.getElem_cons_succ, List.getElem_cons_zero, List.setIfInBounds_toArray, List.set_cons_zero, List.set_cons_succ])
            refine hK.out _ _ (fun _ => HS5.out _ b2) ?_
            clear hK K
            have b3 := on b2 (al w5 (.cells #[.int .i64 e.seq, .int .i64 e.cl, .int .i64 e.ks, .string e.nm, .int .i64 e.code, .bool e.gone, .int .i64 e.sz] 67))
            have l3 := heap_alloc_new w5 (.cells #[.int .i64 e.seq, .int .i64 e.cl, .int .i64 e.ks, .string e.nm, .int .i64 e.code, .bool e.gone, .int .i64 e.sz] 67)
            have o3 := o2.below (al w5 (.cells #[.int .i64 e.seq, .int .i64 e.cl, .int .i64 e.ks, .string e.nm, .int .i64 e.code, .bool e.gone, .int .i64 e.sz] 67))
            refine wpAnyT_one (i := 6) (by kernel_rfl) rfl (fun K hK => ?_)
            go_simp
            refine hK.out _ _ (fun _ => HS5.out _ b3) ?_
            clear hK K
            obtain ⟨z, cz, w6, hap5, o4, t4⟩ := app_one (a := e) erow o3 b3.size l3 rfl (by have := HSm.out.2.1; omega)
            have b4 := b3.trans (t4.below (fun q hq => (World.ownsRow.lt o3 q hq).1) b3.size)
            refine wpAnyT_one (i := 7) (by kernel_rfl) rfl (fun K hK => ?_)
            refine st_append rfl _ _ 23 rfl _ _ rfl rfl hap5 ?_
            (try simp only [Act.put, List.getElem_toArray, List.getElem_cons_succ, List.getElem_cons_zero, List.setIfInBounds_toArray, List.set_cons_zero, List.set_cons_succ])
            refine hK.out _ _ (fun _ => HS5.out _ b4) ?_
            clear hK K
            have hg8 := (b4.block p HP5.out).trans HG5.out
            have q8 := cell_heap (j := 4) hg8 rfl
            have f8 := fr_heap hg8 4
            have HFin := hid (And.intro hg8 (And.intro o4 b4))
            clear hap4 hap5 o1 o2 o3 o4 t2 t4 b1 b2 b3 b4 l3 hg8
            refine wpAnyT_one (i := 8) (by kernel_rfl) rfl (fun K hK => ?_)
            go_simp
            refine hK.out _ _ (fun h => absurd (by decide) h) ?_
            clear hK K
            refine wpAnyT_one (i := 9) (by kernel_rfl) rfl (fun K hK => ?_)
            go_simp
            refine hK.out _ _ (fun h => absurd (by decide) h) ?_
            clear hK K
            refine wpAnyT_one (i := 10) (by kernel_rfl) rfl (fun K hK => ?_)
            go_simp
            refine hK.out _ _ (fun h => absurd (by decide) h) ?_
            clear hK K
            refine wpAnyT_done (by kernel_rfl) ?_ _
            clear q8 f8
            go_wp2_with fail
            go_meet
            case rel => exact ⟨_, _, (heap_set HFin.out.1 _).trans (by first | rfl | (unfold HCells; rfl)), HFin.out.2.1.turns (turns_put (j := 4) (Turns.refl (fun k => k = p) _) _) (fun q hq e => by have := (World.ownsRow.lt HFin.out.2.1 q hq).1; have := HP5.out; omega), (Turns.of_below HFin.out.2.2).trans (turns_put (j := 4) (Turns.refl (fun k => k = p) _) _)⟩
          · go_simp
            have b2 := on b1 (al (wD.alloc (.cells #[] 67)) (.cells #[.int .i64 e.seq, .int .i64 e.cl, .int .i64 e.ks, .string e.nm, .int .i64 e.code, .bool e.gone, .int .i64 e.sz] 67))
            have l2 := heap_alloc_new (wD.alloc (.cells #[] 67)) (.cells #[.int .i64 e.seq, .int .i64 e.cl, .int .i64 e.ks, .string e.nm, .int .i64 e.code, .bool e.gone, .int .i64 e.sz] 67)
            rw [show (wD.alloc (.cells #[] 67)).heap.size = wD.heap.size + 1 by simp] at l2
            have o2 := o1.below (al (wD.alloc (.cells #[] 67)) (.cells #[.int .i64 e.seq, .int .i64 e.cl, .int .i64 e.ks, .string e.nm, .int .i64 e.code, .bool e.gone, .int .i64 e.sz] 67))
            obtain ⟨y, cy, w5, hap4, o3, t3⟩ := app_all erow (HOc.out.s.e.below b2) o2 b2.size
            have b3 := b2.trans (t3.below (fun q hq => (World.ownsRow.lt o2 q hq).1) b2.size)
            refine hK.out _ _ (fun _ => HS5.out _ b2) ?_
            clear hK K
            refine wpAnyT_one (i := 4) (by kernel_rfl) rfl (fun K hK => ?_)
            refine st_append rfl _ _ 23 rfl _ _ rfl rfl hap4 ?_
            (try simp only [Act.put, List.getElem_toArray, List.getElem_cons_succ, List.getElem_cons_zero, List.setIfInBounds_toArray, List.set_cons_zero, List.set_cons_succ])
            refine hK.out _ _ (fun _ => HS5.out _ b3) ?_
            clear hK K
            have l3 := (t3.block _ (lt_heap l2) (fun e => by simp [Value.ownBlock] at e)).trans l2
            obtain ⟨z, cz, w6, hap5, o4, t4⟩ := app_one (a := e) erow o3 b3.size l3 rfl (by have := HSm.out.2.1; omega)
            have b4 := b3.trans (t4.below (fun q hq => (World.ownsRow.lt o3 q hq).1) b3.size)
            refine wpAnyT_one (i := 7) (by kernel_rfl) rfl (fun K hK => ?_)
            refine st_append rfl _ _ 23 rfl _ _ rfl rfl hap5 ?_
            (try simp only [Act.put, List.getElem_toArray, List.getElem_cons_succ, List.getElem_cons_zero, List.setIfInBounds_toArray, List.set_cons_zero, List.set_cons_succ])
            refine hK.out _ _ (fun _ => HS5.out _ b4) ?_
            clear hK K
            have hg8 := (b4.block p HP5.out).trans HG5.out
            have q8 := cell_heap (j := 4) hg8 rfl
            have f8 := fr_heap hg8 4
            have HFin := hid (And.intro hg8 (And.intro o4 b4))
            clear hap4 hap5 o1 o2 o3 o4 t3 t4 b1 b2 b3 b4 l2 l3 hg8
            refine wpAnyT_one (i := 8) (by kernel_rfl) rfl (fun K hK => ?_)
            go_simp
            refine hK.out _ _ (fun h => absurd (by decide) h) ?_
            clear hK K
            refine wpAnyT_one (i := 9) (by kernel_rfl) rfl (fun K hK => ?_)
            go_simp
            refine hK.out _ _ (fun h => absurd (by decide) h) ?_
            clear hK K
            refine wpAnyT_one (i := 10) (by kernel_rfl) rfl (fun K hK => ?_)
            go_simp
            refine hK.out _ _ (fun h => absurd (by decide) h) ?_
            clear hK K
            refine wpAnyT_done (by kernel_rfl) ?_ _
            clear q8 f8
            go_wp2_with fail
            go_meet
            case rel => exact ⟨_, _, (heap_set HFin.out.1 _).trans (by first | rfl | (unfold HCells; rfl)), HFin.out.2.1.turns (turns_put (j := 4) (Turns.refl (fun k => k = p) _) _) (fun q hq e => by have := (World.ownsRow.lt HFin.out.2.1 q hq).1; have := HP5.out; omega), (Turns.of_below HFin.out.2.2).trans (turns_put (j := 4) (Turns.refl (fun k => k = p) _) _)⟩
        · go_simp
          have b1 := on HBD.out (al wD (.cells #[.int .i64 e.seq, .int .i64 e.cl, .int .i64 e.ks, .string e.nm, .int .i64 e.code, .bool e.gone, .int .i64 e.sz] 67))
          have l1 := heap_alloc_new wD (.cells #[.int .i64 e.seq, .int .i64 e.cl, .int .i64 e.ks, .string e.nm, .int .i64 e.code, .bool e.gone, .int .i64 e.sz] 67)
          refine hK.out _ _ (fun _ => HS5.out _ b1) ?_
          clear hK K
          have b2 := on b1 (al (wD.alloc (.cells #[.int .i64 e.seq, .int .i64 e.cl, .int .i64 e.ks, .string e.nm, .int .i64 e.code, .bool e.gone, .int .i64 e.sz] 67)) (.cells #[] 67))
          have l2 := ((al (wD.alloc (.cells #[.int .i64 e.seq, .int .i64 e.cl, .int .i64 e.ks, .string e.nm, .int .i64 e.code, .bool e.gone, .int .i64 e.sz] 67)) (.cells #[] 67)).block _ (lt_heap l1)).trans l1
          have o2 : Own ((wD.alloc (.cells #[.int .i64 e.seq, .int .i64 e.cl, .int .i64 e.ks, .string e.nm, .int .i64 e.code, .bool e.gone, .int .i64 e.sz] 67)).alloc (.cells #[] 67)) w9.heap.size 67 7 enE (.slice (some ⟨wD.heap.size + 1, 0, none⟩) 0 0) [] := by have := Own.empty (wD.alloc (.cells #[.int .i64 e.seq, .int .i64 e.cl, .int .i64 e.ks, .string e.nm, .int .i64 e.code, .bool e.gone, .int .i64 e.sz] 67)) b1.size 67 7 enE; rw [show (wD.alloc (.cells #[.int .i64 e.seq, .int .i64 e.cl, .int .i64 e.ks, .string e.nm, .int .i64 e.code, .bool e.gone, .int .i64 e.sz] 67)).heap.size = wD.heap.size + 1 by simp] at this; exact this
          refine wpAnyT_one (i := 0) (by kernel_rfl) rfl (fun K hK => ?_)
          go_simp
          obtain ⟨y, cy, w5, hap4, o3, t3⟩ := app_all erow (HOc.out.s.e.below b2) o2 b2.size
          have b3 := b2.trans (t3.below (fun q hq => (World.ownsRow.lt o2 q hq).1) b2.size)
          refine hK.out _ _ (fun _ => HS5.out _ b2) ?_
          clear hK K
          refine wpAnyT_one (i := 4) (by kernel_rfl) rfl (fun K hK => ?_)
          refine st_append rfl _ _ 23 rfl _ _ rfl rfl hap4 ?_
          (try simp only [Act.put, List.getElem_toArray, List.getElem_cons_succ, List.getElem_cons_zero, List.setIfInBounds_toArray, List.set_cons_zero, List.set_cons_succ])
          refine hK.out _ _ (fun _ => HS5.out _ b3) ?_
          clear hK K
          have l3 := (t3.block _ (lt_heap l2) (fun e => by simp [Value.ownBlock] at e)).trans l2
          obtain ⟨z, cz, w6, hap5, o4, t4⟩ := app_one (a := e) erow o3 b3.size l3 rfl (by have := HSm.out.2.1; omega)
          have b4 := b3.trans (t4.below (fun q hq => (World.ownsRow.lt o3 q hq).1) b3.size)
          refine wpAnyT_one (i := 7) (by kernel_rfl) rfl (fun K hK => ?_)
          refine st_append rfl _ _ 23 rfl _ _ rfl rfl hap5 ?_
          (try simp only [Act.put, List.getElem_toArray, List.getElem_cons_succ, List.getElem_cons_zero, List.setIfInBounds_toArray, List.set_cons_zero, List.set_cons_succ])
          refine hK.out _ _ (fun _ => HS5.out _ b4) ?_
          clear hK K
          have hg8 := (b4.block p HP5.out).trans HG5.out
          have q8 := cell_heap (j := 4) hg8 rfl
          have f8 := fr_heap hg8 4
          have HFin := hid (And.intro hg8 (And.intro o4 b4))
          clear hap4 hap5 o2 o3 o4 t3 t4 b1 b2 b3 b4 l1 l2 l3 hg8
          refine wpAnyT_one (i := 8) (by kernel_rfl) rfl (fun K hK => ?_)
          go_simp
          refine hK.out _ _ (fun h => absurd (by decide) h) ?_
          clear hK K
          refine wpAnyT_one (i := 9) (by kernel_rfl) rfl (fun K hK => ?_)
          go_simp
          refine hK.out _ _ (fun h => absurd (by decide) h) ?_
          clear hK K
          refine wpAnyT_one (i := 10) (by kernel_rfl) rfl (fun K hK => ?_)
          go_simp
          refine hK.out _ _ (fun h => absurd (by decide) h) ?_
          clear hK K
          refine wpAnyT_done (by kernel_rfl) ?_ _
          clear q8 f8
          go_wp2_with fail
          go_meet
          case rel => exact ⟨_, _, (heap_set HFin.out.1 _).trans (by first | rfl | (unfold HCells; rfl)), HFin.out.2.1.turns (turns_put (j := 4) (Turns.refl (fun k => k = p) _) _) (fun q hq e => by have := (World.ownsRow.lt HFin.out.2.1 q hq).1; have := HP5.out; omega), (Turns.of_below HFin.out.2.2).trans (turns_put (j := 4) (Turns.refl (fun k => k = p) _) _)⟩
      case rest =>
        obtain ⟨y', d', hg6, o6, t6⟩ := hcut.out
        clear hcut HS5
        have HG6 := hid hg6
        have HO6 := hid o6
        have HU6 := hid (HO5.out.turns t6 (fun q hq e => by have := (World.ownsRow.lt HO5.out q hq).1; have := HP4.out; omega))
        have HOi := hid (HAt.keeps HOc.out (.turns t6 HF2p.out))
        have HWi := hid (SlF.keeps HWc.out (.turns t6 HF2p.out))
        have bp6 : Below p w9 wc := t6.below (fun q e => by omega) (Nat.le_of_lt HP5.out)
        have HB6 := hid (HB5.out.trans (bp6.mono HPz.out.2))
        have HEq := hid (do_is (v := u.now) (e := e) (c := c) HOK.out HWas.out.2)
        have HPs := hid (show p < wc.heap.size from lt_heap hg6)
        clear o6 t6 bp6
        obtain ⟨e0, e1, e2, e3, e4, e5, e6⟩ := HKe.out wc HB6.out
        by_cases hcode : e.code = 0
        · have hcb : (e.code == 0) = true := by simp [hcode]
          have HCd := hid hcode
          have hset := rset_any e.nm (!e.gone) c HOi.out.s.i (by have := HOi.out.s.i.len; have := HSm.out.1; omega)
          unfold vC at hset
          obtain ⟨c0, c1, c2⟩ := HKc.out wc HB6.out
          have k3 := cell_heap (j := 3) hg6 rfl
          clear hcode hg6
          go_upto_region 18 with (go_at_call 55; refine hset.mono ?_; rintro r w7 ⟨y, cy, L', rfl, H7⟩; have hg7 := (H7.out.2.2.2.2.block p HPs.out).trans HG6.out; have HG7 := hid hg7; have m3 := cell_heap (j := 3) hg7 rfl; have fm3 := fr_heap hg7 3; clear hg7 hset k3 c0 c1 c2 e0 e1 e2 e3 e4 e5 e6)
          obtain ⟨uX, huX⟩ : ∃ uX : HV, uX = ⟨u.fe, ⟨u.now.pl, u.now.si, y, L'.length, cy, L', y', u.now.E.length + 1, d', u.now.E ++ [e], x', u.now.U.length + 1, c', u.now.U ++ [⟨e.seq, e.nm, ok, was⟩]⟩, u.x, u.n, u.c, u.N⟩ := ⟨_, rfl⟩
          have hgX : (w7.setCell ⟨p, 3, none⟩ (.slice y L'.length cy)).heap[p]? = some (.cells (HCells uX) 29 (0, 0)) := (heap_set HG7.out _).trans (by rw [huX]; unfold HCells; rfl)
          have tX := turns_put (j := 3) (Turns.refl (fun k => k = p) w7) (.slice y L'.length cy)
          generalize w7.setCell ⟨p, 3, none⟩ (.slice y L'.length cy) = wX at *
          have HUX := hid huX
          have ttX : Turns (fun k => k = p) wc wX := (Turns.of_below H7.out.2.2.2.2).trans tX
          have hB1X : Below w1.heap.size w1 wX := HB6.out.trans (ttX.below (fun q e => by have := HPz.out.2; omega) HB6.out.size)
          have hkX : Keeps (fun q => ((F q ∨ G q) ∧ q < w.heap.size) ∨ (w1.heap.size ≤ q ∧ q < p)) wc wX := .turns ttX HF2p.out
          have oEX := HO6.out.turns ttX (fun q hq e => by have := (World.ownsRow.lt HO6.out q hq).1; have := HP5.out; omega)
          have oUX := HU6.out.turns ttX (fun q hq e => by have := (World.ownsRow.lt HU6.out q hq).1; have := HP4.out; omega)
          have HOI := hid (And.intro (H7.out.1.turns tX (fun q hq e => by have := (World.ownsRow.lt H7.out.1 q hq).1; have := HPs.out; omega)) (And.intro H7.out.2.2.1 H7.out.2.2.2.1))
          clear huX tX ttX m3 fm3
          obtain ⟨k0, k1, k2, k3, k4, k5, k6⟩ := hcells hgX
          have gr := HKr.out wX hB1X
          have b0 := cell_heap gr (j := 0) rfl
          have fb0 := fr_heap gr 0
          have b1 := cell_heap gr (j := 1) rfl
          have fb1 := fr_heap gr 1
          have b2 := cell_heap gr (j := 2) rfl
          have fb2 := fr_heap gr 2
          have b3 := cell_heap gr (j := 3) rfl
          have fb3 := fr_heap gr 3
          have b4 := cell_heap gr (j := 4) rfl
          have fb4 := fr_heap gr 4
          have b5 := cell_heap gr (j := 5) rfl
          have fb5 := fr_heap gr 5
          have b6 := cell_heap gr (j := 6) rfl
          have fb6 := fr_heap gr 6
          clear gr
          have HX := hid (And.intro hB1X (And.intro hkX (And.intro oEX oUX)))
          clear hgX hB1X hkX oEX oUX
          go_wp2_with fail
          refine bodyPost_ret (v := .tuple #[vH uX, .int .i64 0]) ?_ rfl ?_
          · rw [results_cell2 rfl]
            unfold vH
            go_simp
          · rw [HPP.out]
            have F3w : ∀ q, (((F q ∨ G q) ∧ q < w.heap.size) ∨ (w1.heap.size ≤ q ∧ q < p)) → (((F q ∨ G q) ∧ q < w.heap.size) ∨ New w1 wX q) := fun q hq => hq.imp id fun h => ⟨h.1, by have := h.2; have := HPs.out; have := HX.out.2.1.size; omega⟩
            have hu2 := (HAt.keeps HOi.out HX.out.2.1).weak F3w
            have hw2 := CAt.weak (SlF.keeps HWi.out HX.out.2.1) F3w
            have hbE : ∀ B, w1.heap.size ≤ B → ∀ (R : Value), (∀ g, R.ownBlock = some g → B ≤ g ∧ g < wX.heap.size) → ∀ g, R.ownBlock = some g → (((F g ∨ G g) ∧ g < w.heap.size) ∨ New w1 wX g) := fun B hB R hR g hg => .inr ⟨Nat.le_trans hB (hR g hg).1, (hR g hg).2⟩
            refine rtell (F2 := fun q => ((F q ∨ G q) ∧ q < w.heap.size) ∨ New w1 wX q) (r := w.heap.size + 3) HB.out ⟨by omega, by have := HSz.out; omega⟩ HX.out.1 ?_ (fun q hq => hq) ?_ ?_
            · rw [HUX.out]
              refine ⟨⟨?_, ?_, ?_⟩, hu2.n⟩
              · refine own_lis irow HOI.out.1 (show L'.length ≤ 100000000 by have := HOI.out.2.1; have := HSm.out.1; omega) (hbE wc.heap.size (by have := HB6.out.size; omega) _ fun g hg => World.ownsRow.lt HOI.out.1 g hg) fun a ha => ?_
                rcases HOI.out.2.2 a ha with h | h
                · exact hu2.s.i.each a h
                · rw [h]
                  exact ⟨HNm.out, CAt.weak (CAt.below HCl.out (on HB.out HX.out.1)) fun q hq => .inl hq⟩
              · refine own_lis erow HX.out.2.2.1 (by rw [List.length_append, List.length_singleton]; have := HSm.out.2.1; omega) (hbE w9.heap.size (by have := HB5.out.size; omega) _ fun g hg => World.ownsRow.lt HX.out.2.2.1 g hg) fun a ha => ?_
                rcases List.mem_append.1 ha with h | h
                · exact hu2.s.e.each a h
                · rw [List.mem_singleton.1 h]
                  exact HNm.out
              · refine own_lis urow HX.out.2.2.2 (by rw [List.length_append, List.length_singleton]; have := HSm.out.2.2; omega) (hbE w4.heap.size (by have := (on HB2.out HB4.out).size; omega) _ fun g hg => World.ownsRow.lt HX.out.2.2.2 g hg) fun a ha => ?_
                rcases List.mem_append.1 ha with h | h
                · exact hu2.s.u.each a h
                · rw [List.mem_singleton.1 h]
                  exact ⟨HNm.out, hw2⟩
            · repeat (first | with_reducible exact Turns.refl _ _ | with_reducible refine turns_put ?_ _ _)
            · show _ = (⟨u.fe, doE (pS u.now) e (pC c), u.N.map pS⟩ : Hld)
              rw [HEq.out, HUX.out]
              rw [if_pos HCd.out]
              show (⟨u.fe, ⟨u.now.pl, u.now.si, L'.map pI, u.now.E ++ [e], (u.now.U ++ [(⟨e.seq, e.nm, ok, was⟩ : UV)]).map pU⟩, u.N.map pS⟩ : Hld) = _
              rw [H7.out.2.1]
        · have hcb : (e.code == 0) = false := by simp [hcode]
          have HCd := hid hcode
          clear hcode hg6
          obtain ⟨uX, huX⟩ : ∃ uX : HV, uX = ⟨u.fe, ⟨u.now.pl, u.now.si, u.now.x1, u.now.n1, u.now.c1, u.now.I, y', u.now.E.length + 1, d', u.now.E ++ [e], x', u.now.U.length + 1, c', u.now.U ++ [⟨e.seq, e.nm, ok, was⟩]⟩, u.x, u.n, u.c, u.N⟩ := ⟨_, rfl⟩
          have hgX : wc.heap[p]? = some (.cells (HCells uX) 29 (0, 0)) := HG6.out.trans (by rw [huX]; unfold HCells; rfl)
          have HUX := hid huX
          have hB1X := HB6.out
          have hkX : Keeps (fun q => ((F q ∨ G q) ∧ q < w.heap.size) ∨ (w1.heap.size ≤ q ∧ q < p)) wc wc := Keeps.refl _ _
          have oEX := HO6.out
          have oUX := HU6.out
          clear huX
          obtain ⟨k0, k1, k2, k3, k4, k5, k6⟩ := hcells hgX
          have gr := HKr.out wc hB1X
          have b0 := cell_heap gr (j := 0) rfl
          have fb0 := fr_heap gr 0
          have b1 := cell_heap gr (j := 1) rfl
          have fb1 := fr_heap gr 1
          have b2 := cell_heap gr (j := 2) rfl
          have fb2 := fr_heap gr 2
          have b3 := cell_heap gr (j := 3) rfl
          have fb3 := fr_heap gr 3
          have b4 := cell_heap gr (j := 4) rfl
          have fb4 := fr_heap gr 4
          have b5 := cell_heap gr (j := 5) rfl
          have fb5 := fr_heap gr 5
          have b6 := cell_heap gr (j := 6) rfl
          have fb6 := fr_heap gr 6
          clear gr
          have HX := hid (And.intro hB1X (And.intro hkX (And.intro oEX oUX)))
          clear hgX hB1X hkX oEX oUX
          go_wp2_with fail
          refine bodyPost_ret (v := .tuple #[vH uX, .int .i64 0]) ?_ rfl ?_
          · rw [results_cell2 rfl]
            unfold vH
            go_simp
          · rw [HPP.out]
            have F3w : ∀ q, (((F q ∨ G q) ∧ q < w.heap.size) ∨ (w1.heap.size ≤ q ∧ q < p)) → (((F q ∨ G q) ∧ q < w.heap.size) ∨ New w1 wc q) := fun q hq => hq.imp id fun h => ⟨h.1, by have := h.2; have := HPs.out; have := HX.out.2.1.size; omega⟩
            have hu2 := (HAt.keeps HOi.out HX.out.2.1).weak F3w
            have hw2 := CAt.weak (SlF.keeps HWi.out HX.out.2.1) F3w
            have hbE : ∀ B, w1.heap.size ≤ B → ∀ (R : Value), (∀ g, R.ownBlock = some g → B ≤ g ∧ g < wc.heap.size) → ∀ g, R.ownBlock = some g → (((F g ∨ G g) ∧ g < w.heap.size) ∨ New w1 wc g) := fun B hB R hR g hg => .inr ⟨Nat.le_trans hB (hR g hg).1, (hR g hg).2⟩
            refine rtell (F2 := fun q => ((F q ∨ G q) ∧ q < w.heap.size) ∨ New w1 wc q) (r := w.heap.size + 3) HB.out ⟨by omega, by have := HSz.out; omega⟩ HX.out.1 ?_ (fun q hq => hq) ?_ ?_
            · rw [HUX.out]
              refine ⟨⟨?_, ?_, ?_⟩, hu2.n⟩
              · exact hu2.s.i
              · refine own_lis erow HX.out.2.2.1 (by rw [List.length_append, List.length_singleton]; have := HSm.out.2.1; omega) (hbE w9.heap.size (by have := HB5.out.size; omega) _ fun g hg => World.ownsRow.lt HX.out.2.2.1 g hg) fun a ha => ?_
                rcases List.mem_append.1 ha with h | h
                · exact hu2.s.e.each a h
                · rw [List.mem_singleton.1 h]
                  exact HNm.out
              · refine own_lis urow HX.out.2.2.2 (by rw [List.length_append, List.length_singleton]; have := HSm.out.2.2; omega) (hbE w4.heap.size (by have := (on HB2.out HB4.out).size; omega) _ fun g hg => World.ownsRow.lt HX.out.2.2.2 g hg) fun a ha => ?_
                rcases List.mem_append.1 ha with h | h
                · exact hu2.s.u.each a h
                · rw [List.mem_singleton.1 h]
                  exact ⟨HNm.out, hw2⟩
            · repeat (first | with_reducible exact Turns.refl _ _ | with_reducible refine turns_put ?_ _ _)
            · show _ = (⟨u.fe, doE (pS u.now) e (pC c), u.N.map pS⟩ : Hld)
              rw [HEq.out, HUX.out]
              rw [if_neg HCd.out]
              rfl

end Go.Proofs.Ytnfflmndejbepaa.Sh
