/-
  The document's Activate.
  Conditions: the holder lies in memory.
-/
import Derived.Test.YtnfflmndejbepaaJShFil
import Derived.Test.YtnfflmndejbepaaShRAt
import Derived.Test.YtnfflmndejbepaaJShStgP
namespace Go.Proofs.Ytnfflmndejbepaa.Sh
set_option linter.unusedSectionVars false
variable [Inhabited DZ]
open Go.RowKit By Fl
set_option linter.unusedVariables false
set_option linter.unusedSimpArgs false
set_option maxRecDepth 100000

theorem put5at1 {w : World} {g : Nat} {u : HV} (h : w.heap[g]? = some (.cells (HCells u) 29 (0, 0))) (s : SV) : (put5 w g 1 s).heap[g]? = some (.cells (HCells ⟨u.fe, s, u.x, u.n, u.c, u.N⟩) 29 (0, 0)) := by
  unfold put5
  refine (heap_set (heap_set (heap_set (heap_set (heap_set h _) _) _) _) _).trans ?_
  unfold HCells
  rfl

set_option maxHeartbeats 12800000 in
theorem ract_any {w : World} {F : Nat → Prop} {v : HV} (since : Int) (h0 : HAt w F v) :
    Calls Try.prog 34 #[vH v, .int .i64 since] w fun r w' => RTells w F (actP (pH v) since).1 (actP (pH v) since).2 r w' := by
  have h := h0.ltF
  obtain ⟨w1, hw1⟩ : ∃ w1, w1 = (w.alloc (.cells #[.int .i64 v.fe, .int .i64 v.now.pl, .int .i64 v.now.si, .slice v.now.x1 v.now.n1 v.now.c1, .slice v.now.x2 v.now.n2 v.now.c2, .slice v.now.x3 v.now.n3 v.now.c3, .slice v.x v.n v.c] 29)).alloc (.cells #[.int .i64 0, .int .i64 0, .int .i64 0, .slice none 0 0, .slice none 0 0, .slice none 0 0, .slice none 0 0] 29) := ⟨_, rfl⟩
  obtain ⟨bb, hsz, g0, g1⟩ := two_boxes w #[.int .i64 v.fe, .int .i64 v.now.pl, .int .i64 v.now.si, .slice v.now.x1 v.now.n1 v.now.c1, .slice v.now.x2 v.now.n2 v.now.c2, .slice v.now.x3 v.now.n3 v.now.c3, .slice v.x v.n v.c] #[.int .i64 0, .int .i64 0, .int .i64 0, .slice none 0 0, .slice none 0 0, .slice none 0 0, .slice none 0 0] 29
  rw [← hw1] at bb hsz g0 g1
  have hC1 := rask_any since (h.below bb)
  have HCa := hid (fun W (hW : Below w1.heap.size w1 W) => rat_any since (h.below (on bb hW)))
  have HW1 : Hid ((askP (pH v) since).2 ≠ 0 → actP (pH v) since = askP (pH v) since) := hid act_no
  have HW2 : Hid ((askP (pH v) since).2 = 0 → atH (pH v) since = none → actP (pH v) since = (pH v, 4)) := hid fun q k => by
    unfold actP
    rw [if_neg (by simp [q]), k]
  have HW3 : Hid ((askP (pH v) since).2 = 0 → ∀ s, atH (pH v) since = some s → actP (pH v) since = (⟨since, s, aboveL since (pH v).nx⟩, 0)) := hid fun q s k => by
    unfold actP
    rw [if_neg (by simp [q]), k]
  have HW4 : Hid ((askP (pH v) since).2 = 0 → (askP (pH v) since).1.fe = since) := hid fun q => by rw [(ask_yes q).2.2.2]
  have HOkN : Hid ((askP (pH v) since).2 = 0 → v.n ≤ 64) := hid fun q => by
    have h64 : (v.N.map pS).length ≤ 64 := (ask_yes q).1.2.2.2.1
    rw [List.length_map, h.n.len] at h64
    exact h64
  generalize actP (pH v) since = PP at *
  generalize hAA : askP (pH v) since = AA at *
  generalize hOO : atH (pH v) since = OO at *
  have HB := hid bb
  have HSz := hid hsz
  have HHv := hid h
  have HKa : Hid (∀ W, Below w1.heap.size w1 W → W.cell? ⟨w.heap.size, 0, none⟩ = some (.int .i64 v.fe) ∧ W.cell? ⟨w.heap.size, 1, none⟩ = some (.int .i64 v.now.pl) ∧ W.cell? ⟨w.heap.size, 2, none⟩ = some (.int .i64 v.now.si) ∧ W.cell? ⟨w.heap.size, 3, none⟩ = some (.slice v.now.x1 v.now.n1 v.now.c1) ∧ W.cell? ⟨w.heap.size, 4, none⟩ = some (.slice v.now.x2 v.now.n2 v.now.c2) ∧ W.cell? ⟨w.heap.size, 5, none⟩ = some (.slice v.now.x3 v.now.n3 v.now.c3) ∧ W.cell? ⟨w.heap.size, 6, none⟩ = some (.slice v.x v.n v.c)) := hid fun W hW => ⟨keep hW (cell_heap g0 rfl), keep hW (cell_heap g0 rfl), keep hW (cell_heap g0 rfl), keep hW (cell_heap g0 rfl), keep hW (cell_heap g0 rfl), keep hW (cell_heap g0 rfl), keep hW (cell_heap g0 rfl)⟩
  have HKr : Hid (∀ W, Below w1.heap.size w1 W → W.heap[w.heap.size + 1]? = some (.cells #[.int .i64 0, .int .i64 0, .int .i64 0, .slice none 0 0, .slice none 0 0, .slice none 0 0, .slice none 0 0] 29 (0, 0))) := hid fun W hW => (hW.block _ (by omega)).trans g1
  clear h h0 bb hsz g0 g1 hAA hOO
  unfold RTells at hC1
  unfold vH at hC1 HCa ⊢
  have HW := hid hw1
  obtain ⟨a0, a1, a2, a3, a4, a5, a6⟩ := HKa.out w1 (Below.refl _ _)
  rw [hw1] at hC1 a0 a1 a2 a3 a4 a5 a6
  clear hw1
  have fin : ∀ (wc W : World) (u : HV) (z : Int), Below w1.heap.size w1 wc → HAt wc (fun q => (F q ∧ q < w.heap.size) ∨ New w1 wc q) u → Turns (fun k => k = w.heap.size + 1) wc W → PP = (pH u, z) → RTells w F PP.1 PP.2 (.returned (.tuple #[vH u, .int .i64 z])) W := fun wc W u z hb hu t hpp => by
    have b := on HB.out hb
    have s1 := HSz.out
    have bw : Below w.heap.size w W := b.trans (t.below (fun q e => by omega) b.size)
    rw [hpp]
    exact ⟨u, rfl, hid ⟨(HAt.keeps hu (.turns t fun q hq e => by rcases hq with hq | hq; (have := hq.2; omega); (have := hq.1; omega))).weak fun q hq => hq.imp (fun h => h.1) fun h => ⟨by have := h.1; omega, Nat.lt_of_lt_of_le h.2 t.size⟩, rfl, bw⟩⟩
  have HFin := hid fin
  clear fin
  go_enter Try.func34, Try.ntmps34
  go_upto_region 2 with (go_at_call 29; refine hC1.mono ?_; rintro r wa ⟨u, rfl, H1⟩; clear hC1)
  obtain ⟨o1, e1, b1⟩ := H1.out
  rw [← HW.out] at b1 o1
  obtain ⟨p, hp⟩ : ∃ p, p = wa.heap.size := ⟨_, rfl⟩
  obtain ⟨w2, hw2⟩ : ∃ w2, w2 = wa.alloc (.cells #[.int .i64 u.fe, .int .i64 u.now.pl, .int .i64 u.now.si, .slice u.now.x1 u.now.n1 u.now.c1, .slice u.now.x2 u.now.n2 u.now.c2, .slice u.now.x3 u.now.n3 u.now.c3, .slice u.x u.n u.c] 29) := ⟨_, rfl⟩
  have b2 : Below wa.heap.size wa w2 := by rw [hw2]; exact al _ _
  have hg : w2.heap[wa.heap.size]? = some (.cells (HCells u) 29 (0, 0)) := by rw [hw2]; exact heap_alloc_new _ _
  have hs2 : w2.heap.size = wa.heap.size + 1 := by rw [hw2]; simp
  rw [← hw2, ← hp]
  rw [← hp] at hg hs2
  have b12 := on b1 b2
  have HO := hid (((o1.below b2).weak fun q hq => hq.imp id fun h => ⟨h.1, Nat.lt_of_lt_of_le h.2 b2.size⟩ : HAt w2 (fun q => (F q ∧ q < w.heap.size) ∨ New w1 w2 q) u))
  have HE1 := hid e1
  have HB2 := hid b12
  have HPz := hid (And.intro hs2 (show w1.heap.size ≤ p by rw [hp]; exact b1.size))
  have HGp := hid hg
  clear H1 o1 e1 b1 hp hw2 b2 hs2 b12 a0 a1 a2 a3 a4 a5 a6
  generalize hzz : AA.2 = z at *
  by_cases hz0 : z = 0
  rotate_left
  · have hbz : (z != 0) = true := by simp [hz0]
    have HPP := hid (HW1.out hz0)
    have HZ := hid hzz
    obtain ⟨k0, k1, k2, k3, k4, k5, k6⟩ := hcells hg
    have gr := HKr.out w2 HB2.out
    have b0 := cell_heap gr (j := 0) rfl
    have fb0 := fr_heap gr 0
    have b1 := cell_heap gr (j := 1) rfl
    have fb1 := fr_heap gr 1
    have b2 := cell_heap gr (j := 2) rfl
    have fb2 := fr_heap gr 2
    have b3 := cell_heap gr (j := 3) rfl
    have fb3 := fr_heap gr 3
    have b4 := cell_heap gr (j := 4) rfl
    have fb4 := fr_heap gr 4
    have b5 := cell_heap gr (j := 5) rfl
    have fb5 := fr_heap gr 5
    have b6 := cell_heap gr (j := 6) rfl
    have fb6 := fr_heap gr 6
    clear gr
    clear hz0 hzz hg
    go_wp2_with fail
    refine bodyPost_ret (v := .tuple #[vH u, .int .i64 z]) ?_ rfl ?_
    · rw [results_cell2 rfl]
      unfold vH
      go_simp
    · refine HFin.out w2 _ u z HB2.out HO.out ?_ (by rw [HPP.out, ← HZ.out, HE1.out])
      repeat (first | with_reducible exact Turns.refl _ _ | with_reducible refine turns_put ?_ _ _)
  subst hz0
  have hfe : u.fe = since := by rw [← HW4.out rfl, ← HE1.out]; rfl
  have HFe := hid hfe
  replace HW2 := hid (HW2.out rfl)
  replace HW3 := hid (HW3.out rfl)
  replace HOkN := hid (HOkN.out rfl)
  clear HW1 HW4 hzz hfe
  have hCa := HCa.out w2 HB2.out
  obtain ⟨a0, a1, a2, a3, a4, a5, a6⟩ := HKa.out w2 HB2.out
  clear hg
  go_upto_region 5 with (go_at_call 10; refine hCa.mono ?_; rintro r wb ⟨s, rfl, H2⟩; unfold vS; clear hCa)
  obtain ⟨o2, e2, b2⟩ := H2.out
  obtain ⟨g, hgg⟩ : ∃ g, g = wb.heap.size := ⟨_, rfl⟩
  obtain ⟨w3, hw3⟩ : ∃ w3, w3 = wb.alloc (.cells #[.int .i64 s.pl, .int .i64 s.si, .slice s.x1 s.n1 s.c1, .slice s.x2 s.n2 s.c2, .slice s.x3 s.n3 s.c3] 26) := ⟨_, rfl⟩
  have b3 : Below wb.heap.size wb w3 := by rw [hw3]; exact al _ _
  have hgs : w3.heap[wb.heap.size]? = some (.cells (SCells s) 26 (0, 0)) := by rw [hw3]; exact heap_alloc_new _ _
  rw [← hw3, ← hgg]
  rw [← hgg] at hgs
  have HB3 := hid (on b2 b3)
  have HGs := hid hgs
  have HGg := hid (show p < g by have := HPz.out.1; have := b2.size; omega)
  have HS := hid (o2.below b3)
  have HE2 := hid e2
  clear H2 o2 e2 b2 hgg hw3 b3 a0 a1 a2 a3 a4 a5 a6
  cases hO : OO with
  | none =>
    have HPP := hid (HW2.out hO)
    subst hO
    obtain ⟨a0, a1, a2, a3, a4, a5, a6⟩ := HKa.out w3 (on HB2.out HB3.out)
    have gr := HKr.out w3 (on HB2.out HB3.out)
    have b0 := cell_heap gr (j := 0) rfl
    have fb0 := fr_heap gr 0
    have b1 := cell_heap gr (j := 1) rfl
    have fb1 := fr_heap gr 1
    have b2 := cell_heap gr (j := 2) rfl
    have fb2 := fr_heap gr 2
    have b3 := cell_heap gr (j := 3) rfl
    have fb3 := fr_heap gr 3
    have b4 := cell_heap gr (j := 4) rfl
    have fb4 := fr_heap gr 4
    have b5 := cell_heap gr (j := 5) rfl
    have fb5 := fr_heap gr 5
    have b6 := cell_heap gr (j := 6) rfl
    have fb6 := fr_heap gr 6
    clear gr
    clear hgs
    go_wp2_with fail
    refine bodyPost_ret (v := .tuple #[vH v, .int .i64 4]) ?_ rfl ?_
    · rw [results_cell2 rfl]
      unfold vH
      go_simp
    · refine HFin.out w3 _ v 4 (on HB2.out HB3.out) ((HHv.out.below (on HB.out (on HB2.out HB3.out))).weak fun q hq => .inl hq) ?_ HPP.out
      repeat (first | with_reducible exact Turns.refl _ _ | with_reducible refine turns_put ?_ _ _)
  | some so =>
    have HPP := hid (HW3.out so hO)
    subst hO
    rw [Option.isSome_some]
    obtain ⟨e0, e1, e2, e3, e4⟩ := scells hgs
    have hgp3 := (HB3.out.block p (lt_heap HGp.out)).trans HGp.out
    obtain ⟨k0, k1, k2, k3, k4, k5, k6⟩ := hcells hgp3
    have fk0 := fr_heap hgp3 0
    have fk1 := fr_heap hgp3 1
    have fk2 := fr_heap hgp3 2
    have fk3 := fr_heap hgp3 3
    have fk4 := fr_heap hgp3 4
    have fk5 := fr_heap hgp3 5
    have fk6 := fr_heap hgp3 6
    have HGp3 := hid hgp3
    clear hgs hgp3
    go_upto_region 8 with (fail)
    have e5 : ((((w3.setCell ⟨p, 1, none⟩ (.int .i64 s.pl)).setCell ⟨p, 2, none⟩ (.int .i64 s.si)).setCell ⟨p, 3, none⟩ (.slice s.x1 s.n1 s.c1)).setCell ⟨p, 4, none⟩ (.slice s.x2 s.n2 s.c2)).setCell ⟨p, 5, none⟩ (.slice s.x3 s.n3 s.c3) = put5 w3 p 1 s := rfl
    rw [e5]
    have hg4 := put5at1 HGp3.out s
    have t4 := turns_put5 w3 p 1 s
    generalize put5 w3 p 1 s = w4 at *
    clear e5 k0 k1 k2 k3 k4 k5 k6 fk0 fk1 fk2 fk3 fk4 fk5 fk6 e0 e1 e2 e3 e4
    have k6 := (hcells hg4).2.2.2.2.2.2
    have fk6 := fr_heap hg4 6
    go_upto_region 9 with (fail)
    have hg5 : (w4.setCell ⟨p, 6, none⟩ (.slice none 0 0)).heap[p]? = some (.cells #[.int .i64 u.fe, .int .i64 s.pl, .int .i64 s.si, .slice s.x1 s.n1 s.c1, .slice s.x2 s.n2 s.c2, .slice s.x3 s.n3 s.c3, .slice none 0 0] 29 (0, 0)) := (heap_set hg4 _).trans (by unfold HCells; rfl)
    have t5 := t4.trans (turns_put (j := 6) (Turns.refl (fun k => k = p) w4) (.slice none 0 0))
    generalize w4.setCell ⟨p, 6, none⟩ (.slice none 0 0) = wL at *
    have b35 : Below p w3 wL := t5.below (fun q e => by omega) (by have := HPz.out.1; have := HB3.out.size; omega)
    have b15 : Below w1.heap.size w1 wL := (on HB2.out HB3.out).trans (b35.mono HPz.out.2)
    have HL0 : Hid (∃ y m cy, wL.heap[p]? = some (.cells #[.int .i64 u.fe, .int .i64 s.pl, .int .i64 s.si, .slice s.x1 s.n1 s.c1, .slice s.x2 s.n2 s.c2, .slice s.x3 s.n3 s.c3, .slice y m cy] 29 (0, 0)) ∧ FilSt 26 5 enS w3.heap.size wL v.N (fun x => decide (since < x.si)) 0 (.slice y m cy) ∧ Below w1.heap.size w1 wL ∧ Below p w3 wL) := hid ⟨_, _, _, hg5, Own.nil _ _ _ _ _, b15, b35⟩
    have hn : v.N.length = v.n := HHv.out.n.len
    have hnm : v.n < 99999990 := by have := HOkN.out; omega
    have HN := hid hn
    have HPg := hid (show p < w3.heap.size by have := HPz.out.1; have := HB3.out.size; omega)
    clear hg4 t4 k6 fk6 hg5 t5 b35 b15 hn
    go_wp2_with fail
    go_loopw [10] (fun i wr => ∃ k : Nat, k ≤ v.n ∧ i = .int .i64 k ∧ Hid (∃ y m cy, wr.heap[p]? = some (.cells #[.int .i64 u.fe, .int .i64 s.pl, .int .i64 s.si, .slice s.x1 s.n1 s.c1, .slice s.x2 s.n2 s.c2, .slice s.x3 s.n3 s.c3, .slice y m cy] 29 (0, 0)) ∧ FilSt 26 5 enS w3.heap.size wr v.N (fun x => decide (since < x.si)) k (.slice y m cy) ∧ Below w1.heap.size w1 wr ∧ Below p w3 wr)) (fun i _ => v.n - (intOf i).toNat)
    case atStart => exact ⟨0, Nat.zero_le _, rfl, HL0.out⟩
    case round =>
      clear HL0
      obtain ⟨k, hk, rfl, HR⟩ := hrel
      obtain ⟨y, m, cy, hgr, hfil, hb1r, hb3r⟩ := HR.out
      have a6 := (HKa.out wr hb1r).2.2.2.2.2.2
      by_cases hlt : k < v.n
      · have hkn : (k : Int) < (v.n : Int) := by omega
        obtain ⟨x, hLx, hmx⟩ := Lis.some HHv.out.n hlt
        rcases HHv.out.n.row with h0 | ⟨b, o, hx, hbl, hF, hcell⟩
        · omega
        obtain ⟨r0, r1, r2, r3, r4⟩ := s_at hcell hLx
        have hbw := on HB.out hb1r
        have HK : Hid (∀ W, Below w.heap.size w W → W.cell? ⟨b, o + k * 5, none⟩ = some (.int .i64 x.pl) ∧ W.cell? ⟨b, o + k * 5 + 1, none⟩ = some (.int .i64 x.si) ∧ W.cell? ⟨b, o + k * 5 + 2, none⟩ = some (.slice x.x1 x.n1 x.c1) ∧ W.cell? ⟨b, o + k * 5 + 3, none⟩ = some (.slice x.x2 x.n2 x.c2) ∧ W.cell? ⟨b, o + k * 5 + 4, none⟩ = some (.slice x.x3 x.n3 x.c3)) := hid fun W hW => ⟨keep hW r0, keep hW r1, keep hW r2, keep hW r3, keep hW r4⟩
        rw [hx] at a6
        have HX := hid (And.intro hx hLx)
        replace r1 := keep hbw r1
        have HHr := hid (And.intro hgr (And.intro hfil (And.intro hb1r hb3r)))
        clear hcell hmx hLx r0 r2 r3 r4 hF hbl hbw hx hgr hfil hb1r hb3r
        by_cases hd : since < x.si
        · go_upto_region 13 with (fail)
          have k6 : wr.cell? ⟨p, 6, none⟩ = some (.slice y m cy) := cell_heap HHr.out.1 rfl
          have bD : Below wr.heap.size wr wr.drew := (Below.refl _ _).drew
          have S1 := (⟨keep bD k6, keep bD a6, HK.out _ (on HB.out (on HHr.out.2.2.1 bD))⟩ : wr.drew.cell? ⟨p, 6, none⟩ = some (.slice y m cy) ∧ wr.drew.cell? ⟨w.heap.size, 6, none⟩ = some (.slice (some ⟨b, o, none⟩) v.n v.c) ∧ wr.drew.cell? ⟨b, o + k * 5, none⟩ = some (.int .i64 x.pl) ∧ wr.drew.cell? ⟨b, o + k * 5 + 1, none⟩ = some (.int .i64 x.si) ∧ wr.drew.cell? ⟨b, o + k * 5 + 2, none⟩ = some (.slice x.x1 x.n1 x.c1) ∧ wr.drew.cell? ⟨b, o + k * 5 + 3, none⟩ = some (.slice x.x2 x.n2 x.c2) ∧ wr.drew.cell? ⟨b, o + k * 5 + 4, none⟩ = some (.slice x.x3 x.n3 x.c3))
          refine wp_region_tail (fun W => W.cell? ⟨p, 6, none⟩ = some (.slice y m cy) ∧ W.cell? ⟨w.heap.size, 6, none⟩ = some (.slice (some ⟨b, o, none⟩) v.n v.c) ∧ W.cell? ⟨b, o + k * 5, none⟩ = some (.int .i64 x.pl) ∧ W.cell? ⟨b, o + k * 5 + 1, none⟩ = some (.int .i64 x.si) ∧ W.cell? ⟨b, o + k * 5 + 2, none⟩ = some (.slice x.x1 x.n1 x.c1) ∧ W.cell? ⟨b, o + k * 5 + 3, none⟩ = some (.slice x.x2 x.n2 x.c2) ∧ W.cell? ⟨b, o + k * 5 + 4, none⟩ = some (.slice x.x3 x.n3 x.c3)) [9, 10] (by kernel_rfl) S1 (fun hS => ?_)
          have HBD := hid bD
          clear S1 bD k6 a6 r1
          generalize wr.drew = wD at *
          refine By.tk 0 ?_
          refine By.tk 1 ?_
          refine By.tk 2 ?_
          refine By.tk 3 ?_
          refine By.tk 4 ?_
          refine By.tk 5 ?_
          refine By.tk 6 ?_
          refine wpAnyT_one (i := 7) (by kernel_rfl) rfl (fun K hK => ?_)
          go_simp
          have b7 := al wD (.cells #[.int .i64 x.pl, .int .i64 x.si, .slice x.x1 x.n1 x.c1, .slice x.x2 x.n2 x.c2, .slice x.x3 x.n3 x.c3] 26)
          have S2 := (⟨keep b7 hS.1, keep b7 hS.2.1, HK.out _ (on HB.out (on HHr.out.2.2.1 (on HBD.out b7)))⟩ : (wD.alloc (.cells #[.int .i64 x.pl, .int .i64 x.si, .slice x.x1 x.n1 x.c1, .slice x.x2 x.n2 x.c2, .slice x.x3 x.n3 x.c3] 26)).cell? ⟨p, 6, none⟩ = some (.slice y m cy) ∧ (wD.alloc (.cells #[.int .i64 x.pl, .int .i64 x.si, .slice x.x1 x.n1 x.c1, .slice x.x2 x.n2 x.c2, .slice x.x3 x.n3 x.c3] 26)).cell? ⟨w.heap.size, 6, none⟩ = some (.slice (some ⟨b, o, none⟩) v.n v.c) ∧ (wD.alloc (.cells #[.int .i64 x.pl, .int .i64 x.si, .slice x.x1 x.n1 x.c1, .slice x.x2 x.n2 x.c2, .slice x.x3 x.n3 x.c3] 26)).cell? ⟨b, o + k * 5, none⟩ = some (.int .i64 x.pl) ∧ (wD.alloc (.cells #[.int .i64 x.pl, .int .i64 x.si, .slice x.x1 x.n1 x.c1, .slice x.x2 x.n2 x.c2, .slice x.x3 x.n3 x.c3] 26)).cell? ⟨b, o + k * 5 + 1, none⟩ = some (.int .i64 x.si) ∧ (wD.alloc (.cells #[.int .i64 x.pl, .int .i64 x.si, .slice x.x1 x.n1 x.c1, .slice x.x2 x.n2 x.c2, .slice x.x3 x.n3 x.c3] 26)).cell? ⟨b, o + k * 5 + 2, none⟩ = some (.slice x.x1 x.n1 x.c1) ∧ (wD.alloc (.cells #[.int .i64 x.pl, .int .i64 x.si, .slice x.x1 x.n1 x.c1, .slice x.x2 x.n2 x.c2, .slice x.x3 x.n3 x.c3] 26)).cell? ⟨b, o + k * 5 + 3, none⟩ = some (.slice x.x2 x.n2 x.c2) ∧ (wD.alloc (.cells #[.int .i64 x.pl, .int .i64 x.si, .slice x.x1 x.n1 x.c1, .slice x.x2 x.n2 x.c2, .slice x.x3 x.n3 x.c3] 26)).cell? ⟨b, o + k * 5 + 4, none⟩ = some (.slice x.x3 x.n3 x.c3))
          obtain ⟨x', n', c', w5, hap, H5⟩ := FilSt.push (A := #[.int .i64 x.pl, .int .i64 x.si, .slice x.x1 x.n1 x.c1, .slice x.x2 x.n2 x.c2, .slice x.x3 x.n3 x.c3]) (Own.below HHr.out.2.1 HBD.out) HX.out.2 (by simp [hd]) rfl srow (Nat.le_trans (by have := HHr.out.2.2.2.size; omega) HBD.out.size) (by omega)
          refine hK.out _ _ (fun _ => S2) ?_
          clear hK K
          have nn : ∀ q, q < w3.heap.size → (Value.slice y m cy).ownBlock ≠ some q := fun q hq e => by have := (World.ownsRow.lt HHr.out.2.1 q e).1; omega
          have bD5 := on HBD.out b7
          have hg5 : w5.heap[p]? = some (.cells #[.int .i64 u.fe, .int .i64 s.pl, .int .i64 s.si, .slice s.x1 s.n1 s.c1, .slice s.x2 s.n2 s.c2, .slice s.x3 s.n3 s.c3, .slice y m cy] 29 (0, 0)) := (H5.out.2.2.1.block p (by have := lt_heap HHr.out.1; have := HBD.out.size; omega) (nn p HPg.out)).trans ((HBD.out.block p (lt_heap HHr.out.1)).trans HHr.out.1)
          have b35 : Below w3.heap.size wr w5 := (HBD.out.mono HHr.out.2.2.2.size).trans H5.out.2.1
          have b15 : Below w1.heap.size w1 w5 := HHr.out.2.2.1.trans (b35.mono (by have := HPg.out; have := HPz.out.2; omega))
          have S5 := (⟨cell_heap hg5 rfl, by have := (HKa.out w5 b15).2.2.2.2.2.2; rw [HX.out.1] at this; exact this, HK.out _ (on HB.out b15)⟩ : w5.cell? ⟨p, 6, none⟩ = some (.slice y m cy) ∧ w5.cell? ⟨w.heap.size, 6, none⟩ = some (.slice (some ⟨b, o, none⟩) v.n v.c) ∧ w5.cell? ⟨b, o + k * 5, none⟩ = some (.int .i64 x.pl) ∧ w5.cell? ⟨b, o + k * 5 + 1, none⟩ = some (.int .i64 x.si) ∧ w5.cell? ⟨b, o + k * 5 + 2, none⟩ = some (.slice x.x1 x.n1 x.c1) ∧ w5.cell? ⟨b, o + k * 5 + 3, none⟩ = some (.slice x.x2 x.n2 x.c2) ∧ w5.cell? ⟨b, o + k * 5 + 4, none⟩ = some (.slice x.x3 x.n3 x.c3))
          have HG5 := hid (And.intro hg5 (And.intro b35 b15))
          clear S2 b7 hS bD5 nn hg5 b35 b15
          have q6 := S5.1
          have f6 := fr_heap HG5.out.1 6
          refine wpAnyT_one (i := 8) (by kernel_rfl) rfl (fun K hK => ?_)
          refine st_append rfl _ _ 27 rfl _ _ rfl rfl hap ?_
          (try simp only [Act.put, List.getElem_toArray, List.getElem_cons_succ, List.getElem_cons_zero, List.setIfInBounds_toArray, List.set_cons_zero, List.set_cons_succ])
          refine hK.out _ _ (fun _ => S5) ?_
          clear hK K
          clear hap S5
          refine wpAnyT_one (i := 9) (by kernel_rfl) rfl (fun K hK => ?_)
          go_simp
          refine hK.out _ _ (fun h => absurd (by decide) h) ?_
          clear hK K
          refine wpAnyT_one (i := 10) (by kernel_rfl) rfl (fun K hK => ?_)
          go_simp
          refine hK.out _ _ (fun h => absurd (by decide) h) ?_
          clear hK K
          refine wpAnyT_done (by kernel_rfl) ?_ _
          clear q6 f6
          have hg6 : (w5.setCell ⟨p, 6, none⟩ (.slice x' n' c')).heap[p]? = some (.cells #[.int .i64 u.fe, .int .i64 s.pl, .int .i64 s.si, .slice s.x1 s.n1 s.c1, .slice s.x2 s.n2 s.c2, .slice s.x3 s.n3 s.c3, .slice x' n' c'] 29 (0, 0)) := (heap_set HG5.out.1 _).trans rfl
          have t6 := turns_put (j := 6) (Turns.refl (fun k => k = p) w5) (.slice x' n' c')
          generalize w5.setCell ⟨p, 6, none⟩ (.slice x' n' c') = w6 at *
          have H6 := hid (And.intro hg6 t6)
          clear hg6 t6
          go_wp2_with fail
          go_roundw
          case rel =>
            refine ⟨k + 1, by omega, by go_num, x', n', c', H6.out.1, Own.turns H5.out.1 H6.out.2 (fun q hq e => ?_), ?_, ?_⟩
            · have := (World.ownsRow.lt H5.out.1 q hq).1; have := HPg.out; omega
            · exact HG5.out.2.2.trans (H6.out.2.below (fun q e => by have := HPz.out.2; omega) HG5.out.2.2.size)
            · have hz := HHr.out.2.2.2
              exact (hz.trans (HG5.out.2.1.mono (Nat.le_of_lt HPg.out))).trans (H6.out.2.below (fun q e => by omega) (by have := HPg.out; have := hz.size; have := HG5.out.2.1.size; omega))
          case measure => simp [intOf]; try omega
        · go_wp2_with fail
          go_roundw
          case rel => exact ⟨k + 1, by omega, by go_num, y, m, cy, HHr.out.1, FilSt.skip HHr.out.2.1 HX.out.2 (by simp [hd]), HHr.out.2.2.1, HHr.out.2.2.2⟩
          case measure => simp [intOf]; try omega
      · have hk2 : v.n = k := by omega
        have hO := FilSt.all hfil (hk2.symm.trans HN.out.symm)
        obtain ⟨y', c'', hform, _⟩ := hO.form
        injection hform with q1 q2 q3
        subst q1 q3
        have HO5 := hid (And.intro hO (And.intro hb1r (And.intro hb3r q2)))
        have k0 := cell_heap hgr (j := 0) rfl
        have k1 := cell_heap hgr (j := 1) rfl
        have k2 := cell_heap hgr (j := 2) rfl
        have k3 := cell_heap hgr (j := 3) rfl
        have k4 := cell_heap hgr (j := 4) rfl
        have k5 := cell_heap hgr (j := 5) rfl
        have k6 := cell_heap hgr (j := 6) rfl
        have gr := HKr.out wr hb1r
        have b0 := cell_heap gr (j := 0) rfl
        have fb0 := fr_heap gr 0
        have b1 := cell_heap gr (j := 1) rfl
        have fb1 := fr_heap gr 1
        have b2 := cell_heap gr (j := 2) rfl
        have fb2 := fr_heap gr 2
        have b3 := cell_heap gr (j := 3) rfl
        have fb3 := fr_heap gr 3
        have b4 := cell_heap gr (j := 4) rfl
        have fb4 := fr_heap gr 4
        have b5 := cell_heap gr (j := 5) rfl
        have fb5 := fr_heap gr 5
        have b6 := cell_heap gr (j := 6) rfl
        have fb6 := fr_heap gr 6
        clear gr
        have HGr := hid hgr
        clear hk2 hO q2 hgr hfil hb1r hb3r
        go_wp2_with fail
        refine bodyPost_ret (v := .tuple #[vH ⟨u.fe, s, y, m, cy, v.N.filter fun x => decide (since < x.si)⟩, .int .i64 0]) ?_ rfl ?_
        · rw [results_cell2 rfl]
          unfold vH
          go_simp
        · have hpp : PP = (pH ⟨u.fe, s, y, m, cy, v.N.filter fun x => decide (since < x.si)⟩, 0) := by
            rw [HPP.out]
            have e1 : pS s = so := HE2.out
            have e2 : aboveL since (pH v).nx = (v.N.filter fun x => decide (since < x.si)).map pS := by
              unfold aboveL
              show ((v.N.map pS).filter fun x => decide (since < x.si)) = _
              rw [List.filter_map]
              rfl
            rw [e2]
            show _ = ((⟨u.fe, pS s, (v.N.filter fun x => decide (since < x.si)).map pS⟩ : Hld), (0 : Int))
            rw [e1, HFe.out]
          have hb1r := HO5.out.2.1
          have hb3r := HO5.out.2.2.1
          have bw := on HB.out hb1r
          refine HFin.out wr _ ⟨u.fe, s, y, m, cy, v.N.filter fun x => decide (since < x.si)⟩ 0 hb1r ⟨?_, ?_⟩ ?_ hpp
          · exact (HS.out.keeps ⟨hb3r.size, fun q hq _ => hb3r.block q (by have := hq.2; have := HPz.out.2; have := HSz.out; omega)⟩).weak fun q hq => .inl hq
          · refine own_lis srow HO5.out.1 (Nat.le_trans (List.length_filter_le _ _) (by have := HHv.out.n.small; have := HHv.out.n.len; omega)) (fun q hq => .inr ?_) fun a ha => ((HHv.out.n.each a (List.mem_filter.1 ha).1).below bw).weak fun q hq => .inl hq
            have := World.ownsRow.lt HO5.out.1 q hq
            exact ⟨by have := this.1; have := HPz.out.2; have := HPg.out; omega, this.2⟩
          · repeat (first | with_reducible exact Turns.refl _ _ | with_reducible refine turns_put ?_ _ _)

end Go.Proofs.Ytnfflmndejbepaa.Sh
