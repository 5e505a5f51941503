/-
  The document's Commit.
  Conditions: the holder lies in memory, no list is too long.
-/
import Derived.Test.YtnfflmndejbepaaShRAct
import Derived.Test.YtnfflmndejbepaaJShDelF
namespace Go.Proofs.Ytnfflmndejbepaa.Sh
set_option linter.unusedSectionVars false
variable [Inhabited DZ]
open Go.RowKit By Fl
set_option linter.unusedVariables false
set_option linter.unusedSimpArgs false
set_option maxRecDepth 100000

/- What a call of the document tells, where nothing but boxes was turned since. -/
theorem rtell {w w1 wc W : World} {F F2 : Nat → Prop} {u : HV} {H : Hld} {z : Int} {r : Nat} (hB : Below w.heap.size w w1) (hr : w.heap.size ≤ r ∧ r < w1.heap.size) (hb : Below w1.heap.size w1 wc) (hu : HAt wc F2 u) (hF : ∀ q, F2 q → (F q ∧ q < w.heap.size) ∨ New w1 wc q) (t : Turns (fun k => k = r) wc W) (hp : pH u = H) : RTells w F H z (.returned (.tuple #[vH u, .int .i64 z])) W := by
  have b := on hB hb
  have bw : Below w.heap.size w W := b.trans (t.below (fun q e => by omega) b.size)
  have s0 := hB.size
  refine ⟨u, rfl, hid ⟨(HAt.keeps hu (.turns t fun q hq e => ?_)).weak fun q hq => ?_, hp, bw⟩⟩
  · rcases hF q hq with h | h
    · have := h.2; omega
    · have := h.1; omega
  · rcases hF q hq with h | h
    · exact .inl h.1
    · exact .inr ⟨by have := h.1; omega, Nat.lt_of_lt_of_le h.2 t.size⟩

set_option maxHeartbeats 12800000 in
theorem rcommit_any {w : World} {F : Nat → Prop} {v : HV} (since head : Int) (h0 : HAt w F v) (hsm : Small (pH v)) :
    Calls Try.prog 38 #[vH v, .int .i64 since, .int .i64 head] w fun r w' => RTells w F (commitP (pH v) since head).1 (commitP (pH v) since head).2 r w' := by
  have h := h0.ltF
  obtain ⟨w1, hw1⟩ : ∃ w1, w1 = (w.alloc (.cells #[.int .i64 v.fe, .int .i64 v.now.pl, .int .i64 v.now.si, .slice v.now.x1 v.now.n1 v.now.c1, .slice v.now.x2 v.now.n2 v.now.c2, .slice v.now.x3 v.now.n3 v.now.c3, .slice v.x v.n v.c] 29)).alloc (.cells #[.int .i64 0, .int .i64 0, .int .i64 0, .slice none 0 0, .slice none 0 0, .slice none 0 0, .slice none 0 0] 29) := ⟨_, rfl⟩
  obtain ⟨bb, hsz, g0, g1⟩ := two_boxes w #[.int .i64 v.fe, .int .i64 v.now.pl, .int .i64 v.now.si, .slice v.now.x1 v.now.n1 v.now.c1, .slice v.now.x2 v.now.n2 v.now.c2, .slice v.now.x3 v.now.n3 v.now.c3, .slice v.x v.n v.c] #[.int .i64 0, .int .i64 0, .int .i64 0, .slice none 0 0, .slice none 0 0, .slice none 0 0, .slice none 0 0] 29
  rw [← hw1] at bb hsz g0 g1
  have hC1 := ract_any since (h.below bb)
  have HW1 : Hid ((actP (pH v) since).2 ≠ 0 → commitP (pH v) since head = actP (pH v) since) := hid fun q => by unfold commitP; rw [if_pos q]
  have HW2 : Hid ((actP (pH v) since).2 = 0 → ∀ A, A = (actP (pH v) since).1 → commitP (pH v) since head = if decide ((0 : Int) ≤ head ∧ head ≤ (A.now.log.length : Int)) then (⟨A.fe, commitU head A.now, A.nx⟩, 0) else (pH v, 1)) := hid fun q A hA => by
    subst hA
    unfold commitP
    rw [if_neg (by simp [q])]
  have HAs : Hid ((actP (pH v) since).2 = 0 → Small (actP (pH v) since).1) := hid fun q => act_small q hsm
  generalize commitP (pH v) since head = PP at *
  generalize hAA : actP (pH v) since = AA at *
  have HB := hid bb
  have HSz := hid hsz
  have HHv := hid h
  have HKa : Hid (∀ W, Below w1.heap.size w1 W → W.cell? ⟨w.heap.size, 0, none⟩ = some (.int .i64 v.fe) ∧ W.cell? ⟨w.heap.size, 1, none⟩ = some (.int .i64 v.now.pl) ∧ W.cell? ⟨w.heap.size, 2, none⟩ = some (.int .i64 v.now.si) ∧ W.cell? ⟨w.heap.size, 3, none⟩ = some (.slice v.now.x1 v.now.n1 v.now.c1) ∧ W.cell? ⟨w.heap.size, 4, none⟩ = some (.slice v.now.x2 v.now.n2 v.now.c2) ∧ W.cell? ⟨w.heap.size, 5, none⟩ = some (.slice v.now.x3 v.now.n3 v.now.c3) ∧ W.cell? ⟨w.heap.size, 6, none⟩ = some (.slice v.x v.n v.c)) := hid fun W hW => ⟨keep hW (cell_heap g0 rfl), keep hW (cell_heap g0 rfl), keep hW (cell_heap g0 rfl), keep hW (cell_heap g0 rfl), keep hW (cell_heap g0 rfl), keep hW (cell_heap g0 rfl), keep hW (cell_heap g0 rfl)⟩
  have HKr : Hid (∀ W, Below w1.heap.size w1 W → W.heap[w.heap.size + 1]? = some (.cells #[.int .i64 0, .int .i64 0, .int .i64 0, .slice none 0 0, .slice none 0 0, .slice none 0 0, .slice none 0 0] 29 (0, 0))) := hid fun W hW => (hW.block _ (by omega)).trans g1
  clear h h0 bb hsz g0 g1 hAA hsm
  unfold RTells at hC1
  unfold vH at hC1 ⊢
  have HW := hid hw1
  obtain ⟨a0, a1, a2, a3, a4, a5, a6⟩ := HKa.out w1 (Below.refl _ _)
  rw [hw1] at hC1 a0 a1 a2 a3 a4 a5 a6
  clear hw1
  go_enter Try.func38, Try.ntmps38
  go_upto_region 2 with (go_at_call 34; refine hC1.mono ?_; rintro r wa ⟨u, rfl, H1⟩; clear hC1)
  obtain ⟨o1, e1, b1⟩ := H1.out
  rw [← HW.out] at b1 o1
  obtain ⟨p, hp⟩ : ∃ p, p = wa.heap.size := ⟨_, rfl⟩
  obtain ⟨w2, hw2⟩ : ∃ w2, w2 = wa.alloc (.cells #[.int .i64 u.fe, .int .i64 u.now.pl, .int .i64 u.now.si, .slice u.now.x1 u.now.n1 u.now.c1, .slice u.now.x2 u.now.n2 u.now.c2, .slice u.now.x3 u.now.n3 u.now.c3, .slice u.x u.n u.c] 29) := ⟨_, rfl⟩
  have b2 : Below wa.heap.size wa w2 := by rw [hw2]; exact al _ _
  have hg : w2.heap[wa.heap.size]? = some (.cells (HCells u) 29 (0, 0)) := by rw [hw2]; exact heap_alloc_new _ _
  have hs2 : w2.heap.size = wa.heap.size + 1 := by rw [hw2]; simp
  rw [← hw2, ← hp]
  rw [← hp] at hg hs2
  have b12 := on b1 b2
  have HO := hid (((o1.below b2).weak fun q hq => hq.imp id fun h => ⟨h.1, by rw [hp]; exact h.2⟩ : HAt w2 (fun q => (F q ∧ q < w.heap.size) ∨ (w1.heap.size ≤ q ∧ q < p)) u))
  have HE1 := hid e1
  have HB2 := hid b12
  have HPz := hid (And.intro hs2 (show w1.heap.size ≤ p by rw [hp]; exact b1.size))
  have HGp := hid hg
  clear H1 o1 e1 b1 hp hw2 b2 hs2 b12 a0 a1 a2 a3 a4 a5 a6
  generalize hzz : AA.2 = z at *
  obtain ⟨k0, k1, k2, k3, k4, k5, k6⟩ := hcells hg
  by_cases hz0 : z = 0
  rotate_left
  · have hbz : (z != 0) = true := by simp [hz0]
    have HPP := hid (HW1.out hz0)
    have HZ := hid hzz
    have gr := HKr.out w2 HB2.out
    have b0 := cell_heap gr (j := 0) rfl
    have fb0 := fr_heap gr 0
    have b1 := cell_heap gr (j := 1) rfl
    have fb1 := fr_heap gr 1
    have b2 := cell_heap gr (j := 2) rfl
    have fb2 := fr_heap gr 2
    have b3 := cell_heap gr (j := 3) rfl
    have fb3 := fr_heap gr 3
    have b4 := cell_heap gr (j := 4) rfl
    have fb4 := fr_heap gr 4
    have b5 := cell_heap gr (j := 5) rfl
    have fb5 := fr_heap gr 5
    have b6 := cell_heap gr (j := 6) rfl
    have fb6 := fr_heap gr 6
    clear gr
    clear hz0 hzz hg
    go_wp2_with fail
    refine bodyPost_ret (v := .tuple #[vH u, .int .i64 z]) ?_ rfl ?_
    · rw [results_cell2 rfl]
      unfold vH
      go_simp
    · rw [HPP.out]
      have eA : AA.1 = pH u := HE1.out.symm
      rw [HZ.out]
      refine rtell (r := w.heap.size + 1) HB.out ⟨by omega, by have := HSz.out; omega⟩ HB2.out HO.out (fun q hq => hq.imp id fun h => ⟨h.1, by have := h.2; have := HPz.out.1; omega⟩) ?_ eA.symm
      repeat (first | with_reducible exact Turns.refl _ _ | with_reducible refine turns_put ?_ _ _)
  subst hz0
  have hsmA := HAs.out rfl
  rw [← HE1.out] at hsmA
  have hq2 := HW2.out rfl (pH u) HE1.out.symm.symm
  clear HW1 HW2 HAs hzz hg
  have hl2 : u.now.E.length = u.now.n2 := HO.out.s.e.len
  have hl3 : u.now.U.length = u.now.n3 := HO.out.s.u.len
  have hm2 := HO.out.s.e.small
  have hm3 : u.now.n3 < 99999990 := by
    have h1 := (hsmA (pS u.now) (List.mem_cons_self ..)).2.2
    have h2 : (u.now.U.map pU).length < 99999990 := h1
    rw [List.length_map] at h2
    omega
  have HQ2 : Hid (PP = if decide ((0 : Int) ≤ head ∧ head ≤ (u.now.n2 : Int)) then (⟨u.fe, commitU head (pS u.now), u.N.map pS⟩, 0) else (pH v, 1)) := hid (by
    rw [hq2, ← hl2]
    rfl)
  have HPn : Hid (¬ ((0 : Int) ≤ head ∧ head ≤ (u.now.n2 : Int)) → PP = (pH v, 1)) := hid fun hn => by rw [HQ2.out, decide_eq_false hn]; rfl
  have HPy : Hid ((0 : Int) ≤ head ∧ head ≤ (u.now.n2 : Int) → PP = (⟨u.fe, commitU head (pS u.now), u.N.map pS⟩, 0)) := hid fun hn => by rw [HQ2.out, decide_eq_true hn]; rfl
  have HL3 := hid hl3
  clear hq2 HQ2 hsmA hl2 hl3
  by_cases hneg : head < 0
  · have HPP := hid (HPn.out (by omega))
    obtain ⟨a0, a1, a2, a3, a4, a5, a6⟩ := HKa.out w2 HB2.out
    have gr := HKr.out w2 HB2.out
    have b0 := cell_heap gr (j := 0) rfl
    have fb0 := fr_heap gr 0
    have b1 := cell_heap gr (j := 1) rfl
    have fb1 := fr_heap gr 1
    have b2 := cell_heap gr (j := 2) rfl
    have fb2 := fr_heap gr 2
    have b3 := cell_heap gr (j := 3) rfl
    have fb3 := fr_heap gr 3
    have b4 := cell_heap gr (j := 4) rfl
    have fb4 := fr_heap gr 4
    have b5 := cell_heap gr (j := 5) rfl
    have fb5 := fr_heap gr 5
    have b6 := cell_heap gr (j := 6) rfl
    have fb6 := fr_heap gr 6
    clear gr
    go_wp2_with fail
    refine bodyPost_ret (v := .tuple #[vH v, .int .i64 1]) ?_ rfl ?_
    · rw [results_cell2 rfl]
      unfold vH
      go_simp
    · rw [HPP.out]
      refine rtell (r := w.heap.size + 1) HB.out ⟨by omega, by have := HSz.out; omega⟩ HB2.out (HHv.out.below (on HB.out HB2.out)) (fun q hq => .inl hq) ?_ rfl
      repeat (first | with_reducible exact Turns.refl _ _ | with_reducible refine turns_put ?_ _ _)
  by_cases hbig : (u.now.n2 : Int) < head
  · have HPP := hid (HPn.out (by omega))
    obtain ⟨a0, a1, a2, a3, a4, a5, a6⟩ := HKa.out w2 HB2.out
    have gr := HKr.out w2 HB2.out
    have b0 := cell_heap gr (j := 0) rfl
    have fb0 := fr_heap gr 0
    have b1 := cell_heap gr (j := 1) rfl
    have fb1 := fr_heap gr 1
    have b2 := cell_heap gr (j := 2) rfl
    have fb2 := fr_heap gr 2
    have b3 := cell_heap gr (j := 3) rfl
    have fb3 := fr_heap gr 3
    have b4 := cell_heap gr (j := 4) rfl
    have fb4 := fr_heap gr 4
    have b5 := cell_heap gr (j := 5) rfl
    have fb5 := fr_heap gr 5
    have b6 := cell_heap gr (j := 6) rfl
    have fb6 := fr_heap gr 6
    clear gr
    go_wp2_with fail
    refine bodyPost_ret (v := .tuple #[vH v, .int .i64 1]) ?_ rfl ?_
    · rw [results_cell2 rfl]
      unfold vH
      go_simp
    · rw [HPP.out]
      refine rtell (r := w.heap.size + 1) HB.out ⟨by omega, by have := HSz.out; omega⟩ HB2.out (HHv.out.below (on HB.out HB2.out)) (fun q hq => .inl hq) ?_ rfl
      repeat (first | with_reducible exact Turns.refl _ _ | with_reducible refine turns_put ?_ _ _)
  have HPP := hid (HPy.out (by omega))
  clear HPn HPy
  go_upto_region 6 with (fail)
  clear hneg hbig
  obtain ⟨w3, hw3⟩ : ∃ w3, w3 = w2.alloc (.cells #[] 89) := ⟨_, rfl⟩
  have b3 : Below w2.heap.size w2 w3 := by rw [hw3]; exact al _ _
  have HO3 : Hid (FilSt 89 6 enU w2.heap.size w3 u.now.U (fun x => decide (head < x.seq)) 0 (.slice (some ⟨w2.heap.size, 0, none⟩) 0 0)) := hid (by
    rw [hw3]
    exact Own.empty w2 (Nat.le_refl _) _ _ _)
  have HB3 := hid b3
  go_upto_region 7 with (fail)
  rw [← hw3]
  clear b3 hw3 k0 k1 k2 k3 k4 k5 k6
  go_wp2_with fail
  go_loopw [10, 11] (fun r i wr => ∃ k : Nat, k ≤ u.now.n3 ∧ i = .int .i64 k ∧ (∃ y m cy, r = .slice y m cy) ∧ Hid (FilSt 89 6 enU w2.heap.size wr u.now.U (fun x => decide (head < x.seq)) k r ∧ Below w2.heap.size w2 wr)) (fun _ i _ => u.now.n3 - (intOf i).toNat)
  case atStart => exact ⟨0, Nat.zero_le _, rfl, ⟨_, _, _, rfl⟩, HO3.out, HB3.out⟩
  case round =>
    clear HO3 HB3
    obtain ⟨k, hk, rfl, ⟨y, m, cy, rfl⟩, HR⟩ := hrel
    have hbr := HR.out.2
    obtain ⟨k0, k1, k2, k3, k4, k5, k6⟩ := hcells ((hbr.block p (lt_heap HGp.out)).trans HGp.out)
    by_cases hlt : k < u.now.n3
    · have hkn : (k : Int) < (u.now.n3 : Int) := by omega
      obtain ⟨x, hLx, hmx⟩ := Lis.some HO.out.s.u hlt
      rcases HO.out.s.u.row with h0 | ⟨b, o, hx, hbl, hF, hcell⟩
      · omega
      obtain ⟨r0, r1, r2, r3, r4, r5⟩ := u_at hcell hLx
      replace r0 := keep hbr r0
      replace r1 := keep hbr r1
      replace r2 := keep hbr r2
      replace r3 := keep hbr r3
      replace r4 := keep hbr r4
      replace r5 := keep hbr r5
      rw [hx] at k5
      have HX := hid (And.intro hx hLx)
      clear hcell hmx hLx hF hbl hx k0 k1 k2 k3 k4 k6
      by_cases hd : head < x.seq
      · obtain ⟨x', n', c', w4, hap, H4⟩ := FilSt.push (A := #[.int .i64 x.seq, .string x.nm, .bool x.has, .int .i64 x.was.sz, .slice x.was.x x.was.n x.was.c, .int .u32 x.was.sum]) HR.out.1 HX.out.2 (by simp [hd]) rfl urow hbr.size (by omega)
        have HBr := hid hbr
        clear hbr
        go_wp2_with (at_builtin; refine Lib.wpList_append_run _ rfl _ _ _ _ rfl _ _ rfl rfl _ _ hap ?_)
        go_roundw
        case rel => exact ⟨k + 1, by omega, by go_num, ⟨_, _, _, rfl⟩, H4.out.1, HBr.out.trans H4.out.2.1⟩
        case measure => simp [intOf]; try omega
      · have HBr := hid hbr
        clear hbr
        go_wp2_with fail
        go_roundw
        case rel => exact ⟨k + 1, by omega, by go_num, ⟨_, _, _, rfl⟩, FilSt.skip HR.out.1 HX.out.2 (by simp [hd]), HBr.out⟩
        case measure => simp [intOf]; try omega
    · have hk2 : u.now.n3 = k := by omega
      have hO := FilSt.all HR.out.1 (hk2.symm.trans HL3.out.symm)
      obtain ⟨y', c'', hform, _⟩ := hO.form
      injection hform with q1 q2 q3
      subst q1 q3
      have HM := hid q2
      have HBr := hid hbr
      have HO5 := hid hO
      have hgr := (hbr.block p (lt_heap HGp.out)).trans HGp.out
      have fk5 := fr_heap hgr 5
      have HGr := hid hgr
      clear hk2 hO q2 hbr hgr
      go_upto_region 13 with (fail)
      obtain ⟨uX, huX⟩ : ∃ uX : HV, uX = ⟨u.fe, ⟨u.now.pl, u.now.si, u.now.x1, u.now.n1, u.now.c1, u.now.I, u.now.x2, u.now.n2, u.now.c2, u.now.E, y, m, cy, u.now.U.filter (fun x => decide (head < x.seq))⟩, u.x, u.n, u.c, u.N⟩ := ⟨_, rfl⟩
      have hgX : (wr.setCell ⟨p, 5, none⟩ (.slice y m cy)).heap[p]? = some (.cells (HCells uX) 29 (0, 0)) := (heap_set HGr.out _).trans (by rw [huX]; unfold HCells; rfl)
      have tX := turns_put (j := 5) (Turns.refl (fun k => k = p) wr) (.slice y m cy)
      have bX : Below p w2 (wr.setCell ⟨p, 5, none⟩ (.slice y m cy)) := (HBr.out.mono (by have := HPz.out.1; omega)).trans (tX.below (fun q e => by omega) (by have := HPz.out.1; have := HBr.out.size; omega))
      generalize wr.setCell ⟨p, 5, none⟩ (.slice y m cy) = wX at *
      have HXX := hid (And.intro huX (And.intro tX bX))
      have hb1X : Below w1.heap.size w1 wX := HB2.out.trans (bX.mono HPz.out.2)
      have HB1X := hid hb1X
      clear huX tX bX fk5 k0 k1 k2 k3 k4 k5 k6
      obtain ⟨k0, k1, k2, k3, k4, k5, k6⟩ := hcells hgX
      have gr := HKr.out wX hb1X
      have b0 := cell_heap gr (j := 0) rfl
      have fb0 := fr_heap gr 0
      have b1 := cell_heap gr (j := 1) rfl
      have fb1 := fr_heap gr 1
      have b2 := cell_heap gr (j := 2) rfl
      have fb2 := fr_heap gr 2
      have b3 := cell_heap gr (j := 3) rfl
      have fb3 := fr_heap gr 3
      have b4 := cell_heap gr (j := 4) rfl
      have fb4 := fr_heap gr 4
      have b5 := cell_heap gr (j := 5) rfl
      have fb5 := fr_heap gr 5
      have b6 := cell_heap gr (j := 6) rfl
      have fb6 := fr_heap gr 6
      clear gr
      clear hgX hb1X
      go_wp2_with fail
      refine bodyPost_ret (v := .tuple #[vH uX, .int .i64 0]) ?_ rfl ?_
      · rw [results_cell2 rfl]
        unfold vH
        go_simp
      · rw [HPP.out]
        have kk : Keeps (fun q => (F q ∧ q < w.heap.size) ∨ (w1.heap.size ≤ q ∧ q < p)) w2 wX := ⟨HXX.out.2.2.size, fun q hq _ => HXX.out.2.2.block q (by
          rcases hq with hq | hq
          · have := hq.2; have := HPz.out.2; have := HSz.out; omega
          · exact hq.2)⟩
        have oX := HO5.out.turns HXX.out.2.1 (fun q hq e => by have := (World.ownsRow.lt HO5.out q hq).1; have := HPz.out.1; omega)
        have hu := HAt.keeps HO.out kk
        refine rtell (F2 := fun q => (F q ∧ q < w.heap.size) ∨ New w1 wX q) (r := w.heap.size + 1) HB.out ⟨by omega, by have := HSz.out; omega⟩ HB1X.out ?_ (fun q hq => hq) ?_ ?_
        · have sX := HXX.out.2.2.size
          have hz := HPz.out.1
          have wk : ∀ q, ((F q ∧ q < w.heap.size) ∨ (w1.heap.size ≤ q ∧ q < p)) → ((F q ∧ q < w.heap.size) ∨ New w1 wX q) := fun q hq => hq.imp id fun h => ⟨h.1, by have := h.2; omega⟩
          have hu2 := hu.weak wk
          rw [HXX.out.1]
          refine ⟨⟨hu2.s.i, hu2.s.e, ?_⟩, hu2.n⟩
          have e3 : m = (u.now.U.filter (fun x => decide (head < x.seq))).length := HM.out
          refine own_lis urow oX (Nat.le_trans (List.length_filter_le _ _) (by have := HL3.out; omega)) (fun q hq => .inr ?_) fun a ha => hu2.s.u.each a (List.mem_filter.1 ha).1
          have := World.ownsRow.lt oX q hq
          exact ⟨by have := this.1; have := HPz.out.2; omega, this.2⟩
        · repeat (first | with_reducible exact Turns.refl _ _ | with_reducible refine turns_put ?_ _ _)
        · rw [HXX.out.1]
          show (⟨u.fe, ⟨u.now.pl, u.now.si, u.now.I.map pI, u.now.E, (u.now.U.filter (fun x => decide (head < x.seq))).map pU⟩, u.N.map pS⟩ : Hld) = _
          have e4 : (u.now.U.filter (fun x => decide (head < x.seq))).map pU = (u.now.U.map pU).filter fun x => decide (head < x.seq) := by
            rw [List.filter_map]
            rfl
          rw [e4]
          rfl

end Go.Proofs.Ytnfflmndejbepaa.Sh
