/-
  The document's Apply: what is refused.
  Conditions: lists lie in memory.
-/
import Derived.Test.YthlfmbijagpggaaGreatJAtIns
import Derived.Test.YthlfmbijagpggaaGreatAtRefMay
namespace Go.Proofs.YthlfmbijagpggaaGreat.At
open Go.RowKit By Fl
set_option linter.unusedVariables false
set_option linter.unusedSimpArgs false
set_option maxRecDepth 100000

theorem applyP_bad {m : Mp} {c : Ch} (h : mayM m = false ∨ mayC c = false ∨ m.ep = 1048576) : applyP m c = (1, noM) := by
  by_cases hm : mayM m = true
  · have : advP m c = (1, m) := advP_no (by
      rcases h with h | h | h
      · rw [hm] at h; cases h
      · exact .inl h
      · exact .inr h)
    unfold applyP
    rw [if_pos hm, this, if_neg (by simp)]
  · unfold applyP
    rw [if_neg hm]

theorem applyP_err {m : Mp} {c : Ch} {r : Int × List Osd} (h : mayM m = true) (hc : mayC c = true) (h2 : m.ep ≠ 1048576) (hr : doP c.kind m.osds c.osd = r) (h3 : r.1 ≠ 0) : applyP m c = (r.1, noM) := by
  have := advP_err hc h2 hr h3
  unfold applyP
  rw [if_pos h, this, if_neg h3]

theorem applyP_ok {m : Mp} {c : Ch} {r : Int × List Osd} (h : mayM m = true) (hc : mayC c = true) (h2 : m.ep ≠ 1048576) (hr : doP c.kind m.osds c.osd = r) (h3 : r.1 = 0) : applyP m c = (0, ⟨m.ep + 1, m.pool, r.2⟩) := by
  have := advP_ok hc h2 hr h3
  unfold applyP
  rw [if_pos h, this, if_pos rfl]

set_option maxHeartbeats 3200000 in
theorem rapply_bad {w : World} {x : Option Addr} {n c : Nat} (m : Mp) (ch : Ch) (h : Os w x n c m.osds) (hno : mayM m = false ∨ mayC ch = false ∨ m.ep = 1048576) :
    Calls Tryz.prog 15 #[vM m.ep m.pool x n c, vC ch] w fun e w' => ∃ y yn yc, e = .returned (.tuple #[vM (applyP m ch).2.ep (applyP m ch).2.pool y yn yc, .int .i64 (applyP m ch).1]) ∧ Hid (ToldN w w' y yn yc (applyP m ch).2.osds) := by
  have HA := hid (applyP_bad hno)
  have hM := fun W (hW : Os W x n c m.osds) => rmay_any m hW
  have hC := fun W => rmayChange_any ch W
  have hP := fun W (hW : Os W x n c m.osds) => place_any m ch.osd.id hW
  have HS : Hid (∀ W, Below w.heap.size w W → Os W x n c m.osds) := fun W hW => h.below hW
  have HL := hid h.len
  have b0 := on (on (al w (.cells #[.int .i64 m.ep, .int .i64 m.pool.k, .int .i64 m.pool.m, .int .i64 m.pool.pgs, .int .i64 m.pool.dom, .slice x n c] 49)) (al _ (.cells #[.int .i64 ch.kind, .int .i64 ch.osd.id, .bool ch.osd.up, .bool ch.osd.inn, .int .i64 ch.osd.wt, .int .i64 ch.osd.life, .int .i64 ch.osd.boot, .int .i64 ch.osd.host, .int .i64 ch.osd.rack] 55))) (al _ (.cells #[.int .i64 0, .int .i64 0, .int .i64 0, .int .i64 0, .int .i64 0, .slice none 0 0] 49))
  have hM0 := hM _ (HS.out _ b0)
  have HB := hid b0
  have HX := hid (box3 w (.cells #[.int .i64 m.ep, .int .i64 m.pool.k, .int .i64 m.pool.m, .int .i64 m.pool.pgs, .int .i64 m.pool.dom, .slice x n c] 49) (.cells #[.int .i64 ch.kind, .int .i64 ch.osd.id, .bool ch.osd.up, .bool ch.osd.inn, .int .i64 ch.osd.wt, .int .i64 ch.osd.life, .int .i64 ch.osd.boot, .int .i64 ch.osd.host, .int .i64 ch.osd.rack] 55) (.cells #[.int .i64 0, .int .i64 0, .int .i64 0, .int .i64 0, .int .i64 0, .slice none 0 0] 49))
  have hsm := h.small
  clear hM h b0
  cases h1 : mayM m with
  | false =>
      rw [h1] at hM0
      clear hno h1
      obtain ⟨ep, ⟨pk, pm, pg, pd⟩, L⟩ := m
      obtain ⟨ck, c0, c1, c2, c3, c4, c5, c6, c7⟩ := ch
      unfold vM vC at *
      dsimp only at hM0 hC hP HB HX HS HA ⊢
      go_enter Tryz.func15, Tryz.ntmps15
      go_wp2_with (first
      | (
         go_at_call 24; refine hM0.mono ?_; rintro e w1 ⟨rfl, hb1⟩; clear hM0
         have em := (hb1.block _ (Array.getElem?_eq_some_iff.1 HX.out.1).1).trans HX.out.1
         have ec := (hb1.block _ (Array.getElem?_eq_some_iff.1 HX.out.2.1).1).trans HX.out.2.1
         have er := (hb1.block _ (Array.getElem?_eq_some_iff.1 HX.out.2.2).1).trans HX.out.2.2
         have HE1 := hid (And.intro em (And.intro ec er))
         have B1 := hid (on HB.out hb1)
         have l1 : w.heap.size + 1 + 1 < w1.heap.size := (Array.getElem?_eq_some_iff.1 er).1
         have d0 : w1.cell? ⟨w.heap.size + 1 + 1, 0, none⟩ = some (.int .i64 0) := cell_heap er rfl
         have d1 : w1.cell? ⟨w.heap.size + 1 + 1, 1, none⟩ = some (.int .i64 0) := cell_heap er rfl
         have d2 : w1.cell? ⟨w.heap.size + 1 + 1, 2, none⟩ = some (.int .i64 0) := cell_heap er rfl
         have d3 : w1.cell? ⟨w.heap.size + 1 + 1, 3, none⟩ = some (.int .i64 0) := cell_heap er rfl
         have d4 : w1.cell? ⟨w.heap.size + 1 + 1, 4, none⟩ = some (.int .i64 0) := cell_heap er rfl
         have d5 : w1.cell? ⟨w.heap.size + 1 + 1, 5, none⟩ = some (.slice none 0 0) := cell_heap er rfl
         have g0 := fr_heap er 0
         have g1 := fr_heap er 1
         have g2 := fr_heap er 2
         have g3 := fr_heap er 3
         have g4 := fr_heap er 4
         have g5 := fr_heap er 5
         clear hb1 em ec er))
      refine bodyPost_ret (v := .tuple #[.agg #[.int .i64 0, .int .i64 0, .int .i64 0, .int .i64 0, .int .i64 0, .slice none 0 0], .int .i64 1]) ?_ rfl ?_
      · rw [results_cell2 rfl]
        go_simp
      · rw [HA.out]
        refine ⟨none, 0, 0, rfl, ?_, os_none _, fun a e => by cases e⟩
        repeat (first | with_reducible exact B1.out | (with_reducible refine Below.setCell ?_ (by first | (simp; done) | (simp; omega) | omega) _) | (with_reducible refine Below.alloc ?_ (by first | (simp; done) | (simp; omega) | omega) _))
  | true =>
      rw [h1] at hM0
      cases h2 : mayC ch with
      | false =>
          rw [h2] at hC
          clear hno h1 h2
          obtain ⟨ep, ⟨pk, pm, pg, pd⟩, L⟩ := m
          obtain ⟨ck, c0, c1, c2, c3, c4, c5, c6, c7⟩ := ch
          unfold vM vC at *
          dsimp only at hM0 hC hP HB HX HS HA ⊢
          go_enter Tryz.func15, Tryz.ntmps15
          go_wp2_with (first
          | (
             go_at_call 24; refine hM0.mono ?_; rintro e w1 ⟨rfl, hb1⟩; clear hM0
             have em := (hb1.block _ (Array.getElem?_eq_some_iff.1 HX.out.1).1).trans HX.out.1
             have ec := (hb1.block _ (Array.getElem?_eq_some_iff.1 HX.out.2.1).1).trans HX.out.2.1
             have er := (hb1.block _ (Array.getElem?_eq_some_iff.1 HX.out.2.2).1).trans HX.out.2.2
             have HE1 := hid (And.intro em (And.intro ec er))
             have B1 := hid (on HB.out hb1)
             have l1 : w.heap.size + 1 + 1 < w1.heap.size := (Array.getElem?_eq_some_iff.1 er).1
             have j0 : w1.cell? ⟨w.heap.size + 1, 0, none⟩ = some (.int .i64 ck) := cell_heap ec rfl
             have j1 : w1.cell? ⟨w.heap.size + 1, 1, none⟩ = some (.int .i64 c0) := cell_heap ec rfl
             have j2 : w1.cell? ⟨w.heap.size + 1, 2, none⟩ = some (.bool c1) := cell_heap ec rfl
             have j3 : w1.cell? ⟨w.heap.size + 1, 3, none⟩ = some (.bool c2) := cell_heap ec rfl
             have j4 : w1.cell? ⟨w.heap.size + 1, 4, none⟩ = some (.int .i64 c3) := cell_heap ec rfl
             have j5 : w1.cell? ⟨w.heap.size + 1, 5, none⟩ = some (.int .i64 c4) := cell_heap ec rfl
             have j6 : w1.cell? ⟨w.heap.size + 1, 6, none⟩ = some (.int .i64 c5) := cell_heap ec rfl
             have j7 : w1.cell? ⟨w.heap.size + 1, 7, none⟩ = some (.int .i64 c6) := cell_heap ec rfl
             have j8 : w1.cell? ⟨w.heap.size + 1, 8, none⟩ = some (.int .i64 c7) := cell_heap ec rfl
             clear hb1 em ec er)
          | (
             go_at_call 25; refine (hC _).mono ?_; rintro e w2 ⟨rfl, hb2⟩; clear hC
             have em := (hb2.block _ (Array.getElem?_eq_some_iff.1 HE1.out.1).1).trans HE1.out.1
             have ec := (hb2.block _ (Array.getElem?_eq_some_iff.1 HE1.out.2.1).1).trans HE1.out.2.1
             have er := (hb2.block _ (Array.getElem?_eq_some_iff.1 HE1.out.2.2).1).trans HE1.out.2.2
             have HE2 := hid (And.intro em (And.intro ec er))
             have B2 := hid (on B1.out hb2)
             have l2 : w.heap.size + 1 + 1 < w2.heap.size := (Array.getElem?_eq_some_iff.1 er).1
             have m0 : w2.cell? ⟨w.heap.size, 0, none⟩ = some (.int .i64 ep) := cell_heap em rfl
             have m1 : w2.cell? ⟨w.heap.size, 1, none⟩ = some (.int .i64 pk) := cell_heap em rfl
             have m2 : w2.cell? ⟨w.heap.size, 2, none⟩ = some (.int .i64 pm) := cell_heap em rfl
             have m3 : w2.cell? ⟨w.heap.size, 3, none⟩ = some (.int .i64 pg) := cell_heap em rfl
             have m4 : w2.cell? ⟨w.heap.size, 4, none⟩ = some (.int .i64 pd) := cell_heap em rfl
             have m5 : w2.cell? ⟨w.heap.size, 5, none⟩ = some (.slice x n c) := cell_heap em rfl
             have q1 : w2.cell? ⟨w.heap.size + 1, 1, none⟩ = some (.int .i64 c0) := cell_heap ec rfl
             have d0 : w2.cell? ⟨w.heap.size + 1 + 1, 0, none⟩ = some (.int .i64 0) := cell_heap er rfl
             have d1 : w2.cell? ⟨w.heap.size + 1 + 1, 1, none⟩ = some (.int .i64 0) := cell_heap er rfl
             have d2 : w2.cell? ⟨w.heap.size + 1 + 1, 2, none⟩ = some (.int .i64 0) := cell_heap er rfl
             have d3 : w2.cell? ⟨w.heap.size + 1 + 1, 3, none⟩ = some (.int .i64 0) := cell_heap er rfl
             have d4 : w2.cell? ⟨w.heap.size + 1 + 1, 4, none⟩ = some (.int .i64 0) := cell_heap er rfl
             have d5 : w2.cell? ⟨w.heap.size + 1 + 1, 5, none⟩ = some (.slice none 0 0) := cell_heap er rfl
             have g0 := fr_heap er 0
             have g1 := fr_heap er 1
             have g2 := fr_heap er 2
             have g3 := fr_heap er 3
             have g4 := fr_heap er 4
             have g5 := fr_heap er 5
             clear hb2 em ec er))
          refine bodyPost_ret (v := .tuple #[.agg #[.int .i64 0, .int .i64 0, .int .i64 0, .int .i64 0, .int .i64 0, .slice none 0 0], .int .i64 1]) ?_ rfl ?_
          · rw [results_cell2 rfl]
            go_simp
          · rw [HA.out]
            refine ⟨none, 0, 0, rfl, ?_, os_none _, fun a e => by cases e⟩
            repeat (first | with_reducible exact B2.out | (with_reducible refine Below.setCell ?_ (by first | (simp; done) | (simp; omega) | omega) _) | (with_reducible refine Below.alloc ?_ (by first | (simp; done) | (simp; omega) | omega) _))
      | true =>
          rw [h2] at hC
          have he : m.ep = 1048576 := by
            rcases hno with q | q | q
            · rw [h1] at q; cases q
            · rw [h2] at q; cases q
            · exact q
          clear hno h1 h2
          obtain ⟨ep, ⟨pk, pm, pg, pd⟩, L⟩ := m
          obtain ⟨ck, c0, c1, c2, c3, c4, c5, c6, c7⟩ := ch
          unfold vM vC at *
          dsimp only at hM0 hC hP HB HX HS HA he ⊢
          subst he
          go_enter Tryz.func15, Tryz.ntmps15
          go_wp2_with (first
          | (
             go_at_call 24; refine hM0.mono ?_; rintro e w1 ⟨rfl, hb1⟩; clear hM0
             have em := (hb1.block _ (Array.getElem?_eq_some_iff.1 HX.out.1).1).trans HX.out.1
             have ec := (hb1.block _ (Array.getElem?_eq_some_iff.1 HX.out.2.1).1).trans HX.out.2.1
             have er := (hb1.block _ (Array.getElem?_eq_some_iff.1 HX.out.2.2).1).trans HX.out.2.2
             have HE1 := hid (And.intro em (And.intro ec er))
             have B1 := hid (on HB.out hb1)
             have l1 : w.heap.size + 1 + 1 < w1.heap.size := (Array.getElem?_eq_some_iff.1 er).1
             have j0 : w1.cell? ⟨w.heap.size + 1, 0, none⟩ = some (.int .i64 ck) := cell_heap ec rfl
             have j1 : w1.cell? ⟨w.heap.size + 1, 1, none⟩ = some (.int .i64 c0) := cell_heap ec rfl
             have j2 : w1.cell? ⟨w.heap.size + 1, 2, none⟩ = some (.bool c1) := cell_heap ec rfl
             have j3 : w1.cell? ⟨w.heap.size + 1, 3, none⟩ = some (.bool c2) := cell_heap ec rfl
             have j4 : w1.cell? ⟨w.heap.size + 1, 4, none⟩ = some (.int .i64 c3) := cell_heap ec rfl
             have j5 : w1.cell? ⟨w.heap.size + 1, 5, none⟩ = some (.int .i64 c4) := cell_heap ec rfl
             have j6 : w1.cell? ⟨w.heap.size + 1, 6, none⟩ = some (.int .i64 c5) := cell_heap ec rfl
             have j7 : w1.cell? ⟨w.heap.size + 1, 7, none⟩ = some (.int .i64 c6) := cell_heap ec rfl
             have j8 : w1.cell? ⟨w.heap.size + 1, 8, none⟩ = some (.int .i64 c7) := cell_heap ec rfl
             clear hb1 em ec er)
          | (
             go_at_call 25; refine (hC _).mono ?_; rintro e w2 ⟨rfl, hb2⟩; clear hC
             have em := (hb2.block _ (Array.getElem?_eq_some_iff.1 HE1.out.1).1).trans HE1.out.1
             have ec := (hb2.block _ (Array.getElem?_eq_some_iff.1 HE1.out.2.1).1).trans HE1.out.2.1
             have er := (hb2.block _ (Array.getElem?_eq_some_iff.1 HE1.out.2.2).1).trans HE1.out.2.2
             have HE2 := hid (And.intro em (And.intro ec er))
             have B2 := hid (on B1.out hb2)
             have l2 : w.heap.size + 1 + 1 < w2.heap.size := (Array.getElem?_eq_some_iff.1 er).1
             have m0 : w2.cell? ⟨w.heap.size, 0, none⟩ = some (.int .i64 1048576) := cell_heap em rfl
             have m1 : w2.cell? ⟨w.heap.size, 1, none⟩ = some (.int .i64 pk) := cell_heap em rfl
             have m2 : w2.cell? ⟨w.heap.size, 2, none⟩ = some (.int .i64 pm) := cell_heap em rfl
             have m3 : w2.cell? ⟨w.heap.size, 3, none⟩ = some (.int .i64 pg) := cell_heap em rfl
             have m4 : w2.cell? ⟨w.heap.size, 4, none⟩ = some (.int .i64 pd) := cell_heap em rfl
             have m5 : w2.cell? ⟨w.heap.size, 5, none⟩ = some (.slice x n c) := cell_heap em rfl
             have q1 : w2.cell? ⟨w.heap.size + 1, 1, none⟩ = some (.int .i64 c0) := cell_heap ec rfl
             have d0 : w2.cell? ⟨w.heap.size + 1 + 1, 0, none⟩ = some (.int .i64 0) := cell_heap er rfl
             have d1 : w2.cell? ⟨w.heap.size + 1 + 1, 1, none⟩ = some (.int .i64 0) := cell_heap er rfl
             have d2 : w2.cell? ⟨w.heap.size + 1 + 1, 2, none⟩ = some (.int .i64 0) := cell_heap er rfl
             have d3 : w2.cell? ⟨w.heap.size + 1 + 1, 3, none⟩ = some (.int .i64 0) := cell_heap er rfl
             have d4 : w2.cell? ⟨w.heap.size + 1 + 1, 4, none⟩ = some (.int .i64 0) := cell_heap er rfl
             have d5 : w2.cell? ⟨w.heap.size + 1 + 1, 5, none⟩ = some (.slice none 0 0) := cell_heap er rfl
             have g0 := fr_heap er 0
             have g1 := fr_heap er 1
             have g2 := fr_heap er 2
             have g3 := fr_heap er 3
             have g4 := fr_heap er 4
             have g5 := fr_heap er 5
             clear hb2 em ec er))
          refine bodyPost_ret (v := .tuple #[.agg #[.int .i64 0, .int .i64 0, .int .i64 0, .int .i64 0, .int .i64 0, .slice none 0 0], .int .i64 1]) ?_ rfl ?_
          · rw [results_cell2 rfl]
            go_simp
          · rw [HA.out]
            refine ⟨none, 0, 0, rfl, ?_, os_none _, fun a e => by cases e⟩
            repeat (first | with_reducible exact B2.out | (with_reducible refine Below.setCell ?_ (by first | (simp; done) | (simp; omega) | omega) _) | (with_reducible refine Below.alloc ?_ (by first | (simp; done) | (simp; omega) | omega) _))

set_option maxHeartbeats 3200000 in
theorem rapply_dup {w : World} {x : Option Addr} {n c : Nat} (m : Mp) (ch : Ch) (h : Os w x n c m.osds) (h1 : mayM m = true) (h2 : mayC ch = true) (h3 : m.ep ≠ 1048576) (hk : ch.kind = 1) {q : Nat} (hf : m.osds.findIdx? (isId ch.osd.id) = some q) :
    Calls Tryz.prog 15 #[vM m.ep m.pool x n c, vC ch] w fun e w' => ∃ y yn yc, e = .returned (.tuple #[vM (applyP m ch).2.ep (applyP m ch).2.pool y yn yc, .int .i64 (applyP m ch).1]) ∧ Hid (ToldN w w' y yn yc (applyP m ch).2.osds) := by
  have hd : doP ch.kind m.osds ch.osd = (6, m.osds) := by unfold doP addP; rw [if_pos hk, hf]; rfl
  have HA := hid (applyP_err h1 h2 h3 hd (by simp))
  have hM := fun W (hW : Os W x n c m.osds) => rmay_any m hW
  have hC := fun W => rmayChange_any ch W
  have hP := fun W (hW : Os W x n c m.osds) => place_any m ch.osd.id hW
  have HS : Hid (∀ W, Below w.heap.size w W → Os W x n c m.osds) := fun W hW => h.below hW
  have HL := hid h.len
  have b0 := on (on (al w (.cells #[.int .i64 m.ep, .int .i64 m.pool.k, .int .i64 m.pool.m, .int .i64 m.pool.pgs, .int .i64 m.pool.dom, .slice x n c] 49)) (al _ (.cells #[.int .i64 ch.kind, .int .i64 ch.osd.id, .bool ch.osd.up, .bool ch.osd.inn, .int .i64 ch.osd.wt, .int .i64 ch.osd.life, .int .i64 ch.osd.boot, .int .i64 ch.osd.host, .int .i64 ch.osd.rack] 55))) (al _ (.cells #[.int .i64 0, .int .i64 0, .int .i64 0, .int .i64 0, .int .i64 0, .slice none 0 0] 49))
  have hM0 := hM _ (HS.out _ b0)
  have HB := hid b0
  have HX := hid (box3 w (.cells #[.int .i64 m.ep, .int .i64 m.pool.k, .int .i64 m.pool.m, .int .i64 m.pool.pgs, .int .i64 m.pool.dom, .slice x n c] 49) (.cells #[.int .i64 ch.kind, .int .i64 ch.osd.id, .bool ch.osd.up, .bool ch.osd.inn, .int .i64 ch.osd.wt, .int .i64 ch.osd.life, .int .i64 ch.osd.boot, .int .i64 ch.osd.host, .int .i64 ch.osd.rack] 55) (.cells #[.int .i64 0, .int .i64 0, .int .i64 0, .int .i64 0, .int .i64 0, .slice none 0 0] 49))
  have hsm := h.small
  clear hM h b0
  rw [h1] at hM0
  rw [h2] at hC
  rw [show idx (isId ch.osd.id) m.osds = (q : Int) by unfold idx; rw [hf]] at hP
  have hq0 : (0 : Int) ≤ (q : Int) := by omega
  clear hf
  obtain ⟨e0, e1⟩ := (may_parts h1).1
  have hwr : IntKind.i64.wrap (m.ep + 1) = m.ep + 1 := by rw [IntKind.wrap_i64]; omega
  have hne : (m.ep == 1048576) = false := by simpa using h3
  clear h1 h2 h3 e0 e1 hd
  obtain ⟨ep, ⟨pk, pm, pg, pd⟩, L⟩ := m
  obtain ⟨ck, c0, c1, c2, c3, c4, c5, c6, c7⟩ := ch
  unfold vM vC at *
  dsimp only at hM0 hC hP HB HX HS HA hwr hne hk ⊢
  subst hk
  go_enter Tryz.func15, Tryz.ntmps15
  go_wp2_with (first
      | (
         go_at_call 24; refine hM0.mono ?_; rintro e w1 ⟨rfl, hb1⟩; clear hM0
         have em := (hb1.block _ (Array.getElem?_eq_some_iff.1 HX.out.1).1).trans HX.out.1
         have ec := (hb1.block _ (Array.getElem?_eq_some_iff.1 HX.out.2.1).1).trans HX.out.2.1
         have er := (hb1.block _ (Array.getElem?_eq_some_iff.1 HX.out.2.2).1).trans HX.out.2.2
         have HE1 := hid (And.intro em (And.intro ec er))
         have B1 := hid (on HB.out hb1)
         have l1 : w.heap.size + 1 + 1 < w1.heap.size := (Array.getElem?_eq_some_iff.1 er).1
         have j0 : w1.cell? ⟨w.heap.size + 1, 0, none⟩ = some (.int .i64 1) := cell_heap ec rfl
         have j1 : w1.cell? ⟨w.heap.size + 1, 1, none⟩ = some (.int .i64 c0) := cell_heap ec rfl
         have j2 : w1.cell? ⟨w.heap.size + 1, 2, none⟩ = some (.bool c1) := cell_heap ec rfl
         have j3 : w1.cell? ⟨w.heap.size + 1, 3, none⟩ = some (.bool c2) := cell_heap ec rfl
         have j4 : w1.cell? ⟨w.heap.size + 1, 4, none⟩ = some (.int .i64 c3) := cell_heap ec rfl
         have j5 : w1.cell? ⟨w.heap.size + 1, 5, none⟩ = some (.int .i64 c4) := cell_heap ec rfl
         have j6 : w1.cell? ⟨w.heap.size + 1, 6, none⟩ = some (.int .i64 c5) := cell_heap ec rfl
         have j7 : w1.cell? ⟨w.heap.size + 1, 7, none⟩ = some (.int .i64 c6) := cell_heap ec rfl
         have j8 : w1.cell? ⟨w.heap.size + 1, 8, none⟩ = some (.int .i64 c7) := cell_heap ec rfl
         clear hb1 em ec er)
      | (
         go_at_call 25; refine (hC _).mono ?_; rintro e w2 ⟨rfl, hb2⟩; clear hC
         have em := (hb2.block _ (Array.getElem?_eq_some_iff.1 HE1.out.1).1).trans HE1.out.1
         have ec := (hb2.block _ (Array.getElem?_eq_some_iff.1 HE1.out.2.1).1).trans HE1.out.2.1
         have er := (hb2.block _ (Array.getElem?_eq_some_iff.1 HE1.out.2.2).1).trans HE1.out.2.2
         have HE2 := hid (And.intro em (And.intro ec er))
         have B2 := hid (on B1.out hb2)
         have l2 : w.heap.size + 1 + 1 < w2.heap.size := (Array.getElem?_eq_some_iff.1 er).1
         have m0 : w2.cell? ⟨w.heap.size, 0, none⟩ = some (.int .i64 ep) := cell_heap em rfl
         have m1 : w2.cell? ⟨w.heap.size, 1, none⟩ = some (.int .i64 pk) := cell_heap em rfl
         have m2 : w2.cell? ⟨w.heap.size, 2, none⟩ = some (.int .i64 pm) := cell_heap em rfl
         have m3 : w2.cell? ⟨w.heap.size, 3, none⟩ = some (.int .i64 pg) := cell_heap em rfl
         have m4 : w2.cell? ⟨w.heap.size, 4, none⟩ = some (.int .i64 pd) := cell_heap em rfl
         have m5 : w2.cell? ⟨w.heap.size, 5, none⟩ = some (.slice x n c) := cell_heap em rfl
         have q1 : w2.cell? ⟨w.heap.size + 1, 1, none⟩ = some (.int .i64 c0) := cell_heap ec rfl
         have hP2 := hP w2 (HS.out w2 B2.out)
         clear hb2 em ec er)
      | (
         go_at_call 26; refine hP2.mono ?_; rintro e w3 ⟨rfl, hb3⟩; clear hP2
         have em := (hb3.block _ (Array.getElem?_eq_some_iff.1 HE2.out.1).1).trans HE2.out.1
         have ec := (hb3.block _ (Array.getElem?_eq_some_iff.1 HE2.out.2.1).1).trans HE2.out.2.1
         have er := (hb3.block _ (Array.getElem?_eq_some_iff.1 HE2.out.2.2).1).trans HE2.out.2.2
         have HE3 := hid (And.intro em (And.intro ec er))
         have B3 := hid (on B2.out hb3)
         have l3 : w.heap.size + 1 + 1 < w3.heap.size := (Array.getElem?_eq_some_iff.1 er).1
         have l3a : w.heap.size < w3.heap.size := (Array.getElem?_eq_some_iff.1 em).1
         have l3b : w.heap.size + 1 < w3.heap.size := (Array.getElem?_eq_some_iff.1 ec).1
         have m0 : w3.cell? ⟨w.heap.size, 0, none⟩ = some (.int .i64 ep) := cell_heap em rfl
         have m1 : w3.cell? ⟨w.heap.size, 1, none⟩ = some (.int .i64 pk) := cell_heap em rfl
         have m2 : w3.cell? ⟨w.heap.size, 2, none⟩ = some (.int .i64 pm) := cell_heap em rfl
         have m3 : w3.cell? ⟨w.heap.size, 3, none⟩ = some (.int .i64 pg) := cell_heap em rfl
         have m4 : w3.cell? ⟨w.heap.size, 4, none⟩ = some (.int .i64 pd) := cell_heap em rfl
         have m5 : w3.cell? ⟨w.heap.size, 5, none⟩ = some (.slice x n c) := cell_heap em rfl
         have q0 : w3.cell? ⟨w.heap.size + 1, 0, none⟩ = some (.int .i64 1) := cell_heap ec rfl
         have q1 : w3.cell? ⟨w.heap.size + 1, 1, none⟩ = some (.int .i64 c0) := cell_heap ec rfl
         have q2 : w3.cell? ⟨w.heap.size + 1, 2, none⟩ = some (.bool c1) := cell_heap ec rfl
         have q3 : w3.cell? ⟨w.heap.size + 1, 3, none⟩ = some (.bool c2) := cell_heap ec rfl
         have q4 : w3.cell? ⟨w.heap.size + 1, 4, none⟩ = some (.int .i64 c3) := cell_heap ec rfl
         have q5 : w3.cell? ⟨w.heap.size + 1, 5, none⟩ = some (.int .i64 c4) := cell_heap ec rfl
         have q6 : w3.cell? ⟨w.heap.size + 1, 6, none⟩ = some (.int .i64 c5) := cell_heap ec rfl
         have q7 : w3.cell? ⟨w.heap.size + 1, 7, none⟩ = some (.int .i64 c6) := cell_heap ec rfl
         have q8 : w3.cell? ⟨w.heap.size + 1, 8, none⟩ = some (.int .i64 c7) := cell_heap ec rfl
         have d0 : w3.cell? ⟨w.heap.size + 1 + 1, 0, none⟩ = some (.int .i64 0) := cell_heap er rfl
         have d1 : w3.cell? ⟨w.heap.size + 1 + 1, 1, none⟩ = some (.int .i64 0) := cell_heap er rfl
         have d2 : w3.cell? ⟨w.heap.size + 1 + 1, 2, none⟩ = some (.int .i64 0) := cell_heap er rfl
         have d3 : w3.cell? ⟨w.heap.size + 1 + 1, 3, none⟩ = some (.int .i64 0) := cell_heap er rfl
         have d4 : w3.cell? ⟨w.heap.size + 1 + 1, 4, none⟩ = some (.int .i64 0) := cell_heap er rfl
         have d5 : w3.cell? ⟨w.heap.size + 1 + 1, 5, none⟩ = some (.slice none 0 0) := cell_heap er rfl
         have g0 := fr_heap er 0
         have g1 := fr_heap er 1
         have g2 := fr_heap er 2
         have g3 := fr_heap er 3
         have g4 := fr_heap er 4
         have g5 := fr_heap er 5
         clear hb3 em ec er))
  refine bodyPost_ret (v := .tuple #[.agg #[.int .i64 0, .int .i64 0, .int .i64 0, .int .i64 0, .int .i64 0, .slice none 0 0], .int .i64 6]) ?_ rfl ?_
  · rw [results_cell2 rfl]
    go_simp
  · rw [HA.out]
    refine ⟨none, 0, 0, rfl, ?_, os_none _, fun a e => by cases e⟩
    repeat (first | with_reducible exact B3.out | (with_reducible refine Below.setCell ?_ (by first | (simp; done) | (simp; omega) | omega) _) | (with_reducible refine Below.alloc ?_ (by first | (simp; done) | (simp; omega) | omega) _))

set_option maxHeartbeats 3200000 in
theorem rapply_full {w : World} {x : Option Addr} {n c : Nat} (m : Mp) (ch : Ch) (h : Os w x n c m.osds) (h1 : mayM m = true) (h2 : mayC ch = true) (h3 : m.ep ≠ 1048576) (hk : ch.kind = 1) (hf : m.osds.findIdx? (isId ch.osd.id) = none) (hl : 64 ≤ m.osds.length) :
    Calls Tryz.prog 15 #[vM m.ep m.pool x n c, vC ch] w fun e w' => ∃ y yn yc, e = .returned (.tuple #[vM (applyP m ch).2.ep (applyP m ch).2.pool y yn yc, .int .i64 (applyP m ch).1]) ∧ Hid (ToldN w w' y yn yc (applyP m ch).2.osds) := by
  have hd : doP ch.kind m.osds ch.osd = (2, m.osds) := by unfold doP addP; rw [if_pos hk, hf, if_neg (by simp), if_pos hl]
  have HA := hid (applyP_err h1 h2 h3 hd (by simp))
  have hM := fun W (hW : Os W x n c m.osds) => rmay_any m hW
  have hC := fun W => rmayChange_any ch W
  have hP := fun W (hW : Os W x n c m.osds) => place_any m ch.osd.id hW
  have HS : Hid (∀ W, Below w.heap.size w W → Os W x n c m.osds) := fun W hW => h.below hW
  have HL := hid h.len
  have b0 := on (on (al w (.cells #[.int .i64 m.ep, .int .i64 m.pool.k, .int .i64 m.pool.m, .int .i64 m.pool.pgs, .int .i64 m.pool.dom, .slice x n c] 49)) (al _ (.cells #[.int .i64 ch.kind, .int .i64 ch.osd.id, .bool ch.osd.up, .bool ch.osd.inn, .int .i64 ch.osd.wt, .int .i64 ch.osd.life, .int .i64 ch.osd.boot, .int .i64 ch.osd.host, .int .i64 ch.osd.rack] 55))) (al _ (.cells #[.int .i64 0, .int .i64 0, .int .i64 0, .int .i64 0, .int .i64 0, .slice none 0 0] 49))
  have hM0 := hM _ (HS.out _ b0)
  have HB := hid b0
  have HX := hid (box3 w (.cells #[.int .i64 m.ep, .int .i64 m.pool.k, .int .i64 m.pool.m, .int .i64 m.pool.pgs, .int .i64 m.pool.dom, .slice x n c] 49) (.cells #[.int .i64 ch.kind, .int .i64 ch.osd.id, .bool ch.osd.up, .bool ch.osd.inn, .int .i64 ch.osd.wt, .int .i64 ch.osd.life, .int .i64 ch.osd.boot, .int .i64 ch.osd.host, .int .i64 ch.osd.rack] 55) (.cells #[.int .i64 0, .int .i64 0, .int .i64 0, .int .i64 0, .int .i64 0, .slice none 0 0] 49))
  have hsm := h.small
  clear hM h b0
  rw [h1] at hM0
  rw [h2] at hC
  rw [show idx (isId ch.osd.id) m.osds = -1 by unfold idx; rw [hf]] at hP
  have hq0 : (64 : Int) ≤ (n : Int) := by rw [← HL.out]; omega
  clear hf hl
  obtain ⟨e0, e1⟩ := (may_parts h1).1
  have hwr : IntKind.i64.wrap (m.ep + 1) = m.ep + 1 := by rw [IntKind.wrap_i64]; omega
  have hne : (m.ep == 1048576) = false := by simpa using h3
  clear h1 h2 h3 e0 e1 hd
  obtain ⟨ep, ⟨pk, pm, pg, pd⟩, L⟩ := m
  obtain ⟨ck, c0, c1, c2, c3, c4, c5, c6, c7⟩ := ch
  unfold vM vC at *
  dsimp only at hM0 hC hP HB HX HS HA hwr hne hk ⊢
  subst hk
  go_enter Tryz.func15, Tryz.ntmps15
  go_wp2_with (first
      | (
         go_at_call 24; refine hM0.mono ?_; rintro e w1 ⟨rfl, hb1⟩; clear hM0
         have em := (hb1.block _ (Array.getElem?_eq_some_iff.1 HX.out.1).1).trans HX.out.1
         have ec := (hb1.block _ (Array.getElem?_eq_some_iff.1 HX.out.2.1).1).trans HX.out.2.1
         have er := (hb1.block _ (Array.getElem?_eq_some_iff.1 HX.out.2.2).1).trans HX.out.2.2
         have HE1 := hid (And.intro em (And.intro ec er))
         have B1 := hid (on HB.out hb1)
         have l1 : w.heap.size + 1 + 1 < w1.heap.size := (Array.getElem?_eq_some_iff.1 er).1
         have j0 : w1.cell? ⟨w.heap.size + 1, 0, none⟩ = some (.int .i64 1) := cell_heap ec rfl
         have j1 : w1.cell? ⟨w.heap.size + 1, 1, none⟩ = some (.int .i64 c0) := cell_heap ec rfl
         have j2 : w1.cell? ⟨w.heap.size + 1, 2, none⟩ = some (.bool c1) := cell_heap ec rfl
         have j3 : w1.cell? ⟨w.heap.size + 1, 3, none⟩ = some (.bool c2) := cell_heap ec rfl
         have j4 : w1.cell? ⟨w.heap.size + 1, 4, none⟩ = some (.int .i64 c3) := cell_heap ec rfl
         have j5 : w1.cell? ⟨w.heap.size + 1, 5, none⟩ = some (.int .i64 c4) := cell_heap ec rfl
         have j6 : w1.cell? ⟨w.heap.size + 1, 6, none⟩ = some (.int .i64 c5) := cell_heap ec rfl
         have j7 : w1.cell? ⟨w.heap.size + 1, 7, none⟩ = some (.int .i64 c6) := cell_heap ec rfl
         have j8 : w1.cell? ⟨w.heap.size + 1, 8, none⟩ = some (.int .i64 c7) := cell_heap ec rfl
         clear hb1 em ec er)
      | (
         go_at_call 25; refine (hC _).mono ?_; rintro e w2 ⟨rfl, hb2⟩; clear hC
         have em := (hb2.block _ (Array.getElem?_eq_some_iff.1 HE1.out.1).1).trans HE1.out.1
         have ec := (hb2.block _ (Array.getElem?_eq_some_iff.1 HE1.out.2.1).1).trans HE1.out.2.1
         have er := (hb2.block _ (Array.getElem?_eq_some_iff.1 HE1.out.2.2).1).trans HE1.out.2.2
         have HE2 := hid (And.intro em (And.intro ec er))
         have B2 := hid (on B1.out hb2)
         have l2 : w.heap.size + 1 + 1 < w2.heap.size := (Array.getElem?_eq_some_iff.1 er).1
         have m0 : w2.cell? ⟨w.heap.size, 0, none⟩ = some (.int .i64 ep) := cell_heap em rfl
         have m1 : w2.cell? ⟨w.heap.size, 1, none⟩ = some (.int .i64 pk) := cell_heap em rfl
         have m2 : w2.cell? ⟨w.heap.size, 2, none⟩ = some (.int .i64 pm) := cell_heap em rfl
         have m3 : w2.cell? ⟨w.heap.size, 3, none⟩ = some (.int .i64 pg) := cell_heap em rfl
         have m4 : w2.cell? ⟨w.heap.size, 4, none⟩ = some (.int .i64 pd) := cell_heap em rfl
         have m5 : w2.cell? ⟨w.heap.size, 5, none⟩ = some (.slice x n c) := cell_heap em rfl
         have q1 : w2.cell? ⟨w.heap.size + 1, 1, none⟩ = some (.int .i64 c0) := cell_heap ec rfl
         have hP2 := hP w2 (HS.out w2 B2.out)
         clear hb2 em ec er)
      | (
         go_at_call 26; refine hP2.mono ?_; rintro e w3 ⟨rfl, hb3⟩; clear hP2
         have em := (hb3.block _ (Array.getElem?_eq_some_iff.1 HE2.out.1).1).trans HE2.out.1
         have ec := (hb3.block _ (Array.getElem?_eq_some_iff.1 HE2.out.2.1).1).trans HE2.out.2.1
         have er := (hb3.block _ (Array.getElem?_eq_some_iff.1 HE2.out.2.2).1).trans HE2.out.2.2
         have HE3 := hid (And.intro em (And.intro ec er))
         have B3 := hid (on B2.out hb3)
         have l3 : w.heap.size + 1 + 1 < w3.heap.size := (Array.getElem?_eq_some_iff.1 er).1
         have l3a : w.heap.size < w3.heap.size := (Array.getElem?_eq_some_iff.1 em).1
         have l3b : w.heap.size + 1 < w3.heap.size := (Array.getElem?_eq_some_iff.1 ec).1
         have m0 : w3.cell? ⟨w.heap.size, 0, none⟩ = some (.int .i64 ep) := cell_heap em rfl
         have m1 : w3.cell? ⟨w.heap.size, 1, none⟩ = some (.int .i64 pk) := cell_heap em rfl
         have m2 : w3.cell? ⟨w.heap.size, 2, none⟩ = some (.int .i64 pm) := cell_heap em rfl
         have m3 : w3.cell? ⟨w.heap.size, 3, none⟩ = some (.int .i64 pg) := cell_heap em rfl
         have m4 : w3.cell? ⟨w.heap.size, 4, none⟩ = some (.int .i64 pd) := cell_heap em rfl
         have m5 : w3.cell? ⟨w.heap.size, 5, none⟩ = some (.slice x n c) := cell_heap em rfl
         have q0 : w3.cell? ⟨w.heap.size + 1, 0, none⟩ = some (.int .i64 1) := cell_heap ec rfl
         have q1 : w3.cell? ⟨w.heap.size + 1, 1, none⟩ = some (.int .i64 c0) := cell_heap ec rfl
         have q2 : w3.cell? ⟨w.heap.size + 1, 2, none⟩ = some (.bool c1) := cell_heap ec rfl
         have q3 : w3.cell? ⟨w.heap.size + 1, 3, none⟩ = some (.bool c2) := cell_heap ec rfl
         have q4 : w3.cell? ⟨w.heap.size + 1, 4, none⟩ = some (.int .i64 c3) := cell_heap ec rfl
         have q5 : w3.cell? ⟨w.heap.size + 1, 5, none⟩ = some (.int .i64 c4) := cell_heap ec rfl
         have q6 : w3.cell? ⟨w.heap.size + 1, 6, none⟩ = some (.int .i64 c5) := cell_heap ec rfl
         have q7 : w3.cell? ⟨w.heap.size + 1, 7, none⟩ = some (.int .i64 c6) := cell_heap ec rfl
         have q8 : w3.cell? ⟨w.heap.size + 1, 8, none⟩ = some (.int .i64 c7) := cell_heap ec rfl
         have d0 : w3.cell? ⟨w.heap.size + 1 + 1, 0, none⟩ = some (.int .i64 0) := cell_heap er rfl
         have d1 : w3.cell? ⟨w.heap.size + 1 + 1, 1, none⟩ = some (.int .i64 0) := cell_heap er rfl
         have d2 : w3.cell? ⟨w.heap.size + 1 + 1, 2, none⟩ = some (.int .i64 0) := cell_heap er rfl
         have d3 : w3.cell? ⟨w.heap.size + 1 + 1, 3, none⟩ = some (.int .i64 0) := cell_heap er rfl
         have d4 : w3.cell? ⟨w.heap.size + 1 + 1, 4, none⟩ = some (.int .i64 0) := cell_heap er rfl
         have d5 : w3.cell? ⟨w.heap.size + 1 + 1, 5, none⟩ = some (.slice none 0 0) := cell_heap er rfl
         have g0 := fr_heap er 0
         have g1 := fr_heap er 1
         have g2 := fr_heap er 2
         have g3 := fr_heap er 3
         have g4 := fr_heap er 4
         have g5 := fr_heap er 5
         clear hb3 em ec er))
  refine bodyPost_ret (v := .tuple #[.agg #[.int .i64 0, .int .i64 0, .int .i64 0, .int .i64 0, .int .i64 0, .slice none 0 0], .int .i64 2]) ?_ rfl ?_
  · rw [results_cell2 rfl]
    go_simp
  · rw [HA.out]
    refine ⟨none, 0, 0, rfl, ?_, os_none _, fun a e => by cases e⟩
    repeat (first | with_reducible exact B3.out | (with_reducible refine Below.setCell ?_ (by first | (simp; done) | (simp; omega) | omega) _) | (with_reducible refine Below.alloc ?_ (by first | (simp; done) | (simp; omega) | omega) _))

set_option maxHeartbeats 3200000 in
theorem rapply_none {w : World} {x : Option Addr} {n c : Nat} (m : Mp) (ch : Ch) (h : Os w x n c m.osds) (h1 : mayM m = true) (h2 : mayC ch = true) (h3 : m.ep ≠ 1048576) (hk : ch.kind ≠ 1) (hf : m.osds.findIdx? (isId ch.osd.id) = none) :
    Calls Tryz.prog 15 #[vM m.ep m.pool x n c, vC ch] w fun e w' => ∃ y yn yc, e = .returned (.tuple #[vM (applyP m ch).2.ep (applyP m ch).2.pool y yn yc, .int .i64 (applyP m ch).1]) ∧ Hid (ToldN w w' y yn yc (applyP m ch).2.osds) := by
  have hd : doP ch.kind m.osds ch.osd = (4, m.osds) := by unfold doP; rw [if_neg hk]; exact turnP_none _ hf
  have HA := hid (applyP_err h1 h2 h3 hd (by simp))
  have hM := fun W (hW : Os W x n c m.osds) => rmay_any m hW
  have hC := fun W => rmayChange_any ch W
  have hP := fun W (hW : Os W x n c m.osds) => place_any m ch.osd.id hW
  have HS : Hid (∀ W, Below w.heap.size w W → Os W x n c m.osds) := fun W hW => h.below hW
  have HL := hid h.len
  have b0 := on (on (al w (.cells #[.int .i64 m.ep, .int .i64 m.pool.k, .int .i64 m.pool.m, .int .i64 m.pool.pgs, .int .i64 m.pool.dom, .slice x n c] 49)) (al _ (.cells #[.int .i64 ch.kind, .int .i64 ch.osd.id, .bool ch.osd.up, .bool ch.osd.inn, .int .i64 ch.osd.wt, .int .i64 ch.osd.life, .int .i64 ch.osd.boot, .int .i64 ch.osd.host, .int .i64 ch.osd.rack] 55))) (al _ (.cells #[.int .i64 0, .int .i64 0, .int .i64 0, .int .i64 0, .int .i64 0, .slice none 0 0] 49))
  have hM0 := hM _ (HS.out _ b0)
  have HB := hid b0
  have HX := hid (box3 w (.cells #[.int .i64 m.ep, .int .i64 m.pool.k, .int .i64 m.pool.m, .int .i64 m.pool.pgs, .int .i64 m.pool.dom, .slice x n c] 49) (.cells #[.int .i64 ch.kind, .int .i64 ch.osd.id, .bool ch.osd.up, .bool ch.osd.inn, .int .i64 ch.osd.wt, .int .i64 ch.osd.life, .int .i64 ch.osd.boot, .int .i64 ch.osd.host, .int .i64 ch.osd.rack] 55) (.cells #[.int .i64 0, .int .i64 0, .int .i64 0, .int .i64 0, .int .i64 0, .slice none 0 0] 49))
  have hsm := h.small
  clear hM h b0
  rw [h1] at hM0
  rw [h2] at hC
  rw [show idx (isId ch.osd.id) m.osds = -1 by unfold idx; rw [hf]] at hP
  clear hf
  obtain ⟨e0, e1⟩ := (may_parts h1).1
  have hwr : IntKind.i64.wrap (m.ep + 1) = m.ep + 1 := by rw [IntKind.wrap_i64]; omega
  have hne : (m.ep == 1048576) = false := by simpa using h3
  clear h1 h2 h3 e0 e1 hd
  obtain ⟨ep, ⟨pk, pm, pg, pd⟩, L⟩ := m
  obtain ⟨ck, c0, c1, c2, c3, c4, c5, c6, c7⟩ := ch
  unfold vM vC at *
  dsimp only at hM0 hC hP HB HX HS HA hwr hne hk ⊢
  go_enter Tryz.func15, Tryz.ntmps15
  go_wp2_with (first
      | (
         go_at_call 24; refine hM0.mono ?_; rintro e w1 ⟨rfl, hb1⟩; clear hM0
         have em := (hb1.block _ (Array.getElem?_eq_some_iff.1 HX.out.1).1).trans HX.out.1
         have ec := (hb1.block _ (Array.getElem?_eq_some_iff.1 HX.out.2.1).1).trans HX.out.2.1
         have er := (hb1.block _ (Array.getElem?_eq_some_iff.1 HX.out.2.2).1).trans HX.out.2.2
         have HE1 := hid (And.intro em (And.intro ec er))
         have B1 := hid (on HB.out hb1)
         have l1 : w.heap.size + 1 + 1 < w1.heap.size := (Array.getElem?_eq_some_iff.1 er).1
         have j0 : w1.cell? ⟨w.heap.size + 1, 0, none⟩ = some (.int .i64 ck) := cell_heap ec rfl
         have j1 : w1.cell? ⟨w.heap.size + 1, 1, none⟩ = some (.int .i64 c0) := cell_heap ec rfl
         have j2 : w1.cell? ⟨w.heap.size + 1, 2, none⟩ = some (.bool c1) := cell_heap ec rfl
         have j3 : w1.cell? ⟨w.heap.size + 1, 3, none⟩ = some (.bool c2) := cell_heap ec rfl
         have j4 : w1.cell? ⟨w.heap.size + 1, 4, none⟩ = some (.int .i64 c3) := cell_heap ec rfl
         have j5 : w1.cell? ⟨w.heap.size + 1, 5, none⟩ = some (.int .i64 c4) := cell_heap ec rfl
         have j6 : w1.cell? ⟨w.heap.size + 1, 6, none⟩ = some (.int .i64 c5) := cell_heap ec rfl
         have j7 : w1.cell? ⟨w.heap.size + 1, 7, none⟩ = some (.int .i64 c6) := cell_heap ec rfl
         have j8 : w1.cell? ⟨w.heap.size + 1, 8, none⟩ = some (.int .i64 c7) := cell_heap ec rfl
         clear hb1 em ec er)
      | (
         go_at_call 25; refine (hC _).mono ?_; rintro e w2 ⟨rfl, hb2⟩; clear hC
         have em := (hb2.block _ (Array.getElem?_eq_some_iff.1 HE1.out.1).1).trans HE1.out.1
         have ec := (hb2.block _ (Array.getElem?_eq_some_iff.1 HE1.out.2.1).1).trans HE1.out.2.1
         have er := (hb2.block _ (Array.getElem?_eq_some_iff.1 HE1.out.2.2).1).trans HE1.out.2.2
         have HE2 := hid (And.intro em (And.intro ec er))
         have B2 := hid (on B1.out hb2)
         have l2 : w.heap.size + 1 + 1 < w2.heap.size := (Array.getElem?_eq_some_iff.1 er).1
         have m0 : w2.cell? ⟨w.heap.size, 0, none⟩ = some (.int .i64 ep) := cell_heap em rfl
         have m1 : w2.cell? ⟨w.heap.size, 1, none⟩ = some (.int .i64 pk) := cell_heap em rfl
         have m2 : w2.cell? ⟨w.heap.size, 2, none⟩ = some (.int .i64 pm) := cell_heap em rfl
         have m3 : w2.cell? ⟨w.heap.size, 3, none⟩ = some (.int .i64 pg) := cell_heap em rfl
         have m4 : w2.cell? ⟨w.heap.size, 4, none⟩ = some (.int .i64 pd) := cell_heap em rfl
         have m5 : w2.cell? ⟨w.heap.size, 5, none⟩ = some (.slice x n c) := cell_heap em rfl
         have q1 : w2.cell? ⟨w.heap.size + 1, 1, none⟩ = some (.int .i64 c0) := cell_heap ec rfl
         have hP2 := hP w2 (HS.out w2 B2.out)
         clear hb2 em ec er)
      | (
         go_at_call 26; refine hP2.mono ?_; rintro e w3 ⟨rfl, hb3⟩; clear hP2
         have em := (hb3.block _ (Array.getElem?_eq_some_iff.1 HE2.out.1).1).trans HE2.out.1
         have ec := (hb3.block _ (Array.getElem?_eq_some_iff.1 HE2.out.2.1).1).trans HE2.out.2.1
         have er := (hb3.block _ (Array.getElem?_eq_some_iff.1 HE2.out.2.2).1).trans HE2.out.2.2
         have HE3 := hid (And.intro em (And.intro ec er))
         have B3 := hid (on B2.out hb3)
         have l3 : w.heap.size + 1 + 1 < w3.heap.size := (Array.getElem?_eq_some_iff.1 er).1
         have l3a : w.heap.size < w3.heap.size := (Array.getElem?_eq_some_iff.1 em).1
         have l3b : w.heap.size + 1 < w3.heap.size := (Array.getElem?_eq_some_iff.1 ec).1
         have m0 : w3.cell? ⟨w.heap.size, 0, none⟩ = some (.int .i64 ep) := cell_heap em rfl
         have m1 : w3.cell? ⟨w.heap.size, 1, none⟩ = some (.int .i64 pk) := cell_heap em rfl
         have m2 : w3.cell? ⟨w.heap.size, 2, none⟩ = some (.int .i64 pm) := cell_heap em rfl
         have m3 : w3.cell? ⟨w.heap.size, 3, none⟩ = some (.int .i64 pg) := cell_heap em rfl
         have m4 : w3.cell? ⟨w.heap.size, 4, none⟩ = some (.int .i64 pd) := cell_heap em rfl
         have m5 : w3.cell? ⟨w.heap.size, 5, none⟩ = some (.slice x n c) := cell_heap em rfl
         have q0 : w3.cell? ⟨w.heap.size + 1, 0, none⟩ = some (.int .i64 ck) := cell_heap ec rfl
         have q1 : w3.cell? ⟨w.heap.size + 1, 1, none⟩ = some (.int .i64 c0) := cell_heap ec rfl
         have q2 : w3.cell? ⟨w.heap.size + 1, 2, none⟩ = some (.bool c1) := cell_heap ec rfl
         have q3 : w3.cell? ⟨w.heap.size + 1, 3, none⟩ = some (.bool c2) := cell_heap ec rfl
         have q4 : w3.cell? ⟨w.heap.size + 1, 4, none⟩ = some (.int .i64 c3) := cell_heap ec rfl
         have q5 : w3.cell? ⟨w.heap.size + 1, 5, none⟩ = some (.int .i64 c4) := cell_heap ec rfl
         have q6 : w3.cell? ⟨w.heap.size + 1, 6, none⟩ = some (.int .i64 c5) := cell_heap ec rfl
         have q7 : w3.cell? ⟨w.heap.size + 1, 7, none⟩ = some (.int .i64 c6) := cell_heap ec rfl
         have q8 : w3.cell? ⟨w.heap.size + 1, 8, none⟩ = some (.int .i64 c7) := cell_heap ec rfl
         have d0 : w3.cell? ⟨w.heap.size + 1 + 1, 0, none⟩ = some (.int .i64 0) := cell_heap er rfl
         have d1 : w3.cell? ⟨w.heap.size + 1 + 1, 1, none⟩ = some (.int .i64 0) := cell_heap er rfl
         have d2 : w3.cell? ⟨w.heap.size + 1 + 1, 2, none⟩ = some (.int .i64 0) := cell_heap er rfl
         have d3 : w3.cell? ⟨w.heap.size + 1 + 1, 3, none⟩ = some (.int .i64 0) := cell_heap er rfl
         have d4 : w3.cell? ⟨w.heap.size + 1 + 1, 4, none⟩ = some (.int .i64 0) := cell_heap er rfl
         have d5 : w3.cell? ⟨w.heap.size + 1 + 1, 5, none⟩ = some (.slice none 0 0) := cell_heap er rfl
         have g0 := fr_heap er 0
         have g1 := fr_heap er 1
         have g2 := fr_heap er 2
         have g3 := fr_heap er 3
         have g4 := fr_heap er 4
         have g5 := fr_heap er 5
         clear hb3 em ec er))
  refine bodyPost_ret (v := .tuple #[.agg #[.int .i64 0, .int .i64 0, .int .i64 0, .int .i64 0, .int .i64 0, .slice none 0 0], .int .i64 4]) ?_ rfl ?_
  · rw [results_cell2 rfl]
    go_simp
  · rw [HA.out]
    refine ⟨none, 0, 0, rfl, ?_, os_none _, fun a e => by cases e⟩
    repeat (first | with_reducible exact B3.out | (with_reducible refine Below.setCell ?_ (by first | (simp; done) | (simp; omega) | omega) _) | (with_reducible refine Below.alloc ?_ (by first | (simp; done) | (simp; omega) | omega) _))

end Go.Proofs.YthlfmbijagpggaaGreat.At
