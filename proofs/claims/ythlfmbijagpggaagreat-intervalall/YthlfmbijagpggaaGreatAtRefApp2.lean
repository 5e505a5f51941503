/-
  The document's Apply: what each kind but ChangeAdd makes of a map.
  Conditions: lists lie in memory.
-/
import Derived.Test.YthlfmbijagpggaaGreatAtRefApp1
namespace Go.Proofs.YthlfmbijagpggaaGreat.At
open Go.RowKit By Fl
set_option linter.unusedVariables false
set_option linter.unusedSimpArgs false
set_option maxRecDepth 100000

theorem box2 (w : World) (A B : Obj) : ((w.alloc A).alloc B).heap[w.heap.size]? = some A ∧ ((w.alloc A).alloc B).heap[w.heap.size + 1]? = some B := by
  have s1 : (w.alloc A).heap.size = w.heap.size + 1 := by simp
  refine ⟨?_, ?_⟩
  · exact ((al (w.alloc A) B).block _ (by omega)).trans (heap_alloc_new w A)
  · have := heap_alloc_new (w.alloc A) B
    rw [s1] at this
    exact this

set_option maxHeartbeats 6400000 in
theorem rapply_2 {w : World} {x : Option Addr} {n c : Nat} (m : Mp) (ch : Ch) (h : Os w x n c m.osds) (h1 : mayM m = true) (h2 : mayC ch = true) (h3 : m.ep ≠ 1048576) (hk : ch.kind = 2) {q : Nat} {o : Osd} (hf : m.osds.findIdx? (isId ch.osd.id) = some q) (ho : m.osds[q]? = some o) :
    Calls Tryz.prog 15 #[vM m.ep m.pool x n c, vC ch] w fun e w' => ∃ y yn yc, e = .returned (.tuple #[vM (applyP m ch).2.ep (applyP m ch).2.pool y yn yc, .int .i64 (applyP m ch).1]) ∧ Hid (ToldN w w' y yn yc (applyP m ch).2.osds) := by
  have hd1 := fun (hq : eqO (setUp ch.osd o) o = true) => (show doP ch.kind m.osds ch.osd = (6, m.osds) from by rw [hk]; exact turnP_same (f := setUp ch.osd) hf ho hq)
  have hd2 := fun (hq : eqO (setUp ch.osd o) o = false) => (show doP ch.kind m.osds ch.osd = (0, m.osds.set q (setUp ch.osd o)) from by rw [hk]; exact turnP_yes (f := setUp ch.osd) hf ho hq)
  have HA1 := hid (fun hq => applyP_err h1 h2 h3 (hd1 hq) (by simp))
  have HA2 := hid (fun hq => applyP_ok h1 h2 h3 (hd2 hq) rfl)
  have hE := fun W => eq_osd (setUp ch.osd o) o W
  obtain ⟨t, ht⟩ : ∃ t, t = eqO (setUp ch.osd o) o := ⟨_, rfl⟩
  rw [← ht] at hE HA1 HA2
  have HSM := hid (may_parts h1).2.2.1
  have hM := fun W (hW : Os W x n c m.osds) => rmay_any m hW
  have hC := fun W => rmayChange_any ch W
  have hP := fun W (hW : Os W x n c m.osds) => place_any m ch.osd.id hW
  have HS : Hid (∀ W, Below w.heap.size w W → Os W x n c m.osds) := fun W hW => h.below hW
  have HL := hid h.len
  have b0 := on (on (al w (.cells #[.int .i64 m.ep, .int .i64 m.pool.k, .int .i64 m.pool.m, .int .i64 m.pool.pgs, .int .i64 m.pool.dom, .slice x n c] 49)) (al _ (.cells #[.int .i64 ch.kind, .int .i64 ch.osd.id, .bool ch.osd.up, .bool ch.osd.inn, .int .i64 ch.osd.wt, .int .i64 ch.osd.life, .int .i64 ch.osd.boot, .int .i64 ch.osd.host, .int .i64 ch.osd.rack] 55))) (al _ (.cells #[.int .i64 0, .int .i64 0, .int .i64 0, .int .i64 0, .int .i64 0, .slice none 0 0] 49))
  have hM0 := hM _ (HS.out _ b0)
  have HB := hid b0
  have HX := hid (box3 w (.cells #[.int .i64 m.ep, .int .i64 m.pool.k, .int .i64 m.pool.m, .int .i64 m.pool.pgs, .int .i64 m.pool.dom, .slice x n c] 49) (.cells #[.int .i64 ch.kind, .int .i64 ch.osd.id, .bool ch.osd.up, .bool ch.osd.inn, .int .i64 ch.osd.wt, .int .i64 ch.osd.life, .int .i64 ch.osd.boot, .int .i64 ch.osd.host, .int .i64 ch.osd.rack] 55) (.cells #[.int .i64 0, .int .i64 0, .int .i64 0, .int .i64 0, .int .i64 0, .slice none 0 0] 49))
  have hsm := h.small
  clear hM h b0
  rw [h1] at hM0
  rw [h2] at hC
  rw [show idx (isId ch.osd.id) m.osds = (q : Int) by unfold idx; rw [hf]] at hP
  have hqn : q < n := by rw [← HL.out]; exact (List.getElem?_eq_some_iff.1 ho).1
  have hn64 : n ≤ 64 := by rw [← HL.out]; exact HSM.out
  have hq0 : ¬ (q : Int) < 0 := by omega
  have hqI : (q : Int) < (n : Int) := by omega
  have HO := hid ho
  rcases (HS.out w (Below.refl _ _)).row with h0 | ⟨b, ob, rfl, hbl, hcell⟩
  · omega
  have HC := hid hcell
  obtain ⟨e0, e1⟩ := (may_parts h1).1
  have hwr : IntKind.i64.wrap (m.ep + 1) = m.ep + 1 := by rw [IntKind.wrap_i64]; omega
  have hne : (m.ep == 1048576) = false := by simpa using h3
  clear h1 h2 h3 e0 e1 hd1 hd2 hf ho hcell ht
  obtain ⟨ep, ⟨pk, pm, pg, pd⟩, L⟩ := m
  obtain ⟨ck, c0, c1, c2, c3, c4, c5, c6, c7⟩ := ch
  unfold vM vC at *
  obtain ⟨i0, i1, i2, i3, i4, i5, i6, i7⟩ := o
  unfold vO setUp at *
  dsimp only at hM0 hC hP HB HX HS HA1 HA2 hwr hne hk hE HL HC HSM ⊢
  subst hk
  go_enter Tryz.func15, Tryz.ntmps15
  go_wp2_with (first
      | (
         go_at_call 24; refine hM0.mono ?_; rintro e w1 ⟨rfl, hb1⟩; clear hM0
         have em := (hb1.block _ (Array.getElem?_eq_some_iff.1 HX.out.1).1).trans HX.out.1
         have ec := (hb1.block _ (Array.getElem?_eq_some_iff.1 HX.out.2.1).1).trans HX.out.2.1
         have er := (hb1.block _ (Array.getElem?_eq_some_iff.1 HX.out.2.2).1).trans HX.out.2.2
         have HE1 := hid (And.intro em (And.intro ec er))
         have B1 := hid (on HB.out hb1)
         have l1 : w.heap.size + 1 + 1 < w1.heap.size := (Array.getElem?_eq_some_iff.1 er).1
         have j0 : w1.cell? ⟨w.heap.size + 1, 0, none⟩ = some (.int .i64 2) := cell_heap ec rfl
         have j1 : w1.cell? ⟨w.heap.size + 1, 1, none⟩ = some (.int .i64 c0) := cell_heap ec rfl
         have j2 : w1.cell? ⟨w.heap.size + 1, 2, none⟩ = some (.bool c1) := cell_heap ec rfl
         have j3 : w1.cell? ⟨w.heap.size + 1, 3, none⟩ = some (.bool c2) := cell_heap ec rfl
         have j4 : w1.cell? ⟨w.heap.size + 1, 4, none⟩ = some (.int .i64 c3) := cell_heap ec rfl
         have j5 : w1.cell? ⟨w.heap.size + 1, 5, none⟩ = some (.int .i64 c4) := cell_heap ec rfl
         have j6 : w1.cell? ⟨w.heap.size + 1, 6, none⟩ = some (.int .i64 c5) := cell_heap ec rfl
         have j7 : w1.cell? ⟨w.heap.size + 1, 7, none⟩ = some (.int .i64 c6) := cell_heap ec rfl
         have j8 : w1.cell? ⟨w.heap.size + 1, 8, none⟩ = some (.int .i64 c7) := cell_heap ec rfl
         clear hb1 em ec er)
      | (
         go_at_call 25; refine (hC _).mono ?_; rintro e w2 ⟨rfl, hb2⟩; clear hC
         have em := (hb2.block _ (Array.getElem?_eq_some_iff.1 HE1.out.1).1).trans HE1.out.1
         have ec := (hb2.block _ (Array.getElem?_eq_some_iff.1 HE1.out.2.1).1).trans HE1.out.2.1
         have er := (hb2.block _ (Array.getElem?_eq_some_iff.1 HE1.out.2.2).1).trans HE1.out.2.2
         have HE2 := hid (And.intro em (And.intro ec er))
         have B2 := hid (on B1.out hb2)
         have l2 : w.heap.size + 1 + 1 < w2.heap.size := (Array.getElem?_eq_some_iff.1 er).1
         have m0 : w2.cell? ⟨w.heap.size, 0, none⟩ = some (.int .i64 ep) := cell_heap em rfl
         have m1 : w2.cell? ⟨w.heap.size, 1, none⟩ = some (.int .i64 pk) := cell_heap em rfl
         have m2 : w2.cell? ⟨w.heap.size, 2, none⟩ = some (.int .i64 pm) := cell_heap em rfl
         have m3 : w2.cell? ⟨w.heap.size, 3, none⟩ = some (.int .i64 pg) := cell_heap em rfl
         have m4 : w2.cell? ⟨w.heap.size, 4, none⟩ = some (.int .i64 pd) := cell_heap em rfl
         have m5 : w2.cell? ⟨w.heap.size, 5, none⟩ = some (.slice (some ⟨b, ob, none⟩) n c) := cell_heap em rfl
         have q1 : w2.cell? ⟨w.heap.size + 1, 1, none⟩ = some (.int .i64 c0) := cell_heap ec rfl
         have hP2 := hP w2 (HS.out w2 B2.out)
         clear hb2 em ec er)
      | (
         go_at_call 26; refine hP2.mono ?_; rintro e w3 ⟨rfl, hb3⟩; clear hP2
         have em := (hb3.block _ (Array.getElem?_eq_some_iff.1 HE2.out.1).1).trans HE2.out.1
         have ec := (hb3.block _ (Array.getElem?_eq_some_iff.1 HE2.out.2.1).1).trans HE2.out.2.1
         have er := (hb3.block _ (Array.getElem?_eq_some_iff.1 HE2.out.2.2).1).trans HE2.out.2.2
         have HE3 := hid (And.intro em (And.intro ec er))
         have B3 := hid (on B2.out hb3)
         have l3 : w.heap.size + 1 + 1 < w3.heap.size := (Array.getElem?_eq_some_iff.1 er).1
         have l3a : w.heap.size < w3.heap.size := (Array.getElem?_eq_some_iff.1 em).1
         have l3b : w.heap.size + 1 < w3.heap.size := (Array.getElem?_eq_some_iff.1 ec).1
         have m0 : w3.cell? ⟨w.heap.size, 0, none⟩ = some (.int .i64 ep) := cell_heap em rfl
         have m1 : w3.cell? ⟨w.heap.size, 1, none⟩ = some (.int .i64 pk) := cell_heap em rfl
         have m2 : w3.cell? ⟨w.heap.size, 2, none⟩ = some (.int .i64 pm) := cell_heap em rfl
         have m3 : w3.cell? ⟨w.heap.size, 3, none⟩ = some (.int .i64 pg) := cell_heap em rfl
         have m4 : w3.cell? ⟨w.heap.size, 4, none⟩ = some (.int .i64 pd) := cell_heap em rfl
         have m5 : w3.cell? ⟨w.heap.size, 5, none⟩ = some (.slice (some ⟨b, ob, none⟩) n c) := cell_heap em rfl
         have q0 : w3.cell? ⟨w.heap.size + 1, 0, none⟩ = some (.int .i64 2) := cell_heap ec rfl
         have q1 : w3.cell? ⟨w.heap.size + 1, 1, none⟩ = some (.int .i64 c0) := cell_heap ec rfl
         have q2 : w3.cell? ⟨w.heap.size + 1, 2, none⟩ = some (.bool c1) := cell_heap ec rfl
         have q3 : w3.cell? ⟨w.heap.size + 1, 3, none⟩ = some (.bool c2) := cell_heap ec rfl
         have q4 : w3.cell? ⟨w.heap.size + 1, 4, none⟩ = some (.int .i64 c3) := cell_heap ec rfl
         have q5 : w3.cell? ⟨w.heap.size + 1, 5, none⟩ = some (.int .i64 c4) := cell_heap ec rfl
         have q6 : w3.cell? ⟨w.heap.size + 1, 6, none⟩ = some (.int .i64 c5) := cell_heap ec rfl
         have q7 : w3.cell? ⟨w.heap.size + 1, 7, none⟩ = some (.int .i64 c6) := cell_heap ec rfl
         have q8 : w3.cell? ⟨w.heap.size + 1, 8, none⟩ = some (.int .i64 c7) := cell_heap ec rfl
         have d0 : w3.cell? ⟨w.heap.size + 1 + 1, 0, none⟩ = some (.int .i64 0) := cell_heap er rfl
         have d1 : w3.cell? ⟨w.heap.size + 1 + 1, 1, none⟩ = some (.int .i64 0) := cell_heap er rfl
         have d2 : w3.cell? ⟨w.heap.size + 1 + 1, 2, none⟩ = some (.int .i64 0) := cell_heap er rfl
         have d3 : w3.cell? ⟨w.heap.size + 1 + 1, 3, none⟩ = some (.int .i64 0) := cell_heap er rfl
         have d4 : w3.cell? ⟨w.heap.size + 1 + 1, 4, none⟩ = some (.int .i64 0) := cell_heap er rfl
         have d5 : w3.cell? ⟨w.heap.size + 1 + 1, 5, none⟩ = some (.slice none 0 0) := cell_heap er rfl
         have g0 := fr_heap er 0
         have g1 := fr_heap er 1
         have g2 := fr_heap er 2
         have g3 := fr_heap er 3
         have g4 := fr_heap er 4
         have g5 := fr_heap er 5
         obtain ⟨u0, u1, u2, u3, u4, u5, u6, u7⟩ := Os.at (n := n) (c := c) (fun k a hk j v hv => keep B3.out (HC.out k a hk j v hv)) HO.out
         have lb3 : b < w3.heap.size := Nat.lt_of_lt_of_le hbl B3.out.size
         clear hb3 em ec er))
  go_region
  go_wp2_with fail
  cases t with
  | true =>
    go_quiet (fail)
    obtain ⟨wQ, hwQ⟩ : ∃ wQ, wQ = ((w3.alloc (.cells #[.int .i64 (ep + 1), .int .i64 pk, .int .i64 pm, .int .i64 pg, .int .i64 pd, .slice (some ⟨b, ob, none⟩) n c] 49)).alloc (.cells #[.int .i64 i0, .bool true, .bool i2, .int .i64 i3, .int .i64 c4, .int .i64 c5, .int .i64 i6, .int .i64 i7] 53)).drew.drewN nq := ⟨_, rfl⟩
    have bx2 := box2 w3 (.cells #[.int .i64 (ep + 1), .int .i64 pk, .int .i64 pm, .int .i64 pg, .int .i64 pd, .slice (some ⟨b, ob, none⟩) n c] 49) (.cells #[.int .i64 i0, .bool true, .bool i2, .int .i64 i3, .int .i64 c4, .int .i64 c5, .int .i64 i6, .int .i64 i7] 53)
    have en : wQ.heap[w3.heap.size]? = some (.cells #[.int .i64 (ep + 1), .int .i64 pk, .int .i64 pm, .int .i64 pg, .int .i64 pd, .slice (some ⟨b, ob, none⟩) n c] 49 (0, 0)) := by rw [hwQ]; exact bx2.1
    have eo : wQ.heap[w3.heap.size + 1]? = some (.cells #[.int .i64 i0, .bool true, .bool i2, .int .i64 i3, .int .i64 c4, .int .i64 c5, .int .i64 i6, .int .i64 i7] 53 (0, 0)) := by rw [hwQ]; exact bx2.2
    have bQ : Below w3.heap.size w3 wQ := by rw [hwQ]; exact (on (al _ _) (al _ _)).drew.trans (below_drewN' (Below.refl _ _) _)
    rw [← hwQ]
    clear hwQ bx2
    have BQ := hid (on B3.out bQ)
    replace d0 := keep bQ d0
    replace d1 := keep bQ d1
    replace d2 := keep bQ d2
    replace d3 := keep bQ d3
    replace d4 := keep bQ d4
    replace d5 := keep bQ d5
    replace g0 := keepf bQ l3 g0
    replace g1 := keepf bQ l3 g1
    replace g2 := keepf bQ l3 g2
    replace g3 := keepf bQ l3 g3
    replace g4 := keepf bQ l3 g4
    replace g5 := keepf bQ l3 g5
    go_wp2_with fail
    refine bodyPost_ret (v := .tuple #[.agg #[.int .i64 0, .int .i64 0, .int .i64 0, .int .i64 0, .int .i64 0, .slice none 0 0], .int .i64 6]) ?_ rfl ?_
    · rw [results_cell2 rfl]
      go_simp
    · rw [HA1.out trivial]
      refine ⟨none, 0, 0, rfl, ?_, os_none _, fun a e => by cases e⟩
      repeat (first | with_reducible exact BQ.out | (with_reducible refine Below.setCell ?_ (by first | (simp; done) | (simp; omega) | omega) _) | (with_reducible refine Below.alloc ?_ (by first | (simp; done) | (simp; omega) | omega) _))
  | false =>
    go_quiet (fail)
    obtain ⟨wQ, hwQ⟩ : ∃ wQ, wQ = ((w3.alloc (.cells #[.int .i64 (ep + 1), .int .i64 pk, .int .i64 pm, .int .i64 pg, .int .i64 pd, .slice (some ⟨b, ob, none⟩) n c] 49)).alloc (.cells #[.int .i64 i0, .bool true, .bool i2, .int .i64 i3, .int .i64 c4, .int .i64 c5, .int .i64 i6, .int .i64 i7] 53)).drew.drewN nq := ⟨_, rfl⟩
    have bx2 := box2 w3 (.cells #[.int .i64 (ep + 1), .int .i64 pk, .int .i64 pm, .int .i64 pg, .int .i64 pd, .slice (some ⟨b, ob, none⟩) n c] 49) (.cells #[.int .i64 i0, .bool true, .bool i2, .int .i64 i3, .int .i64 c4, .int .i64 c5, .int .i64 i6, .int .i64 i7] 53)
    have en : wQ.heap[w3.heap.size]? = some (.cells #[.int .i64 (ep + 1), .int .i64 pk, .int .i64 pm, .int .i64 pg, .int .i64 pd, .slice (some ⟨b, ob, none⟩) n c] 49 (0, 0)) := by rw [hwQ]; exact bx2.1
    have eo : wQ.heap[w3.heap.size + 1]? = some (.cells #[.int .i64 i0, .bool true, .bool i2, .int .i64 i3, .int .i64 c4, .int .i64 c5, .int .i64 i6, .int .i64 i7] 53 (0, 0)) := by rw [hwQ]; exact bx2.2
    have bQ : Below w3.heap.size w3 wQ := by rw [hwQ]; exact (on (al _ _) (al _ _)).drew.trans (below_drewN' (Below.refl _ _) _)
    rw [← hwQ]
    clear hwQ bx2
    have BQ := hid (on B3.out bQ)
    replace d0 := keep bQ d0
    replace d1 := keep bQ d1
    replace d2 := keep bQ d2
    replace d3 := keep bQ d3
    replace d4 := keep bQ d4
    replace d5 := keep bQ d5
    replace g0 := keepf bQ l3 g0
    replace g1 := keepf bQ l3 g1
    replace g2 := keepf bQ l3 g2
    replace g3 := keepf bQ l3 g3
    replace g4 := keepf bQ l3 g4
    replace g5 := keepf bQ l3 g5
    replace m5 := keep bQ m5
    have lq1 : w.heap.size < wQ.heap.size := cell_lt' m5
    have lq2 : w.heap.size + 1 + 1 < wQ.heap.size := cell_lt' d0
    have lq3 : w3.heap.size + 1 < wQ.heap.size := (Array.getElem?_eq_some_iff.1 eo).1
    obtain ⟨x', c', wA, hr, H⟩ := copy_own (B := w.heap.size) (HS.out wQ BQ.out) (by omega) (by omega) (fun e => by cases e)
    obtain ⟨g', c'', hRe, hle, hcm, hgB, hgl⟩ := H.out.1.there (fun e => by have := HL.out; rw [e] at this; simp at this; omega)
    rw [HL.out] at hRe
    injection hRe with hR1 hR2 hR3
    subst hR1 hR3
    have hbA := H.out.2.1
    have hgn : wQ.heap.size ≤ g' := H.out.2.2 g' rfl
    have enA : wA.heap[w3.heap.size]? = some (.cells #[.int .i64 (ep + 1), .int .i64 pk, .int .i64 pm, .int .i64 pg, .int .i64 pd, .slice (some ⟨b, ob, none⟩) n c] 49 (0, 0)) := (hbA.block _ (by omega)).trans en
    have eoA : wA.heap[w3.heap.size + 1]? = some (.cells #[.int .i64 i0, .bool true, .bool i2, .int .i64 i3, .int .i64 c4, .int .i64 c5, .int .i64 i6, .int .i64 i7] 53 (0, 0)) := (hbA.block _ (by omega)).trans eo
    have HAe := hid (And.intro enA eoA)
    have n0 : wA.cell? ⟨w3.heap.size, 0, none⟩ = some (.int .i64 (ep + 1)) := cell_heap enA rfl
    have n1 : wA.cell? ⟨w3.heap.size, 1, none⟩ = some (.int .i64 pk) := cell_heap enA rfl
    have n2 : wA.cell? ⟨w3.heap.size, 2, none⟩ = some (.int .i64 pm) := cell_heap enA rfl
    have n3 : wA.cell? ⟨w3.heap.size, 3, none⟩ = some (.int .i64 pg) := cell_heap enA rfl
    have n4 : wA.cell? ⟨w3.heap.size, 4, none⟩ = some (.int .i64 pd) := cell_heap enA rfl
    have n5 : wA.cell? ⟨w3.heap.size, 5, none⟩ = some (.slice (some ⟨b, ob, none⟩) n c) := cell_heap enA rfl
    have nf5 := fr_heap enA 5
    have v0 : wA.cell? ⟨w3.heap.size + 1, 0, none⟩ = some (.int .i64 i0) := cell_heap eoA rfl
    have v1 : wA.cell? ⟨w3.heap.size + 1, 1, none⟩ = some (.bool true) := cell_heap eoA rfl
    have v2 : wA.cell? ⟨w3.heap.size + 1, 2, none⟩ = some (.bool i2) := cell_heap eoA rfl
    have v3 : wA.cell? ⟨w3.heap.size + 1, 3, none⟩ = some (.int .i64 i3) := cell_heap eoA rfl
    have v4 : wA.cell? ⟨w3.heap.size + 1, 4, none⟩ = some (.int .i64 c4) := cell_heap eoA rfl
    have v5 : wA.cell? ⟨w3.heap.size + 1, 5, none⟩ = some (.int .i64 c5) := cell_heap eoA rfl
    have v6 : wA.cell? ⟨w3.heap.size + 1, 6, none⟩ = some (.int .i64 i6) := cell_heap eoA rfl
    have v7 : wA.cell? ⟨w3.heap.size + 1, 7, none⟩ = some (.int .i64 i7) := cell_heap eoA rfl
    replace d0 := keep hbA d0
    replace d1 := keep hbA d1
    replace d2 := keep hbA d2
    replace d3 := keep hbA d3
    replace d4 := keep hbA d4
    replace d5 := keep hbA d5
    replace g0 := keepf hbA lq2 g0
    replace g1 := keepf hbA lq2 g1
    replace g2 := keepf hbA lq2 g2
    replace g3 := keepf hbA lq2 g3
    replace g4 := keepf hbA lq2 g4
    replace g5 := keepf hbA lq2 g5
    obtain ⟨r0, r1, r2, r3, r4, r5, r6, r7⟩ := Os.at (n := n) (c := c) (b := g') (o := 0) (fun k a hk j v hv => by rw [Nat.zero_add]; exact H.out.1.cell orow.len hk hv) HO.out
    rw [Nat.zero_add] at r0 r1 r2 r3 r4 r5 r6 r7
    have rf : ∀ j, wA.frozen? ⟨g', j, none⟩ = false := fun j => H.out.1.frozen
    have s1 : g' ≠ w3.heap.size := by omega
    have s2 : g' ≠ w3.heap.size + 1 := by omega
    have s3 : g' ≠ w.heap.size + 1 + 1 := by omega
    have s4 : w3.heap.size ≠ w.heap.size + 1 + 1 := by omega
    have s5 : w3.heap.size + 1 ≠ w.heap.size + 1 + 1 := by omega
    have BA := hid (on BQ.out hbA)
    have la1 : w3.heap.size < wA.heap.size := cell_lt' n0
    clear en eo bQ hbA enA eoA
    go_wp2_with (at_builtin; refine Lib.wpList_append_run _ rfl _ _ _ _ rfl _ _ rfl rfl _ _ hr ?_)
    refine bodyPost_ret (v := .tuple #[.agg #[.int .i64 (ep + 1), .int .i64 pk, .int .i64 pm, .int .i64 pg, .int .i64 pd, .slice (some ⟨g', 0, none⟩) n c'], .int .i64 0]) ?_ rfl ?_
    · rw [results_cell2 rfl]
      go_simp
    · rw [HA2.out trivial]
      have o1 := H.out.1.turns (turns_put (Turns.refl (fun k => k = w3.heap.size) wA) 5 (.slice (some ⟨g', 0, none⟩) n c')) (fun g hg e => by simp [Value.ownBlock] at hg; omega)
      have o2 := Own.set8 o1 q ⟨i0, true, i2, i3, c4, c5, i6, i7⟩
      have Tz := turns_put (turns_put (turns_put (turns_put (turns_put (turns_put (Turns.refl (fun k => k = w.heap.size + 1 + 1) (put8 (wA.setCell ⟨w3.heap.size, 5, none⟩ (.slice (some ⟨g', 0, none⟩) n c')) g' (q * 8) ⟨i0, true, i2, i3, c4, c5, i6, i7⟩)) 0 (.int .i64 (ep + 1))) 1 (.int .i64 pk)) 2 (.int .i64 pm)) 3 (.int .i64 pg)) 4 (.int .i64 pd)) 5 (.slice (some ⟨g', 0, none⟩) n c')
      refine ⟨some ⟨g', 0, none⟩, n, c', rfl, ?_, ?_, ?_⟩
      · repeat (first | with_reducible exact BA.out | (with_reducible refine Below.setCell ?_ (by first | (simp; done) | (simp; omega) | omega) _) | (with_reducible refine Below.alloc ?_ (by first | (simp; done) | (simp; omega) | omega) _))
      · exact own_os (o2.turns Tz (fun g hg e => by simp [Value.ownBlock] at hg; omega)) (by rw [List.length_set, HL.out]; omega)
      · intro a e
        injection e with e
        subst e
        have := (o2.tb (g := g') rfl).1
        show w.heap.size ≤ g'
        omega

set_option maxHeartbeats 6400000 in
theorem rapply_3 {w : World} {x : Option Addr} {n c : Nat} (m : Mp) (ch : Ch) (h : Os w x n c m.osds) (h1 : mayM m = true) (h2 : mayC ch = true) (h3 : m.ep ≠ 1048576) (hk : ch.kind = 3) {q : Nat} {o : Osd} (hf : m.osds.findIdx? (isId ch.osd.id) = some q) (ho : m.osds[q]? = some o) :
    Calls Tryz.prog 15 #[vM m.ep m.pool x n c, vC ch] w fun e w' => ∃ y yn yc, e = .returned (.tuple #[vM (applyP m ch).2.ep (applyP m ch).2.pool y yn yc, .int .i64 (applyP m ch).1]) ∧ Hid (ToldN w w' y yn yc (applyP m ch).2.osds) := by
  have hd1 := fun (hq : eqO (setDown ch.osd o) o = true) => (show doP ch.kind m.osds ch.osd = (6, m.osds) from by rw [hk]; exact turnP_same (f := setDown ch.osd) hf ho hq)
  have hd2 := fun (hq : eqO (setDown ch.osd o) o = false) => (show doP ch.kind m.osds ch.osd = (0, m.osds.set q (setDown ch.osd o)) from by rw [hk]; exact turnP_yes (f := setDown ch.osd) hf ho hq)
  have HA1 := hid (fun hq => applyP_err h1 h2 h3 (hd1 hq) (by simp))
  have HA2 := hid (fun hq => applyP_ok h1 h2 h3 (hd2 hq) rfl)
  have hE := fun W => eq_osd (setDown ch.osd o) o W
  obtain ⟨t, ht⟩ : ∃ t, t = eqO (setDown ch.osd o) o := ⟨_, rfl⟩
  rw [← ht] at hE HA1 HA2
  have HSM := hid (may_parts h1).2.2.1
  have hM := fun W (hW : Os W x n c m.osds) => rmay_any m hW
  have hC := fun W => rmayChange_any ch W
  have hP := fun W (hW : Os W x n c m.osds) => place_any m ch.osd.id hW
  have HS : Hid (∀ W, Below w.heap.size w W → Os W x n c m.osds) := fun W hW => h.below hW
  have HL := hid h.len
  have b0 := on (on (al w (.cells #[.int .i64 m.ep, .int .i64 m.pool.k, .int .i64 m.pool.m, .int .i64 m.pool.pgs, .int .i64 m.pool.dom, .slice x n c] 49)) (al _ (.cells #[.int .i64 ch.kind, .int .i64 ch.osd.id, .bool ch.osd.up, .bool ch.osd.inn, .int .i64 ch.osd.wt, .int .i64 ch.osd.life, .int .i64 ch.osd.boot, .int .i64 ch.osd.host, .int .i64 ch.osd.rack] 55))) (al _ (.cells #[.int .i64 0, .int .i64 0, .int .i64 0, .int .i64 0, .int .i64 0, .slice none 0 0] 49))
  have hM0 := hM _ (HS.out _ b0)
  have HB := hid b0
  have HX := hid (box3 w (.cells #[.int .i64 m.ep, .int .i64 m.pool.k, .int .i64 m.pool.m, .int .i64 m.pool.pgs, .int .i64 m.pool.dom, .slice x n c] 49) (.cells #[.int .i64 ch.kind, .int .i64 ch.osd.id, .bool ch.osd.up, .bool ch.osd.inn, .int .i64 ch.osd.wt, .int .i64 ch.osd.life, .int .i64 ch.osd.boot, .int .i64 ch.osd.host, .int .i64 ch.osd.rack] 55) (.cells #[.int .i64 0, .int .i64 0, .int .i64 0, .int .i64 0, .int .i64 0, .slice none 0 0] 49))
  have hsm := h.small
  clear hM h b0
  rw [h1] at hM0
  rw [h2] at hC
  rw [show idx (isId ch.osd.id) m.osds = (q : Int) by unfold idx; rw [hf]] at hP
  have hqn : q < n := by rw [← HL.out]; exact (List.getElem?_eq_some_iff.1 ho).1
  have hn64 : n ≤ 64 := by rw [← HL.out]; exact HSM.out
  have hq0 : ¬ (q : Int) < 0 := by omega
  have hqI : (q : Int) < (n : Int) := by omega
  have HO := hid ho
  rcases (HS.out w (Below.refl _ _)).row with h0 | ⟨b, ob, rfl, hbl, hcell⟩
  · omega
  have HC := hid hcell
  obtain ⟨e0, e1⟩ := (may_parts h1).1
  have hwr : IntKind.i64.wrap (m.ep + 1) = m.ep + 1 := by rw [IntKind.wrap_i64]; omega
  have hne : (m.ep == 1048576) = false := by simpa using h3
  clear h1 h2 h3 e0 e1 hd1 hd2 hf ho hcell ht
  obtain ⟨ep, ⟨pk, pm, pg, pd⟩, L⟩ := m
  obtain ⟨ck, c0, c1, c2, c3, c4, c5, c6, c7⟩ := ch
  unfold vM vC at *
  obtain ⟨i0, i1, i2, i3, i4, i5, i6, i7⟩ := o
  unfold vO setDown at *
  dsimp only at hM0 hC hP HB HX HS HA1 HA2 hwr hne hk hE HL HC HSM ⊢
  subst hk
  go_enter Tryz.func15, Tryz.ntmps15
  go_wp2_with (first
      | (
         go_at_call 24; refine hM0.mono ?_; rintro e w1 ⟨rfl, hb1⟩; clear hM0
         have em := (hb1.block _ (Array.getElem?_eq_some_iff.1 HX.out.1).1).trans HX.out.1
         have ec := (hb1.block _ (Array.getElem?_eq_some_iff.1 HX.out.2.1).1).trans HX.out.2.1
         have er := (hb1.block _ (Array.getElem?_eq_some_iff.1 HX.out.2.2).1).trans HX.out.2.2
         have HE1 := hid (And.intro em (And.intro ec er))
         have B1 := hid (on HB.out hb1)
         have l1 : w.heap.size + 1 + 1 < w1.heap.size := (Array.getElem?_eq_some_iff.1 er).1
         have j0 : w1.cell? ⟨w.heap.size + 1, 0, none⟩ = some (.int .i64 3) := cell_heap ec rfl
         have j1 : w1.cell? ⟨w.heap.size + 1, 1, none⟩ = some (.int .i64 c0) := cell_heap ec rfl
         have j2 : w1.cell? ⟨w.heap.size + 1, 2, none⟩ = some (.bool c1) := cell_heap ec rfl
         have j3 : w1.cell? ⟨w.heap.size + 1, 3, none⟩ = some (.bool c2) := cell_heap ec rfl
         have j4 : w1.cell? ⟨w.heap.size + 1, 4, none⟩ = some (.int .i64 c3) := cell_heap ec rfl
         have j5 : w1.cell? ⟨w.heap.size + 1, 5, none⟩ = some (.int .i64 c4) := cell_heap ec rfl
         have j6 : w1.cell? ⟨w.heap.size + 1, 6, none⟩ = some (.int .i64 c5) := cell_heap ec rfl
         have j7 : w1.cell? ⟨w.heap.size + 1, 7, none⟩ = some (.int .i64 c6) := cell_heap ec rfl
         have j8 : w1.cell? ⟨w.heap.size + 1, 8, none⟩ = some (.int .i64 c7) := cell_heap ec rfl
         clear hb1 em ec er)
      | (
         go_at_call 25; refine (hC _).mono ?_; rintro e w2 ⟨rfl, hb2⟩; clear hC
         have em := (hb2.block _ (Array.getElem?_eq_some_iff.1 HE1.out.1).1).trans HE1.out.1
         have ec := (hb2.block _ (Array.getElem?_eq_some_iff.1 HE1.out.2.1).1).trans HE1.out.2.1
         have er := (hb2.block _ (Array.getElem?_eq_some_iff.1 HE1.out.2.2).1).trans HE1.out.2.2
         have HE2 := hid (And.intro em (And.intro ec er))
         have B2 := hid (on B1.out hb2)
         have l2 : w.heap.size + 1 + 1 < w2.heap.size := (Array.getElem?_eq_some_iff.1 er).1
         have m0 : w2.cell? ⟨w.heap.size, 0, none⟩ = some (.int .i64 ep) := cell_heap em rfl
         have m1 : w2.cell? ⟨w.heap.size, 1, none⟩ = some (.int .i64 pk) := cell_heap em rfl
         have m2 : w2.cell? ⟨w.heap.size, 2, none⟩ = some (.int .i64 pm) := cell_heap em rfl
         have m3 : w2.cell? ⟨w.heap.size, 3, none⟩ = some (.int .i64 pg) := cell_heap em rfl
         have m4 : w2.cell? ⟨w.heap.size, 4, none⟩ = some (.int .i64 pd) := cell_heap em rfl
         have m5 : w2.cell? ⟨w.heap.size, 5, none⟩ = some (.slice (some ⟨b, ob, none⟩) n c) := cell_heap em rfl
         have q1 : w2.cell? ⟨w.heap.size + 1, 1, none⟩ = some (.int .i64 c0) := cell_heap ec rfl
         have hP2 := hP w2 (HS.out w2 B2.out)
         clear hb2 em ec er)
      | (
         go_at_call 26; refine hP2.mono ?_; rintro e w3 ⟨rfl, hb3⟩; clear hP2
         have em := (hb3.block _ (Array.getElem?_eq_some_iff.1 HE2.out.1).1).trans HE2.out.1
         have ec := (hb3.block _ (Array.getElem?_eq_some_iff.1 HE2.out.2.1).1).trans HE2.out.2.1
         have er := (hb3.block _ (Array.getElem?_eq_some_iff.1 HE2.out.2.2).1).trans HE2.out.2.2
         have HE3 := hid (And.intro em (And.intro ec er))
         have B3 := hid (on B2.out hb3)
         have l3 : w.heap.size + 1 + 1 < w3.heap.size := (Array.getElem?_eq_some_iff.1 er).1
         have l3a : w.heap.size < w3.heap.size := (Array.getElem?_eq_some_iff.1 em).1
         have l3b : w.heap.size + 1 < w3.heap.size := (Array.getElem?_eq_some_iff.1 ec).1
         have m0 : w3.cell? ⟨w.heap.size, 0, none⟩ = some (.int .i64 ep) := cell_heap em rfl
         have m1 : w3.cell? ⟨w.heap.size, 1, none⟩ = some (.int .i64 pk) := cell_heap em rfl
         have m2 : w3.cell? ⟨w.heap.size, 2, none⟩ = some (.int .i64 pm) := cell_heap em rfl
         have m3 : w3.cell? ⟨w.heap.size, 3, none⟩ = some (.int .i64 pg) := cell_heap em rfl
         have m4 : w3.cell? ⟨w.heap.size, 4, none⟩ = some (.int .i64 pd) := cell_heap em rfl
         have m5 : w3.cell? ⟨w.heap.size, 5, none⟩ = some (.slice (some ⟨b, ob, none⟩) n c) := cell_heap em rfl
         have q0 : w3.cell? ⟨w.heap.size + 1, 0, none⟩ = some (.int .i64 3) := cell_heap ec rfl
         have q1 : w3.cell? ⟨w.heap.size + 1, 1, none⟩ = some (.int .i64 c0) := cell_heap ec rfl
         have q2 : w3.cell? ⟨w.heap.size + 1, 2, none⟩ = some (.bool c1) := cell_heap ec rfl
         have q3 : w3.cell? ⟨w.heap.size + 1, 3, none⟩ = some (.bool c2) := cell_heap ec rfl
         have q4 : w3.cell? ⟨w.heap.size + 1, 4, none⟩ = some (.int .i64 c3) := cell_heap ec rfl
         have q5 : w3.cell? ⟨w.heap.size + 1, 5, none⟩ = some (.int .i64 c4) := cell_heap ec rfl
         have q6 : w3.cell? ⟨w.heap.size + 1, 6, none⟩ = some (.int .i64 c5) := cell_heap ec rfl
         have q7 : w3.cell? ⟨w.heap.size + 1, 7, none⟩ = some (.int .i64 c6) := cell_heap ec rfl
         have q8 : w3.cell? ⟨w.heap.size + 1, 8, none⟩ = some (.int .i64 c7) := cell_heap ec rfl
         have d0 : w3.cell? ⟨w.heap.size + 1 + 1, 0, none⟩ = some (.int .i64 0) := cell_heap er rfl
         have d1 : w3.cell? ⟨w.heap.size + 1 + 1, 1, none⟩ = some (.int .i64 0) := cell_heap er rfl
         have d2 : w3.cell? ⟨w.heap.size + 1 + 1, 2, none⟩ = some (.int .i64 0) := cell_heap er rfl
         have d3 : w3.cell? ⟨w.heap.size + 1 + 1, 3, none⟩ = some (.int .i64 0) := cell_heap er rfl
         have d4 : w3.cell? ⟨w.heap.size + 1 + 1, 4, none⟩ = some (.int .i64 0) := cell_heap er rfl
         have d5 : w3.cell? ⟨w.heap.size + 1 + 1, 5, none⟩ = some (.slice none 0 0) := cell_heap er rfl
         have g0 := fr_heap er 0
         have g1 := fr_heap er 1
         have g2 := fr_heap er 2
         have g3 := fr_heap er 3
         have g4 := fr_heap er 4
         have g5 := fr_heap er 5
         obtain ⟨u0, u1, u2, u3, u4, u5, u6, u7⟩ := Os.at (n := n) (c := c) (fun k a hk j v hv => keep B3.out (HC.out k a hk j v hv)) HO.out
         have lb3 : b < w3.heap.size := Nat.lt_of_lt_of_le hbl B3.out.size
         clear hb3 em ec er))
  cases t with
  | true =>
    go_quiet (fail)
    obtain ⟨wQ, hwQ⟩ : ∃ wQ, wQ = ((w3.alloc (.cells #[.int .i64 (ep + 1), .int .i64 pk, .int .i64 pm, .int .i64 pg, .int .i64 pd, .slice (some ⟨b, ob, none⟩) n c] 49)).alloc (.cells #[.int .i64 i0, .bool false, .bool i2, .int .i64 i3, .int .i64 i4, .int .i64 i5, .int .i64 i6, .int .i64 i7] 53)).drewN nq := ⟨_, rfl⟩
    have bx2 := box2 w3 (.cells #[.int .i64 (ep + 1), .int .i64 pk, .int .i64 pm, .int .i64 pg, .int .i64 pd, .slice (some ⟨b, ob, none⟩) n c] 49) (.cells #[.int .i64 i0, .bool false, .bool i2, .int .i64 i3, .int .i64 i4, .int .i64 i5, .int .i64 i6, .int .i64 i7] 53)
    have en : wQ.heap[w3.heap.size]? = some (.cells #[.int .i64 (ep + 1), .int .i64 pk, .int .i64 pm, .int .i64 pg, .int .i64 pd, .slice (some ⟨b, ob, none⟩) n c] 49 (0, 0)) := by rw [hwQ]; exact bx2.1
    have eo : wQ.heap[w3.heap.size + 1]? = some (.cells #[.int .i64 i0, .bool false, .bool i2, .int .i64 i3, .int .i64 i4, .int .i64 i5, .int .i64 i6, .int .i64 i7] 53 (0, 0)) := by rw [hwQ]; exact bx2.2
    have bQ : Below w3.heap.size w3 wQ := by rw [hwQ]; exact below_drewN' (on (al _ _) (al _ _)) _
    rw [← hwQ]
    clear hwQ bx2
    have BQ := hid (on B3.out bQ)
    replace d0 := keep bQ d0
    replace d1 := keep bQ d1
    replace d2 := keep bQ d2
    replace d3 := keep bQ d3
    replace d4 := keep bQ d4
    replace d5 := keep bQ d5
    replace g0 := keepf bQ l3 g0
    replace g1 := keepf bQ l3 g1
    replace g2 := keepf bQ l3 g2
    replace g3 := keepf bQ l3 g3
    replace g4 := keepf bQ l3 g4
    replace g5 := keepf bQ l3 g5
    go_wp2_with fail
    refine bodyPost_ret (v := .tuple #[.agg #[.int .i64 0, .int .i64 0, .int .i64 0, .int .i64 0, .int .i64 0, .slice none 0 0], .int .i64 6]) ?_ rfl ?_
    · rw [results_cell2 rfl]
      go_simp
    · rw [HA1.out trivial]
      refine ⟨none, 0, 0, rfl, ?_, os_none _, fun a e => by cases e⟩
      repeat (first | with_reducible exact BQ.out | (with_reducible refine Below.setCell ?_ (by first | (simp; done) | (simp; omega) | omega) _) | (with_reducible refine Below.alloc ?_ (by first | (simp; done) | (simp; omega) | omega) _))
  | false =>
    go_quiet (fail)
    obtain ⟨wQ, hwQ⟩ : ∃ wQ, wQ = ((w3.alloc (.cells #[.int .i64 (ep + 1), .int .i64 pk, .int .i64 pm, .int .i64 pg, .int .i64 pd, .slice (some ⟨b, ob, none⟩) n c] 49)).alloc (.cells #[.int .i64 i0, .bool false, .bool i2, .int .i64 i3, .int .i64 i4, .int .i64 i5, .int .i64 i6, .int .i64 i7] 53)).drewN nq := ⟨_, rfl⟩
    have bx2 := box2 w3 (.cells #[.int .i64 (ep + 1), .int .i64 pk, .int .i64 pm, .int .i64 pg, .int .i64 pd, .slice (some ⟨b, ob, none⟩) n c] 49) (.cells #[.int .i64 i0, .bool false, .bool i2, .int .i64 i3, .int .i64 i4, .int .i64 i5, .int .i64 i6, .int .i64 i7] 53)
    have en : wQ.heap[w3.heap.size]? = some (.cells #[.int .i64 (ep + 1), .int .i64 pk, .int .i64 pm, .int .i64 pg, .int .i64 pd, .slice (some ⟨b, ob, none⟩) n c] 49 (0, 0)) := by rw [hwQ]; exact bx2.1
    have eo : wQ.heap[w3.heap.size + 1]? = some (.cells #[.int .i64 i0, .bool false, .bool i2, .int .i64 i3, .int .i64 i4, .int .i64 i5, .int .i64 i6, .int .i64 i7] 53 (0, 0)) := by rw [hwQ]; exact bx2.2
    have bQ : Below w3.heap.size w3 wQ := by rw [hwQ]; exact below_drewN' (on (al _ _) (al _ _)) _
    rw [← hwQ]
    clear hwQ bx2
    have BQ := hid (on B3.out bQ)
    replace d0 := keep bQ d0
    replace d1 := keep bQ d1
    replace d2 := keep bQ d2
    replace d3 := keep bQ d3
    replace d4 := keep bQ d4
    replace d5 := keep bQ d5
    replace g0 := keepf bQ l3 g0
    replace g1 := keepf bQ l3 g1
    replace g2 := keepf bQ l3 g2
    replace g3 := keepf bQ l3 g3
    replace g4 := keepf bQ l3 g4
    replace g5 := keepf bQ l3 g5
    replace m5 := keep bQ m5
    have lq1 : w.heap.size < wQ.heap.size := cell_lt' m5
    have lq2 : w.heap.size + 1 + 1 < wQ.heap.size := cell_lt' d0
    have lq3 : w3.heap.size + 1 < wQ.heap.size := (Array.getElem?_eq_some_iff.1 eo).1
    obtain ⟨x', c', wA, hr, H⟩ := copy_own (B := w.heap.size) (HS.out wQ BQ.out) (by omega) (by omega) (fun e => by cases e)
    obtain ⟨g', c'', hRe, hle, hcm, hgB, hgl⟩ := H.out.1.there (fun e => by have := HL.out; rw [e] at this; simp at this; omega)
    rw [HL.out] at hRe
    injection hRe with hR1 hR2 hR3
    subst hR1 hR3
    have hbA := H.out.2.1
    have hgn : wQ.heap.size ≤ g' := H.out.2.2 g' rfl
    have enA : wA.heap[w3.heap.size]? = some (.cells #[.int .i64 (ep + 1), .int .i64 pk, .int .i64 pm, .int .i64 pg, .int .i64 pd, .slice (some ⟨b, ob, none⟩) n c] 49 (0, 0)) := (hbA.block _ (by omega)).trans en
    have eoA : wA.heap[w3.heap.size + 1]? = some (.cells #[.int .i64 i0, .bool false, .bool i2, .int .i64 i3, .int .i64 i4, .int .i64 i5, .int .i64 i6, .int .i64 i7] 53 (0, 0)) := (hbA.block _ (by omega)).trans eo
    have HAe := hid (And.intro enA eoA)
    have n0 : wA.cell? ⟨w3.heap.size, 0, none⟩ = some (.int .i64 (ep + 1)) := cell_heap enA rfl
    have n1 : wA.cell? ⟨w3.heap.size, 1, none⟩ = some (.int .i64 pk) := cell_heap enA rfl
    have n2 : wA.cell? ⟨w3.heap.size, 2, none⟩ = some (.int .i64 pm) := cell_heap enA rfl
    have n3 : wA.cell? ⟨w3.heap.size, 3, none⟩ = some (.int .i64 pg) := cell_heap enA rfl
    have n4 : wA.cell? ⟨w3.heap.size, 4, none⟩ = some (.int .i64 pd) := cell_heap enA rfl
    have n5 : wA.cell? ⟨w3.heap.size, 5, none⟩ = some (.slice (some ⟨b, ob, none⟩) n c) := cell_heap enA rfl
    have nf5 := fr_heap enA 5
    have v0 : wA.cell? ⟨w3.heap.size + 1, 0, none⟩ = some (.int .i64 i0) := cell_heap eoA rfl
    have v1 : wA.cell? ⟨w3.heap.size + 1, 1, none⟩ = some (.bool false) := cell_heap eoA rfl
    have v2 : wA.cell? ⟨w3.heap.size + 1, 2, none⟩ = some (.bool i2) := cell_heap eoA rfl
    have v3 : wA.cell? ⟨w3.heap.size + 1, 3, none⟩ = some (.int .i64 i3) := cell_heap eoA rfl
    have v4 : wA.cell? ⟨w3.heap.size + 1, 4, none⟩ = some (.int .i64 i4) := cell_heap eoA rfl
    have v5 : wA.cell? ⟨w3.heap.size + 1, 5, none⟩ = some (.int .i64 i5) := cell_heap eoA rfl
    have v6 : wA.cell? ⟨w3.heap.size + 1, 6, none⟩ = some (.int .i64 i6) := cell_heap eoA rfl
    have v7 : wA.cell? ⟨w3.heap.size + 1, 7, none⟩ = some (.int .i64 i7) := cell_heap eoA rfl
    replace d0 := keep hbA d0
    replace d1 := keep hbA d1
    replace d2 := keep hbA d2
    replace d3 := keep hbA d3
    replace d4 := keep hbA d4
    replace d5 := keep hbA d5
    replace g0 := keepf hbA lq2 g0
    replace g1 := keepf hbA lq2 g1
    replace g2 := keepf hbA lq2 g2
    replace g3 := keepf hbA lq2 g3
    replace g4 := keepf hbA lq2 g4
    replace g5 := keepf hbA lq2 g5
    obtain ⟨r0, r1, r2, r3, r4, r5, r6, r7⟩ := Os.at (n := n) (c := c) (b := g') (o := 0) (fun k a hk j v hv => by rw [Nat.zero_add]; exact H.out.1.cell orow.len hk hv) HO.out
    rw [Nat.zero_add] at r0 r1 r2 r3 r4 r5 r6 r7
    have rf : ∀ j, wA.frozen? ⟨g', j, none⟩ = false := fun j => H.out.1.frozen
    have s1 : g' ≠ w3.heap.size := by omega
    have s2 : g' ≠ w3.heap.size + 1 := by omega
    have s3 : g' ≠ w.heap.size + 1 + 1 := by omega
    have s4 : w3.heap.size ≠ w.heap.size + 1 + 1 := by omega
    have s5 : w3.heap.size + 1 ≠ w.heap.size + 1 + 1 := by omega
    have BA := hid (on BQ.out hbA)
    have la1 : w3.heap.size < wA.heap.size := cell_lt' n0
    clear en eo bQ hbA enA eoA
    go_wp2_with (at_builtin; refine Lib.wpList_append_run _ rfl _ _ _ _ rfl _ _ rfl rfl _ _ hr ?_)
    refine bodyPost_ret (v := .tuple #[.agg #[.int .i64 (ep + 1), .int .i64 pk, .int .i64 pm, .int .i64 pg, .int .i64 pd, .slice (some ⟨g', 0, none⟩) n c'], .int .i64 0]) ?_ rfl ?_
    · rw [results_cell2 rfl]
      go_simp
    · rw [HA2.out trivial]
      have o1 := H.out.1.turns (turns_put (Turns.refl (fun k => k = w3.heap.size) wA) 5 (.slice (some ⟨g', 0, none⟩) n c')) (fun g hg e => by simp [Value.ownBlock] at hg; omega)
      have o2 := Own.set8 o1 q ⟨i0, false, i2, i3, i4, i5, i6, i7⟩
      have Tz := turns_put (turns_put (turns_put (turns_put (turns_put (turns_put (Turns.refl (fun k => k = w.heap.size + 1 + 1) (put8 (wA.setCell ⟨w3.heap.size, 5, none⟩ (.slice (some ⟨g', 0, none⟩) n c')) g' (q * 8) ⟨i0, false, i2, i3, i4, i5, i6, i7⟩)) 0 (.int .i64 (ep + 1))) 1 (.int .i64 pk)) 2 (.int .i64 pm)) 3 (.int .i64 pg)) 4 (.int .i64 pd)) 5 (.slice (some ⟨g', 0, none⟩) n c')
      refine ⟨some ⟨g', 0, none⟩, n, c', rfl, ?_, ?_, ?_⟩
      · repeat (first | with_reducible exact BA.out | (with_reducible refine Below.setCell ?_ (by first | (simp; done) | (simp; omega) | omega) _) | (with_reducible refine Below.alloc ?_ (by first | (simp; done) | (simp; omega) | omega) _))
      · exact own_os (o2.turns Tz (fun g hg e => by simp [Value.ownBlock] at hg; omega)) (by rw [List.length_set, HL.out]; omega)
      · intro a e
        injection e with e
        subst e
        have := (o2.tb (g := g') rfl).1
        show w.heap.size ≤ g'
        omega

set_option maxHeartbeats 6400000 in
theorem rapply_4 {w : World} {x : Option Addr} {n c : Nat} (m : Mp) (ch : Ch) (h : Os w x n c m.osds) (h1 : mayM m = true) (h2 : mayC ch = true) (h3 : m.ep ≠ 1048576) (hk : ch.kind = 4) {q : Nat} {o : Osd} (hf : m.osds.findIdx? (isId ch.osd.id) = some q) (ho : m.osds[q]? = some o) :
    Calls Tryz.prog 15 #[vM m.ep m.pool x n c, vC ch] w fun e w' => ∃ y yn yc, e = .returned (.tuple #[vM (applyP m ch).2.ep (applyP m ch).2.pool y yn yc, .int .i64 (applyP m ch).1]) ∧ Hid (ToldN w w' y yn yc (applyP m ch).2.osds) := by
  have hd1 := fun (hq : eqO (setIn ch.osd o) o = true) => (show doP ch.kind m.osds ch.osd = (6, m.osds) from by rw [hk]; exact turnP_same (f := setIn ch.osd) hf ho hq)
  have hd2 := fun (hq : eqO (setIn ch.osd o) o = false) => (show doP ch.kind m.osds ch.osd = (0, m.osds.set q (setIn ch.osd o)) from by rw [hk]; exact turnP_yes (f := setIn ch.osd) hf ho hq)
  have HA1 := hid (fun hq => applyP_err h1 h2 h3 (hd1 hq) (by simp))
  have HA2 := hid (fun hq => applyP_ok h1 h2 h3 (hd2 hq) rfl)
  have hE := fun W => eq_osd (setIn ch.osd o) o W
  obtain ⟨t, ht⟩ : ∃ t, t = eqO (setIn ch.osd o) o := ⟨_, rfl⟩
  rw [← ht] at hE HA1 HA2
  have HSM := hid (may_parts h1).2.2.1
  have hM := fun W (hW : Os W x n c m.osds) => rmay_any m hW
  have hC := fun W => rmayChange_any ch W
  have hP := fun W (hW : Os W x n c m.osds) => place_any m ch.osd.id hW
  have HS : Hid (∀ W, Below w.heap.size w W → Os W x n c m.osds) := fun W hW => h.below hW
  have HL := hid h.len
  have b0 := on (on (al w (.cells #[.int .i64 m.ep, .int .i64 m.pool.k, .int .i64 m.pool.m, .int .i64 m.pool.pgs, .int .i64 m.pool.dom, .slice x n c] 49)) (al _ (.cells #[.int .i64 ch.kind, .int .i64 ch.osd.id, .bool ch.osd.up, .bool ch.osd.inn, .int .i64 ch.osd.wt, .int .i64 ch.osd.life, .int .i64 ch.osd.boot, .int .i64 ch.osd.host, .int .i64 ch.osd.rack] 55))) (al _ (.cells #[.int .i64 0, .int .i64 0, .int .i64 0, .int .i64 0, .int .i64 0, .slice none 0 0] 49))
  have hM0 := hM _ (HS.out _ b0)
  have HB := hid b0
  have HX := hid (box3 w (.cells #[.int .i64 m.ep, .int .i64 m.pool.k, .int .i64 m.pool.m, .int .i64 m.pool.pgs, .int .i64 m.pool.dom, .slice x n c] 49) (.cells #[.int .i64 ch.kind, .int .i64 ch.osd.id, .bool ch.osd.up, .bool ch.osd.inn, .int .i64 ch.osd.wt, .int .i64 ch.osd.life, .int .i64 ch.osd.boot, .int .i64 ch.osd.host, .int .i64 ch.osd.rack] 55) (.cells #[.int .i64 0, .int .i64 0, .int .i64 0, .int .i64 0, .int .i64 0, .slice none 0 0] 49))
  have hsm := h.small
  clear hM h b0
  rw [h1] at hM0
  rw [h2] at hC
  rw [show idx (isId ch.osd.id) m.osds = (q : Int) by unfold idx; rw [hf]] at hP
  have hqn : q < n := by rw [← HL.out]; exact (List.getElem?_eq_some_iff.1 ho).1
  have hn64 : n ≤ 64 := by rw [← HL.out]; exact HSM.out
  have hq0 : ¬ (q : Int) < 0 := by omega
  have hqI : (q : Int) < (n : Int) := by omega
  have HO := hid ho
  rcases (HS.out w (Below.refl _ _)).row with h0 | ⟨b, ob, rfl, hbl, hcell⟩
  · omega
  have HC := hid hcell
  obtain ⟨e0, e1⟩ := (may_parts h1).1
  have hwr : IntKind.i64.wrap (m.ep + 1) = m.ep + 1 := by rw [IntKind.wrap_i64]; omega
  have hne : (m.ep == 1048576) = false := by simpa using h3
  clear h1 h2 h3 e0 e1 hd1 hd2 hf ho hcell ht
  obtain ⟨ep, ⟨pk, pm, pg, pd⟩, L⟩ := m
  obtain ⟨ck, c0, c1, c2, c3, c4, c5, c6, c7⟩ := ch
  unfold vM vC at *
  obtain ⟨i0, i1, i2, i3, i4, i5, i6, i7⟩ := o
  unfold vO setIn at *
  dsimp only at hM0 hC hP HB HX HS HA1 HA2 hwr hne hk hE HL HC HSM ⊢
  subst hk
  go_enter Tryz.func15, Tryz.ntmps15
  go_wp2_with (first
      | (
         go_at_call 24; refine hM0.mono ?_; rintro e w1 ⟨rfl, hb1⟩; clear hM0
         have em := (hb1.block _ (Array.getElem?_eq_some_iff.1 HX.out.1).1).trans HX.out.1
         have ec := (hb1.block _ (Array.getElem?_eq_some_iff.1 HX.out.2.1).1).trans HX.out.2.1
         have er := (hb1.block _ (Array.getElem?_eq_some_iff.1 HX.out.2.2).1).trans HX.out.2.2
         have HE1 := hid (And.intro em (And.intro ec er))
         have B1 := hid (on HB.out hb1)
         have l1 : w.heap.size + 1 + 1 < w1.heap.size := (Array.getElem?_eq_some_iff.1 er).1
         have j0 : w1.cell? ⟨w.heap.size + 1, 0, none⟩ = some (.int .i64 4) := cell_heap ec rfl
         have j1 : w1.cell? ⟨w.heap.size + 1, 1, none⟩ = some (.int .i64 c0) := cell_heap ec rfl
         have j2 : w1.cell? ⟨w.heap.size + 1, 2, none⟩ = some (.bool c1) := cell_heap ec rfl
         have j3 : w1.cell? ⟨w.heap.size + 1, 3, none⟩ = some (.bool c2) := cell_heap ec rfl
         have j4 : w1.cell? ⟨w.heap.size + 1, 4, none⟩ = some (.int .i64 c3) := cell_heap ec rfl
         have j5 : w1.cell? ⟨w.heap.size + 1, 5, none⟩ = some (.int .i64 c4) := cell_heap ec rfl
         have j6 : w1.cell? ⟨w.heap.size + 1, 6, none⟩ = some (.int .i64 c5) := cell_heap ec rfl
         have j7 : w1.cell? ⟨w.heap.size + 1, 7, none⟩ = some (.int .i64 c6) := cell_heap ec rfl
         have j8 : w1.cell? ⟨w.heap.size + 1, 8, none⟩ = some (.int .i64 c7) := cell_heap ec rfl
         clear hb1 em ec er)
      | (
         go_at_call 25; refine (hC _).mono ?_; rintro e w2 ⟨rfl, hb2⟩; clear hC
         have em := (hb2.block _ (Array.getElem?_eq_some_iff.1 HE1.out.1).1).trans HE1.out.1
         have ec := (hb2.block _ (Array.getElem?_eq_some_iff.1 HE1.out.2.1).1).trans HE1.out.2.1
         have er := (hb2.block _ (Array.getElem?_eq_some_iff.1 HE1.out.2.2).1).trans HE1.out.2.2
         have HE2 := hid (And.intro em (And.intro ec er))
         have B2 := hid (on B1.out hb2)
         have l2 : w.heap.size + 1 + 1 < w2.heap.size := (Array.getElem?_eq_some_iff.1 er).1
         have m0 : w2.cell? ⟨w.heap.size, 0, none⟩ = some (.int .i64 ep) := cell_heap em rfl
         have m1 : w2.cell? ⟨w.heap.size, 1, none⟩ = some (.int .i64 pk) := cell_heap em rfl
         have m2 : w2.cell? ⟨w.heap.size, 2, none⟩ = some (.int .i64 pm) := cell_heap em rfl
         have m3 : w2.cell? ⟨w.heap.size, 3, none⟩ = some (.int .i64 pg) := cell_heap em rfl
         have m4 : w2.cell? ⟨w.heap.size, 4, none⟩ = some (.int .i64 pd) := cell_heap em rfl
         have m5 : w2.cell? ⟨w.heap.size, 5, none⟩ = some (.slice (some ⟨b, ob, none⟩) n c) := cell_heap em rfl
         have q1 : w2.cell? ⟨w.heap.size + 1, 1, none⟩ = some (.int .i64 c0) := cell_heap ec rfl
         have hP2 := hP w2 (HS.out w2 B2.out)
         clear hb2 em ec er)
      | (
         go_at_call 26; refine hP2.mono ?_; rintro e w3 ⟨rfl, hb3⟩; clear hP2
         have em := (hb3.block _ (Array.getElem?_eq_some_iff.1 HE2.out.1).1).trans HE2.out.1
         have ec := (hb3.block _ (Array.getElem?_eq_some_iff.1 HE2.out.2.1).1).trans HE2.out.2.1
         have er := (hb3.block _ (Array.getElem?_eq_some_iff.1 HE2.out.2.2).1).trans HE2.out.2.2
         have HE3 := hid (And.intro em (And.intro ec er))
         have B3 := hid (on B2.out hb3)
         have l3 : w.heap.size + 1 + 1 < w3.heap.size := (Array.getElem?_eq_some_iff.1 er).1
         have l3a : w.heap.size < w3.heap.size := (Array.getElem?_eq_some_iff.1 em).1
         have l3b : w.heap.size + 1 < w3.heap.size := (Array.getElem?_eq_some_iff.1 ec).1
         have m0 : w3.cell? ⟨w.heap.size, 0, none⟩ = some (.int .i64 ep) := cell_heap em rfl
         have m1 : w3.cell? ⟨w.heap.size, 1, none⟩ = some (.int .i64 pk) := cell_heap em rfl
         have m2 : w3.cell? ⟨w.heap.size, 2, none⟩ = some (.int .i64 pm) := cell_heap em rfl
         have m3 : w3.cell? ⟨w.heap.size, 3, none⟩ = some (.int .i64 pg) := cell_heap em rfl
         have m4 : w3.cell? ⟨w.heap.size, 4, none⟩ = some (.int .i64 pd) := cell_heap em rfl
         have m5 : w3.cell? ⟨w.heap.size, 5, none⟩ = some (.slice (some ⟨b, ob, none⟩) n c) := cell_heap em rfl
         have q0 : w3.cell? ⟨w.heap.size + 1, 0, none⟩ = some (.int .i64 4) := cell_heap ec rfl
         have q1 : w3.cell? ⟨w.heap.size + 1, 1, none⟩ = some (.int .i64 c0) := cell_heap ec rfl
         have q2 : w3.cell? ⟨w.heap.size + 1, 2, none⟩ = some (.bool c1) := cell_heap ec rfl
         have q3 : w3.cell? ⟨w.heap.size + 1, 3, none⟩ = some (.bool c2) := cell_heap ec rfl
         have q4 : w3.cell? ⟨w.heap.size + 1, 4, none⟩ = some (.int .i64 c3) := cell_heap ec rfl
         have q5 : w3.cell? ⟨w.heap.size + 1, 5, none⟩ = some (.int .i64 c4) := cell_heap ec rfl
         have q6 : w3.cell? ⟨w.heap.size + 1, 6, none⟩ = some (.int .i64 c5) := cell_heap ec rfl
         have q7 : w3.cell? ⟨w.heap.size + 1, 7, none⟩ = some (.int .i64 c6) := cell_heap ec rfl
         have q8 : w3.cell? ⟨w.heap.size + 1, 8, none⟩ = some (.int .i64 c7) := cell_heap ec rfl
         have d0 : w3.cell? ⟨w.heap.size + 1 + 1, 0, none⟩ = some (.int .i64 0) := cell_heap er rfl
         have d1 : w3.cell? ⟨w.heap.size + 1 + 1, 1, none⟩ = some (.int .i64 0) := cell_heap er rfl
         have d2 : w3.cell? ⟨w.heap.size + 1 + 1, 2, none⟩ = some (.int .i64 0) := cell_heap er rfl
         have d3 : w3.cell? ⟨w.heap.size + 1 + 1, 3, none⟩ = some (.int .i64 0) := cell_heap er rfl
         have d4 : w3.cell? ⟨w.heap.size + 1 + 1, 4, none⟩ = some (.int .i64 0) := cell_heap er rfl
         have d5 : w3.cell? ⟨w.heap.size + 1 + 1, 5, none⟩ = some (.slice none 0 0) := cell_heap er rfl
         have g0 := fr_heap er 0
         have g1 := fr_heap er 1
         have g2 := fr_heap er 2
         have g3 := fr_heap er 3
         have g4 := fr_heap er 4
         have g5 := fr_heap er 5
         obtain ⟨u0, u1, u2, u3, u4, u5, u6, u7⟩ := Os.at (n := n) (c := c) (fun k a hk j v hv => keep B3.out (HC.out k a hk j v hv)) HO.out
         have lb3 : b < w3.heap.size := Nat.lt_of_lt_of_le hbl B3.out.size
         clear hb3 em ec er))
  cases t with
  | true =>
    go_quiet (fail)
    obtain ⟨wQ, hwQ⟩ : ∃ wQ, wQ = ((w3.alloc (.cells #[.int .i64 (ep + 1), .int .i64 pk, .int .i64 pm, .int .i64 pg, .int .i64 pd, .slice (some ⟨b, ob, none⟩) n c] 49)).alloc (.cells #[.int .i64 i0, .bool i1, .bool true, .int .i64 i3, .int .i64 i4, .int .i64 i5, .int .i64 i6, .int .i64 i7] 53)).drewN nq := ⟨_, rfl⟩
    have bx2 := box2 w3 (.cells #[.int .i64 (ep + 1), .int .i64 pk, .int .i64 pm, .int .i64 pg, .int .i64 pd, .slice (some ⟨b, ob, none⟩) n c] 49) (.cells #[.int .i64 i0, .bool i1, .bool true, .int .i64 i3, .int .i64 i4, .int .i64 i5, .int .i64 i6, .int .i64 i7] 53)
    have en : wQ.heap[w3.heap.size]? = some (.cells #[.int .i64 (ep + 1), .int .i64 pk, .int .i64 pm, .int .i64 pg, .int .i64 pd, .slice (some ⟨b, ob, none⟩) n c] 49 (0, 0)) := by rw [hwQ]; exact bx2.1
    have eo : wQ.heap[w3.heap.size + 1]? = some (.cells #[.int .i64 i0, .bool i1, .bool true, .int .i64 i3, .int .i64 i4, .int .i64 i5, .int .i64 i6, .int .i64 i7] 53 (0, 0)) := by rw [hwQ]; exact bx2.2
    have bQ : Below w3.heap.size w3 wQ := by rw [hwQ]; exact below_drewN' (on (al _ _) (al _ _)) _
    rw [← hwQ]
    clear hwQ bx2
    have BQ := hid (on B3.out bQ)
    replace d0 := keep bQ d0
    replace d1 := keep bQ d1
    replace d2 := keep bQ d2
    replace d3 := keep bQ d3
    replace d4 := keep bQ d4
    replace d5 := keep bQ d5
    replace g0 := keepf bQ l3 g0
    replace g1 := keepf bQ l3 g1
    replace g2 := keepf bQ l3 g2
    replace g3 := keepf bQ l3 g3
    replace g4 := keepf bQ l3 g4
    replace g5 := keepf bQ l3 g5
    go_wp2_with fail
    refine bodyPost_ret (v := .tuple #[.agg #[.int .i64 0, .int .i64 0, .int .i64 0, .int .i64 0, .int .i64 0, .slice none 0 0], .int .i64 6]) ?_ rfl ?_
    · rw [results_cell2 rfl]
      go_simp
    · rw [HA1.out trivial]
      refine ⟨none, 0, 0, rfl, ?_, os_none _, fun a e => by cases e⟩
      repeat (first | with_reducible exact BQ.out | (with_reducible refine Below.setCell ?_ (by first | (simp; done) | (simp; omega) | omega) _) | (with_reducible refine Below.alloc ?_ (by first | (simp; done) | (simp; omega) | omega) _))
  | false =>
    go_quiet (fail)
    obtain ⟨wQ, hwQ⟩ : ∃ wQ, wQ = ((w3.alloc (.cells #[.int .i64 (ep + 1), .int .i64 pk, .int .i64 pm, .int .i64 pg, .int .i64 pd, .slice (some ⟨b, ob, none⟩) n c] 49)).alloc (.cells #[.int .i64 i0, .bool i1, .bool true, .int .i64 i3, .int .i64 i4, .int .i64 i5, .int .i64 i6, .int .i64 i7] 53)).drewN nq := ⟨_, rfl⟩
    have bx2 := box2 w3 (.cells #[.int .i64 (ep + 1), .int .i64 pk, .int .i64 pm, .int .i64 pg, .int .i64 pd, .slice (some ⟨b, ob, none⟩) n c] 49) (.cells #[.int .i64 i0, .bool i1, .bool true, .int .i64 i3, .int .i64 i4, .int .i64 i5, .int .i64 i6, .int .i64 i7] 53)
    have en : wQ.heap[w3.heap.size]? = some (.cells #[.int .i64 (ep + 1), .int .i64 pk, .int .i64 pm, .int .i64 pg, .int .i64 pd, .slice (some ⟨b, ob, none⟩) n c] 49 (0, 0)) := by rw [hwQ]; exact bx2.1
    have eo : wQ.heap[w3.heap.size + 1]? = some (.cells #[.int .i64 i0, .bool i1, .bool true, .int .i64 i3, .int .i64 i4, .int .i64 i5, .int .i64 i6, .int .i64 i7] 53 (0, 0)) := by rw [hwQ]; exact bx2.2
    have bQ : Below w3.heap.size w3 wQ := by rw [hwQ]; exact below_drewN' (on (al _ _) (al _ _)) _
    rw [← hwQ]
    clear hwQ bx2
    have BQ := hid (on B3.out bQ)
    replace d0 := keep bQ d0
    replace d1 := keep bQ d1
    replace d2 := keep bQ d2
    replace d3 := keep bQ d3
    replace d4 := keep bQ d4
    replace d5 := keep bQ d5
    replace g0 := keepf bQ l3 g0
    replace g1 := keepf bQ l3 g1
    replace g2 := keepf bQ l3 g2
    replace g3 := keepf bQ l3 g3
    replace g4 := keepf bQ l3 g4
    replace g5 := keepf bQ l3 g5
    replace m5 := keep bQ m5
    have lq1 : w.heap.size < wQ.heap.size := cell_lt' m5
    have lq2 : w.heap.size + 1 + 1 < wQ.heap.size := cell_lt' d0
    have lq3 : w3.heap.size + 1 < wQ.heap.size := (Array.getElem?_eq_some_iff.1 eo).1
    obtain ⟨x', c', wA, hr, H⟩ := copy_own (B := w.heap.size) (HS.out wQ BQ.out) (by omega) (by omega) (fun e => by cases e)
    obtain ⟨g', c'', hRe, hle, hcm, hgB, hgl⟩ := H.out.1.there (fun e => by have := HL.out; rw [e] at this; simp at this; omega)
    rw [HL.out] at hRe
    injection hRe with hR1 hR2 hR3
    subst hR1 hR3
    have hbA := H.out.2.1
    have hgn : wQ.heap.size ≤ g' := H.out.2.2 g' rfl
    have enA : wA.heap[w3.heap.size]? = some (.cells #[.int .i64 (ep + 1), .int .i64 pk, .int .i64 pm, .int .i64 pg, .int .i64 pd, .slice (some ⟨b, ob, none⟩) n c] 49 (0, 0)) := (hbA.block _ (by omega)).trans en
    have eoA : wA.heap[w3.heap.size + 1]? = some (.cells #[.int .i64 i0, .bool i1, .bool true, .int .i64 i3, .int .i64 i4, .int .i64 i5, .int .i64 i6, .int .i64 i7] 53 (0, 0)) := (hbA.block _ (by omega)).trans eo
    have HAe := hid (And.intro enA eoA)
    have n0 : wA.cell? ⟨w3.heap.size, 0, none⟩ = some (.int .i64 (ep + 1)) := cell_heap enA rfl
    have n1 : wA.cell? ⟨w3.heap.size, 1, none⟩ = some (.int .i64 pk) := cell_heap enA rfl
    have n2 : wA.cell? ⟨w3.heap.size, 2, none⟩ = some (.int .i64 pm) := cell_heap enA rfl
    have n3 : wA.cell? ⟨w3.heap.size, 3, none⟩ = some (.int .i64 pg) := cell_heap enA rfl
    have n4 : wA.cell? ⟨w3.heap.size, 4, none⟩ = some (.int .i64 pd) := cell_heap enA rfl
    have n5 : wA.cell? ⟨w3.heap.size, 5, none⟩ = some (.slice (some ⟨b, ob, none⟩) n c) := cell_heap enA rfl
    have nf5 := fr_heap enA 5
    have v0 : wA.cell? ⟨w3.heap.size + 1, 0, none⟩ = some (.int .i64 i0) := cell_heap eoA rfl
    have v1 : wA.cell? ⟨w3.heap.size + 1, 1, none⟩ = some (.bool i1) := cell_heap eoA rfl
    have v2 : wA.cell? ⟨w3.heap.size + 1, 2, none⟩ = some (.bool true) := cell_heap eoA rfl
    have v3 : wA.cell? ⟨w3.heap.size + 1, 3, none⟩ = some (.int .i64 i3) := cell_heap eoA rfl
    have v4 : wA.cell? ⟨w3.heap.size + 1, 4, none⟩ = some (.int .i64 i4) := cell_heap eoA rfl
    have v5 : wA.cell? ⟨w3.heap.size + 1, 5, none⟩ = some (.int .i64 i5) := cell_heap eoA rfl
    have v6 : wA.cell? ⟨w3.heap.size + 1, 6, none⟩ = some (.int .i64 i6) := cell_heap eoA rfl
    have v7 : wA.cell? ⟨w3.heap.size + 1, 7, none⟩ = some (.int .i64 i7) := cell_heap eoA rfl
    replace d0 := keep hbA d0
    replace d1 := keep hbA d1
    replace d2 := keep hbA d2
    replace d3 := keep hbA d3
    replace d4 := keep hbA d4
    replace d5 := keep hbA d5
    replace g0 := keepf hbA lq2 g0
    replace g1 := keepf hbA lq2 g1
    replace g2 := keepf hbA lq2 g2
    replace g3 := keepf hbA lq2 g3
    replace g4 := keepf hbA lq2 g4
    replace g5 := keepf hbA lq2 g5
    obtain ⟨r0, r1, r2, r3, r4, r5, r6, r7⟩ := Os.at (n := n) (c := c) (b := g') (o := 0) (fun k a hk j v hv => by rw [Nat.zero_add]; exact H.out.1.cell orow.len hk hv) HO.out
    rw [Nat.zero_add] at r0 r1 r2 r3 r4 r5 r6 r7
    have rf : ∀ j, wA.frozen? ⟨g', j, none⟩ = false := fun j => H.out.1.frozen
    have s1 : g' ≠ w3.heap.size := by omega
    have s2 : g' ≠ w3.heap.size + 1 := by omega
    have s3 : g' ≠ w.heap.size + 1 + 1 := by omega
    have s4 : w3.heap.size ≠ w.heap.size + 1 + 1 := by omega
    have s5 : w3.heap.size + 1 ≠ w.heap.size + 1 + 1 := by omega
    have BA := hid (on BQ.out hbA)
    have la1 : w3.heap.size < wA.heap.size := cell_lt' n0
    clear en eo bQ hbA enA eoA
    go_wp2_with (at_builtin; refine Lib.wpList_append_run _ rfl _ _ _ _ rfl _ _ rfl rfl _ _ hr ?_)
    refine bodyPost_ret (v := .tuple #[.agg #[.int .i64 (ep + 1), .int .i64 pk, .int .i64 pm, .int .i64 pg, .int .i64 pd, .slice (some ⟨g', 0, none⟩) n c'], .int .i64 0]) ?_ rfl ?_
    · rw [results_cell2 rfl]
      go_simp
    · rw [HA2.out trivial]
      have o1 := H.out.1.turns (turns_put (Turns.refl (fun k => k = w3.heap.size) wA) 5 (.slice (some ⟨g', 0, none⟩) n c')) (fun g hg e => by simp [Value.ownBlock] at hg; omega)
      have o2 := Own.set8 o1 q ⟨i0, i1, true, i3, i4, i5, i6, i7⟩
      have Tz := turns_put (turns_put (turns_put (turns_put (turns_put (turns_put (Turns.refl (fun k => k = w.heap.size + 1 + 1) (put8 (wA.setCell ⟨w3.heap.size, 5, none⟩ (.slice (some ⟨g', 0, none⟩) n c')) g' (q * 8) ⟨i0, i1, true, i3, i4, i5, i6, i7⟩)) 0 (.int .i64 (ep + 1))) 1 (.int .i64 pk)) 2 (.int .i64 pm)) 3 (.int .i64 pg)) 4 (.int .i64 pd)) 5 (.slice (some ⟨g', 0, none⟩) n c')
      refine ⟨some ⟨g', 0, none⟩, n, c', rfl, ?_, ?_, ?_⟩
      · repeat (first | with_reducible exact BA.out | (with_reducible refine Below.setCell ?_ (by first | (simp; done) | (simp; omega) | omega) _) | (with_reducible refine Below.alloc ?_ (by first | (simp; done) | (simp; omega) | omega) _))
      · exact own_os (o2.turns Tz (fun g hg e => by simp [Value.ownBlock] at hg; omega)) (by rw [List.length_set, HL.out]; omega)
      · intro a e
        injection e with e
        subst e
        have := (o2.tb (g := g') rfl).1
        show w.heap.size ≤ g'
        omega

set_option maxHeartbeats 6400000 in
theorem rapply_5 {w : World} {x : Option Addr} {n c : Nat} (m : Mp) (ch : Ch) (h : Os w x n c m.osds) (h1 : mayM m = true) (h2 : mayC ch = true) (h3 : m.ep ≠ 1048576) (hk : ch.kind = 5) {q : Nat} {o : Osd} (hf : m.osds.findIdx? (isId ch.osd.id) = some q) (ho : m.osds[q]? = some o) :
    Calls Tryz.prog 15 #[vM m.ep m.pool x n c, vC ch] w fun e w' => ∃ y yn yc, e = .returned (.tuple #[vM (applyP m ch).2.ep (applyP m ch).2.pool y yn yc, .int .i64 (applyP m ch).1]) ∧ Hid (ToldN w w' y yn yc (applyP m ch).2.osds) := by
  have hd1 := fun (hq : eqO (setOut ch.osd o) o = true) => (show doP ch.kind m.osds ch.osd = (6, m.osds) from by rw [hk]; exact turnP_same (f := setOut ch.osd) hf ho hq)
  have hd2 := fun (hq : eqO (setOut ch.osd o) o = false) => (show doP ch.kind m.osds ch.osd = (0, m.osds.set q (setOut ch.osd o)) from by rw [hk]; exact turnP_yes (f := setOut ch.osd) hf ho hq)
  have HA1 := hid (fun hq => applyP_err h1 h2 h3 (hd1 hq) (by simp))
  have HA2 := hid (fun hq => applyP_ok h1 h2 h3 (hd2 hq) rfl)
  have hE := fun W => eq_osd (setOut ch.osd o) o W
  obtain ⟨t, ht⟩ : ∃ t, t = eqO (setOut ch.osd o) o := ⟨_, rfl⟩
  rw [← ht] at hE HA1 HA2
  have HSM := hid (may_parts h1).2.2.1
  have hM := fun W (hW : Os W x n c m.osds) => rmay_any m hW
  have hC := fun W => rmayChange_any ch W
  have hP := fun W (hW : Os W x n c m.osds) => place_any m ch.osd.id hW
  have HS : Hid (∀ W, Below w.heap.size w W → Os W x n c m.osds) := fun W hW => h.below hW
  have HL := hid h.len
  have b0 := on (on (al w (.cells #[.int .i64 m.ep, .int .i64 m.pool.k, .int .i64 m.pool.m, .int .i64 m.pool.pgs, .int .i64 m.pool.dom, .slice x n c] 49)) (al _ (.cells #[.int .i64 ch.kind, .int .i64 ch.osd.id, .bool ch.osd.up, .bool ch.osd.inn, .int .i64 ch.osd.wt, .int .i64 ch.osd.life, .int .i64 ch.osd.boot, .int .i64 ch.osd.host, .int .i64 ch.osd.rack] 55))) (al _ (.cells #[.int .i64 0, .int .i64 0, .int .i64 0, .int .i64 0, .int .i64 0, .slice none 0 0] 49))
  have hM0 := hM _ (HS.out _ b0)
  have HB := hid b0
  have HX := hid (box3 w (.cells #[.int .i64 m.ep, .int .i64 m.pool.k, .int .i64 m.pool.m, .int .i64 m.pool.pgs, .int .i64 m.pool.dom, .slice x n c] 49) (.cells #[.int .i64 ch.kind, .int .i64 ch.osd.id, .bool ch.osd.up, .bool ch.osd.inn, .int .i64 ch.osd.wt, .int .i64 ch.osd.life, .int .i64 ch.osd.boot, .int .i64 ch.osd.host, .int .i64 ch.osd.rack] 55) (.cells #[.int .i64 0, .int .i64 0, .int .i64 0, .int .i64 0, .int .i64 0, .slice none 0 0] 49))
  have hsm := h.small
  clear hM h b0
  rw [h1] at hM0
  rw [h2] at hC
  rw [show idx (isId ch.osd.id) m.osds = (q : Int) by unfold idx; rw [hf]] at hP
  have hqn : q < n := by rw [← HL.out]; exact (List.getElem?_eq_some_iff.1 ho).1
  have hn64 : n ≤ 64 := by rw [← HL.out]; exact HSM.out
  have hq0 : ¬ (q : Int) < 0 := by omega
  have hqI : (q : Int) < (n : Int) := by omega
  have HO := hid ho
  rcases (HS.out w (Below.refl _ _)).row with h0 | ⟨b, ob, rfl, hbl, hcell⟩
  · omega
  have HC := hid hcell
  obtain ⟨e0, e1⟩ := (may_parts h1).1
  have hwr : IntKind.i64.wrap (m.ep + 1) = m.ep + 1 := by rw [IntKind.wrap_i64]; omega
  have hne : (m.ep == 1048576) = false := by simpa using h3
  clear h1 h2 h3 e0 e1 hd1 hd2 hf ho hcell ht
  obtain ⟨ep, ⟨pk, pm, pg, pd⟩, L⟩ := m
  obtain ⟨ck, c0, c1, c2, c3, c4, c5, c6, c7⟩ := ch
  unfold vM vC at *
  obtain ⟨i0, i1, i2, i3, i4, i5, i6, i7⟩ := o
  unfold vO setOut at *
  dsimp only at hM0 hC hP HB HX HS HA1 HA2 hwr hne hk hE HL HC HSM ⊢
  subst hk
  go_enter Tryz.func15, Tryz.ntmps15
  go_wp2_with (first
      | (
         go_at_call 24; refine hM0.mono ?_; rintro e w1 ⟨rfl, hb1⟩; clear hM0
         have em := (hb1.block _ (Array.getElem?_eq_some_iff.1 HX.out.1).1).trans HX.out.1
         have ec := (hb1.block _ (Array.getElem?_eq_some_iff.1 HX.out.2.1).1).trans HX.out.2.1
         have er := (hb1.block _ (Array.getElem?_eq_some_iff.1 HX.out.2.2).1).trans HX.out.2.2
         have HE1 := hid (And.intro em (And.intro ec er))
         have B1 := hid (on HB.out hb1)
         have l1 : w.heap.size + 1 + 1 < w1.heap.size := (Array.getElem?_eq_some_iff.1 er).1
         have j0 : w1.cell? ⟨w.heap.size + 1, 0, none⟩ = some (.int .i64 5) := cell_heap ec rfl
         have j1 : w1.cell? ⟨w.heap.size + 1, 1, none⟩ = some (.int .i64 c0) := cell_heap ec rfl
         have j2 : w1.cell? ⟨w.heap.size + 1, 2, none⟩ = some (.bool c1) := cell_heap ec rfl
         have j3 : w1.cell? ⟨w.heap.size + 1, 3, none⟩ = some (.bool c2) := cell_heap ec rfl
         have j4 : w1.cell? ⟨w.heap.size + 1, 4, none⟩ = some (.int .i64 c3) := cell_heap ec rfl
         have j5 : w1.cell? ⟨w.heap.size + 1, 5, none⟩ = some (.int .i64 c4) := cell_heap ec rfl
         have j6 : w1.cell? ⟨w.heap.size + 1, 6, none⟩ = some (.int .i64 c5) := cell_heap ec rfl
         have j7 : w1.cell? ⟨w.heap.size + 1, 7, none⟩ = some (.int .i64 c6) := cell_heap ec rfl
         have j8 : w1.cell? ⟨w.heap.size + 1, 8, none⟩ = some (.int .i64 c7) := cell_heap ec rfl
         clear hb1 em ec er)
      | (
         go_at_call 25; refine (hC _).mono ?_; rintro e w2 ⟨rfl, hb2⟩; clear hC
         have em := (hb2.block _ (Array.getElem?_eq_some_iff.1 HE1.out.1).1).trans HE1.out.1
         have ec := (hb2.block _ (Array.getElem?_eq_some_iff.1 HE1.out.2.1).1).trans HE1.out.2.1
         have er := (hb2.block _ (Array.getElem?_eq_some_iff.1 HE1.out.2.2).1).trans HE1.out.2.2
         have HE2 := hid (And.intro em (And.intro ec er))
         have B2 := hid (on B1.out hb2)
         have l2 : w.heap.size + 1 + 1 < w2.heap.size := (Array.getElem?_eq_some_iff.1 er).1
         have m0 : w2.cell? ⟨w.heap.size, 0, none⟩ = some (.int .i64 ep) := cell_heap em rfl
         have m1 : w2.cell? ⟨w.heap.size, 1, none⟩ = some (.int .i64 pk) := cell_heap em rfl
         have m2 : w2.cell? ⟨w.heap.size, 2, none⟩ = some (.int .i64 pm) := cell_heap em rfl
         have m3 : w2.cell? ⟨w.heap.size, 3, none⟩ = some (.int .i64 pg) := cell_heap em rfl
         have m4 : w2.cell? ⟨w.heap.size, 4, none⟩ = some (.int .i64 pd) := cell_heap em rfl
         have m5 : w2.cell? ⟨w.heap.size, 5, none⟩ = some (.slice (some ⟨b, ob, none⟩) n c) := cell_heap em rfl
         have q1 : w2.cell? ⟨w.heap.size + 1, 1, none⟩ = some (.int .i64 c0) := cell_heap ec rfl
         have hP2 := hP w2 (HS.out w2 B2.out)
         clear hb2 em ec er)
      | (
         go_at_call 26; refine hP2.mono ?_; rintro e w3 ⟨rfl, hb3⟩; clear hP2
         have em := (hb3.block _ (Array.getElem?_eq_some_iff.1 HE2.out.1).1).trans HE2.out.1
         have ec := (hb3.block _ (Array.getElem?_eq_some_iff.1 HE2.out.2.1).1).trans HE2.out.2.1
         have er := (hb3.block _ (Array.getElem?_eq_some_iff.1 HE2.out.2.2).1).trans HE2.out.2.2
         have HE3 := hid (And.intro em (And.intro ec er))
         have B3 := hid (on B2.out hb3)
         have l3 : w.heap.size + 1 + 1 < w3.heap.size := (Array.getElem?_eq_some_iff.1 er).1
         have l3a : w.heap.size < w3.heap.size := (Array.getElem?_eq_some_iff.1 em).1
         have l3b : w.heap.size + 1 < w3.heap.size := (Array.getElem?_eq_some_iff.1 ec).1
         have m0 : w3.cell? ⟨w.heap.size, 0, none⟩ = some (.int .i64 ep) := cell_heap em rfl
         have m1 : w3.cell? ⟨w.heap.size, 1, none⟩ = some (.int .i64 pk) := cell_heap em rfl
         have m2 : w3.cell? ⟨w.heap.size, 2, none⟩ = some (.int .i64 pm) := cell_heap em rfl
         have m3 : w3.cell? ⟨w.heap.size, 3, none⟩ = some (.int .i64 pg) := cell_heap em rfl
         have m4 : w3.cell? ⟨w.heap.size, 4, none⟩ = some (.int .i64 pd) := cell_heap em rfl
         have m5 : w3.cell? ⟨w.heap.size, 5, none⟩ = some (.slice (some ⟨b, ob, none⟩) n c) := cell_heap em rfl
         have q0 : w3.cell? ⟨w.heap.size + 1, 0, none⟩ = some (.int .i64 5) := cell_heap ec rfl
         have q1 : w3.cell? ⟨w.heap.size + 1, 1, none⟩ = some (.int .i64 c0) := cell_heap ec rfl
         have q2 : w3.cell? ⟨w.heap.size + 1, 2, none⟩ = some (.bool c1) := cell_heap ec rfl
         have q3 : w3.cell? ⟨w.heap.size + 1, 3, none⟩ = some (.bool c2) := cell_heap ec rfl
         have q4 : w3.cell? ⟨w.heap.size + 1, 4, none⟩ = some (.int .i64 c3) := cell_heap ec rfl
         have q5 : w3.cell? ⟨w.heap.size + 1, 5, none⟩ = some (.int .i64 c4) := cell_heap ec rfl
         have q6 : w3.cell? ⟨w.heap.size + 1, 6, none⟩ = some (.int .i64 c5) := cell_heap ec rfl
         have q7 : w3.cell? ⟨w.heap.size + 1, 7, none⟩ = some (.int .i64 c6) := cell_heap ec rfl
         have q8 : w3.cell? ⟨w.heap.size + 1, 8, none⟩ = some (.int .i64 c7) := cell_heap ec rfl
         have d0 : w3.cell? ⟨w.heap.size + 1 + 1, 0, none⟩ = some (.int .i64 0) := cell_heap er rfl
         have d1 : w3.cell? ⟨w.heap.size + 1 + 1, 1, none⟩ = some (.int .i64 0) := cell_heap er rfl
         have d2 : w3.cell? ⟨w.heap.size + 1 + 1, 2, none⟩ = some (.int .i64 0) := cell_heap er rfl
         have d3 : w3.cell? ⟨w.heap.size + 1 + 1, 3, none⟩ = some (.int .i64 0) := cell_heap er rfl
         have d4 : w3.cell? ⟨w.heap.size + 1 + 1, 4, none⟩ = some (.int .i64 0) := cell_heap er rfl
         have d5 : w3.cell? ⟨w.heap.size + 1 + 1, 5, none⟩ = some (.slice none 0 0) := cell_heap er rfl
         have g0 := fr_heap er 0
         have g1 := fr_heap er 1
         have g2 := fr_heap er 2
         have g3 := fr_heap er 3
         have g4 := fr_heap er 4
         have g5 := fr_heap er 5
         obtain ⟨u0, u1, u2, u3, u4, u5, u6, u7⟩ := Os.at (n := n) (c := c) (fun k a hk j v hv => keep B3.out (HC.out k a hk j v hv)) HO.out
         have lb3 : b < w3.heap.size := Nat.lt_of_lt_of_le hbl B3.out.size
         clear hb3 em ec er))
  cases t with
  | true =>
    go_quiet (fail)
    obtain ⟨wQ, hwQ⟩ : ∃ wQ, wQ = ((w3.alloc (.cells #[.int .i64 (ep + 1), .int .i64 pk, .int .i64 pm, .int .i64 pg, .int .i64 pd, .slice (some ⟨b, ob, none⟩) n c] 49)).alloc (.cells #[.int .i64 i0, .bool i1, .bool false, .int .i64 i3, .int .i64 i4, .int .i64 i5, .int .i64 i6, .int .i64 i7] 53)).drewN nq := ⟨_, rfl⟩
    have bx2 := box2 w3 (.cells #[.int .i64 (ep + 1), .int .i64 pk, .int .i64 pm, .int .i64 pg, .int .i64 pd, .slice (some ⟨b, ob, none⟩) n c] 49) (.cells #[.int .i64 i0, .bool i1, .bool false, .int .i64 i3, .int .i64 i4, .int .i64 i5, .int .i64 i6, .int .i64 i7] 53)
    have en : wQ.heap[w3.heap.size]? = some (.cells #[.int .i64 (ep + 1), .int .i64 pk, .int .i64 pm, .int .i64 pg, .int .i64 pd, .slice (some ⟨b, ob, none⟩) n c] 49 (0, 0)) := by rw [hwQ]; exact bx2.1
    have eo : wQ.heap[w3.heap.size + 1]? = some (.cells #[.int .i64 i0, .bool i1, .bool false, .int .i64 i3, .int .i64 i4, .int .i64 i5, .int .i64 i6, .int .i64 i7] 53 (0, 0)) := by rw [hwQ]; exact bx2.2
    have bQ : Below w3.heap.size w3 wQ := by rw [hwQ]; exact below_drewN' (on (al _ _) (al _ _)) _
    rw [← hwQ]
    clear hwQ bx2
    have BQ := hid (on B3.out bQ)
    replace d0 := keep bQ d0
    replace d1 := keep bQ d1
    replace d2 := keep bQ d2
    replace d3 := keep bQ d3
    replace d4 := keep bQ d4
    replace d5 := keep bQ d5
    replace g0 := keepf bQ l3 g0
    replace g1 := keepf bQ l3 g1
    replace g2 := keepf bQ l3 g2
    replace g3 := keepf bQ l3 g3
    replace g4 := keepf bQ l3 g4
    replace g5 := keepf bQ l3 g5
    go_wp2_with fail
    refine bodyPost_ret (v := .tuple #[.agg #[.int .i64 0, .int .i64 0, .int .i64 0, .int .i64 0, .int .i64 0, .slice none 0 0], .int .i64 6]) ?_ rfl ?_
    · rw [results_cell2 rfl]
      go_simp
    · rw [HA1.out trivial]
      refine ⟨none, 0, 0, rfl, ?_, os_none _, fun a e => by cases e⟩
      repeat (first | with_reducible exact BQ.out | (with_reducible refine Below.setCell ?_ (by first | (simp; done) | (simp; omega) | omega) _) | (with_reducible refine Below.alloc ?_ (by first | (simp; done) | (simp; omega) | omega) _))
  | false =>
    go_quiet (fail)
    obtain ⟨wQ, hwQ⟩ : ∃ wQ, wQ = ((w3.alloc (.cells #[.int .i64 (ep + 1), .int .i64 pk, .int .i64 pm, .int .i64 pg, .int .i64 pd, .slice (some ⟨b, ob, none⟩) n c] 49)).alloc (.cells #[.int .i64 i0, .bool i1, .bool false, .int .i64 i3, .int .i64 i4, .int .i64 i5, .int .i64 i6, .int .i64 i7] 53)).drewN nq := ⟨_, rfl⟩
    have bx2 := box2 w3 (.cells #[.int .i64 (ep + 1), .int .i64 pk, .int .i64 pm, .int .i64 pg, .int .i64 pd, .slice (some ⟨b, ob, none⟩) n c] 49) (.cells #[.int .i64 i0, .bool i1, .bool false, .int .i64 i3, .int .i64 i4, .int .i64 i5, .int .i64 i6, .int .i64 i7] 53)
    have en : wQ.heap[w3.heap.size]? = some (.cells #[.int .i64 (ep + 1), .int .i64 pk, .int .i64 pm, .int .i64 pg, .int .i64 pd, .slice (some ⟨b, ob, none⟩) n c] 49 (0, 0)) := by rw [hwQ]; exact bx2.1
    have eo : wQ.heap[w3.heap.size + 1]? = some (.cells #[.int .i64 i0, .bool i1, .bool false, .int .i64 i3, .int .i64 i4, .int .i64 i5, .int .i64 i6, .int .i64 i7] 53 (0, 0)) := by rw [hwQ]; exact bx2.2
    have bQ : Below w3.heap.size w3 wQ := by rw [hwQ]; exact below_drewN' (on (al _ _) (al _ _)) _
    rw [← hwQ]
    clear hwQ bx2
    have BQ := hid (on B3.out bQ)
    replace d0 := keep bQ d0
    replace d1 := keep bQ d1
    replace d2 := keep bQ d2
    replace d3 := keep bQ d3
    replace d4 := keep bQ d4
    replace d5 := keep bQ d5
    replace g0 := keepf bQ l3 g0
    replace g1 := keepf bQ l3 g1
    replace g2 := keepf bQ l3 g2
    replace g3 := keepf bQ l3 g3
    replace g4 := keepf bQ l3 g4
    replace g5 := keepf bQ l3 g5
    replace m5 := keep bQ m5
    have lq1 : w.heap.size < wQ.heap.size := cell_lt' m5
    have lq2 : w.heap.size + 1 + 1 < wQ.heap.size := cell_lt' d0
    have lq3 : w3.heap.size + 1 < wQ.heap.size := (Array.getElem?_eq_some_iff.1 eo).1
    obtain ⟨x', c', wA, hr, H⟩ := copy_own (B := w.heap.size) (HS.out wQ BQ.out) (by omega) (by omega) (fun e => by cases e)
    obtain ⟨g', c'', hRe, hle, hcm, hgB, hgl⟩ := H.out.1.there (fun e => by have := HL.out; rw [e] at this; simp at this; omega)
    rw [HL.out] at hRe
    injection hRe with hR1 hR2 hR3
    subst hR1 hR3
    have hbA := H.out.2.1
    have hgn : wQ.heap.size ≤ g' := H.out.2.2 g' rfl
    have enA : wA.heap[w3.heap.size]? = some (.cells #[.int .i64 (ep + 1), .int .i64 pk, .int .i64 pm, .int .i64 pg, .int .i64 pd, .slice (some ⟨b, ob, none⟩) n c] 49 (0, 0)) := (hbA.block _ (by omega)).trans en
    have eoA : wA.heap[w3.heap.size + 1]? = some (.cells #[.int .i64 i0, .bool i1, .bool false, .int .i64 i3, .int .i64 i4, .int .i64 i5, .int .i64 i6, .int .i64 i7] 53 (0, 0)) := (hbA.block _ (by omega)).trans eo
    have HAe := hid (And.intro enA eoA)
    have n0 : wA.cell? ⟨w3.heap.size, 0, none⟩ = some (.int .i64 (ep + 1)) := cell_heap enA rfl
    have n1 : wA.cell? ⟨w3.heap.size, 1, none⟩ = some (.int .i64 pk) := cell_heap enA rfl
    have n2 : wA.cell? ⟨w3.heap.size, 2, none⟩ = some (.int .i64 pm) := cell_heap enA rfl
    have n3 : wA.cell? ⟨w3.heap.size, 3, none⟩ = some (.int .i64 pg) := cell_heap enA rfl
    have n4 : wA.cell? ⟨w3.heap.size, 4, none⟩ = some (.int .i64 pd) := cell_heap enA rfl
    have n5 : wA.cell? ⟨w3.heap.size, 5, none⟩ = some (.slice (some ⟨b, ob, none⟩) n c) := cell_heap enA rfl
    have nf5 := fr_heap enA 5
    have v0 : wA.cell? ⟨w3.heap.size + 1, 0, none⟩ = some (.int .i64 i0) := cell_heap eoA rfl
    have v1 : wA.cell? ⟨w3.heap.size + 1, 1, none⟩ = some (.bool i1) := cell_heap eoA rfl
    have v2 : wA.cell? ⟨w3.heap.size + 1, 2, none⟩ = some (.bool false) := cell_heap eoA rfl
    have v3 : wA.cell? ⟨w3.heap.size + 1, 3, none⟩ = some (.int .i64 i3) := cell_heap eoA rfl
    have v4 : wA.cell? ⟨w3.heap.size + 1, 4, none⟩ = some (.int .i64 i4) := cell_heap eoA rfl
    have v5 : wA.cell? ⟨w3.heap.size + 1, 5, none⟩ = some (.int .i64 i5) := cell_heap eoA rfl
    have v6 : wA.cell? ⟨w3.heap.size + 1, 6, none⟩ = some (.int .i64 i6) := cell_heap eoA rfl
    have v7 : wA.cell? ⟨w3.heap.size + 1, 7, none⟩ = some (.int .i64 i7) := cell_heap eoA rfl
    replace d0 := keep hbA d0
    replace d1 := keep hbA d1
    replace d2 := keep hbA d2
    replace d3 := keep hbA d3
    replace d4 := keep hbA d4
    replace d5 := keep hbA d5
    replace g0 := keepf hbA lq2 g0
    replace g1 := keepf hbA lq2 g1
    replace g2 := keepf hbA lq2 g2
    replace g3 := keepf hbA lq2 g3
    replace g4 := keepf hbA lq2 g4
    replace g5 := keepf hbA lq2 g5
    obtain ⟨r0, r1, r2, r3, r4, r5, r6, r7⟩ := Os.at (n := n) (c := c) (b := g') (o := 0) (fun k a hk j v hv => by rw [Nat.zero_add]; exact H.out.1.cell orow.len hk hv) HO.out
    rw [Nat.zero_add] at r0 r1 r2 r3 r4 r5 r6 r7
    have rf : ∀ j, wA.frozen? ⟨g', j, none⟩ = false := fun j => H.out.1.frozen
    have s1 : g' ≠ w3.heap.size := by omega
    have s2 : g' ≠ w3.heap.size + 1 := by omega
    have s3 : g' ≠ w.heap.size + 1 + 1 := by omega
    have s4 : w3.heap.size ≠ w.heap.size + 1 + 1 := by omega
    have s5 : w3.heap.size + 1 ≠ w.heap.size + 1 + 1 := by omega
    have BA := hid (on BQ.out hbA)
    have la1 : w3.heap.size < wA.heap.size := cell_lt' n0
    clear en eo bQ hbA enA eoA
    go_wp2_with (at_builtin; refine Lib.wpList_append_run _ rfl _ _ _ _ rfl _ _ rfl rfl _ _ hr ?_)
    refine bodyPost_ret (v := .tuple #[.agg #[.int .i64 (ep + 1), .int .i64 pk, .int .i64 pm, .int .i64 pg, .int .i64 pd, .slice (some ⟨g', 0, none⟩) n c'], .int .i64 0]) ?_ rfl ?_
    · rw [results_cell2 rfl]
      go_simp
    · rw [HA2.out trivial]
      have o1 := H.out.1.turns (turns_put (Turns.refl (fun k => k = w3.heap.size) wA) 5 (.slice (some ⟨g', 0, none⟩) n c')) (fun g hg e => by simp [Value.ownBlock] at hg; omega)
      have o2 := Own.set8 o1 q ⟨i0, i1, false, i3, i4, i5, i6, i7⟩
      have Tz := turns_put (turns_put (turns_put (turns_put (turns_put (turns_put (Turns.refl (fun k => k = w.heap.size + 1 + 1) (put8 (wA.setCell ⟨w3.heap.size, 5, none⟩ (.slice (some ⟨g', 0, none⟩) n c')) g' (q * 8) ⟨i0, i1, false, i3, i4, i5, i6, i7⟩)) 0 (.int .i64 (ep + 1))) 1 (.int .i64 pk)) 2 (.int .i64 pm)) 3 (.int .i64 pg)) 4 (.int .i64 pd)) 5 (.slice (some ⟨g', 0, none⟩) n c')
      refine ⟨some ⟨g', 0, none⟩, n, c', rfl, ?_, ?_, ?_⟩
      · repeat (first | with_reducible exact BA.out | (with_reducible refine Below.setCell ?_ (by first | (simp; done) | (simp; omega) | omega) _) | (with_reducible refine Below.alloc ?_ (by first | (simp; done) | (simp; omega) | omega) _))
      · exact own_os (o2.turns Tz (fun g hg e => by simp [Value.ownBlock] at hg; omega)) (by rw [List.length_set, HL.out]; omega)
      · intro a e
        injection e with e
        subst e
        have := (o2.tb (g := g') rfl).1
        show w.heap.size ≤ g'
        omega

set_option maxHeartbeats 6400000 in
theorem rapply_6 {w : World} {x : Option Addr} {n c : Nat} (m : Mp) (ch : Ch) (h : Os w x n c m.osds) (h1 : mayM m = true) (h2 : mayC ch = true) (h3 : m.ep ≠ 1048576) (hk : ch.kind = 6) {q : Nat} {o : Osd} (hf : m.osds.findIdx? (isId ch.osd.id) = some q) (ho : m.osds[q]? = some o) :
    Calls Tryz.prog 15 #[vM m.ep m.pool x n c, vC ch] w fun e w' => ∃ y yn yc, e = .returned (.tuple #[vM (applyP m ch).2.ep (applyP m ch).2.pool y yn yc, .int .i64 (applyP m ch).1]) ∧ Hid (ToldN w w' y yn yc (applyP m ch).2.osds) := by
  have hd1 := fun (hq : eqO (setWt ch.osd o) o = true) => (show doP ch.kind m.osds ch.osd = (6, m.osds) from by rw [hk]; exact turnP_same (f := setWt ch.osd) hf ho hq)
  have hd2 := fun (hq : eqO (setWt ch.osd o) o = false) => (show doP ch.kind m.osds ch.osd = (0, m.osds.set q (setWt ch.osd o)) from by rw [hk]; exact turnP_yes (f := setWt ch.osd) hf ho hq)
  have HA1 := hid (fun hq => applyP_err h1 h2 h3 (hd1 hq) (by simp))
  have HA2 := hid (fun hq => applyP_ok h1 h2 h3 (hd2 hq) rfl)
  have hE := fun W => eq_osd (setWt ch.osd o) o W
  obtain ⟨t, ht⟩ : ∃ t, t = eqO (setWt ch.osd o) o := ⟨_, rfl⟩
  rw [← ht] at hE HA1 HA2
  have HSM := hid (may_parts h1).2.2.1
  have hM := fun W (hW : Os W x n c m.osds) => rmay_any m hW
  have hC := fun W => rmayChange_any ch W
  have hP := fun W (hW : Os W x n c m.osds) => place_any m ch.osd.id hW
  have HS : Hid (∀ W, Below w.heap.size w W → Os W x n c m.osds) := fun W hW => h.below hW
  have HL := hid h.len
  have b0 := on (on (al w (.cells #[.int .i64 m.ep, .int .i64 m.pool.k, .int .i64 m.pool.m, .int .i64 m.pool.pgs, .int .i64 m.pool.dom, .slice x n c] 49)) (al _ (.cells #[.int .i64 ch.kind, .int .i64 ch.osd.id, .bool ch.osd.up, .bool ch.osd.inn, .int .i64 ch.osd.wt, .int .i64 ch.osd.life, .int .i64 ch.osd.boot, .int .i64 ch.osd.host, .int .i64 ch.osd.rack] 55))) (al _ (.cells #[.int .i64 0, .int .i64 0, .int .i64 0, .int .i64 0, .int .i64 0, .slice none 0 0] 49))
  have hM0 := hM _ (HS.out _ b0)
  have HB := hid b0
  have HX := hid (box3 w (.cells #[.int .i64 m.ep, .int .i64 m.pool.k, .int .i64 m.pool.m, .int .i64 m.pool.pgs, .int .i64 m.pool.dom, .slice x n c] 49) (.cells #[.int .i64 ch.kind, .int .i64 ch.osd.id, .bool ch.osd.up, .bool ch.osd.inn, .int .i64 ch.osd.wt, .int .i64 ch.osd.life, .int .i64 ch.osd.boot, .int .i64 ch.osd.host, .int .i64 ch.osd.rack] 55) (.cells #[.int .i64 0, .int .i64 0, .int .i64 0, .int .i64 0, .int .i64 0, .slice none 0 0] 49))
  have hsm := h.small
  clear hM h b0
  rw [h1] at hM0
  rw [h2] at hC
  rw [show idx (isId ch.osd.id) m.osds = (q : Int) by unfold idx; rw [hf]] at hP
  have hqn : q < n := by rw [← HL.out]; exact (List.getElem?_eq_some_iff.1 ho).1
  have hn64 : n ≤ 64 := by rw [← HL.out]; exact HSM.out
  have hq0 : ¬ (q : Int) < 0 := by omega
  have hqI : (q : Int) < (n : Int) := by omega
  have HO := hid ho
  rcases (HS.out w (Below.refl _ _)).row with h0 | ⟨b, ob, rfl, hbl, hcell⟩
  · omega
  have HC := hid hcell
  obtain ⟨e0, e1⟩ := (may_parts h1).1
  have hwr : IntKind.i64.wrap (m.ep + 1) = m.ep + 1 := by rw [IntKind.wrap_i64]; omega
  have hne : (m.ep == 1048576) = false := by simpa using h3
  clear h1 h2 h3 e0 e1 hd1 hd2 hf ho hcell ht
  obtain ⟨ep, ⟨pk, pm, pg, pd⟩, L⟩ := m
  obtain ⟨ck, c0, c1, c2, c3, c4, c5, c6, c7⟩ := ch
  unfold vM vC at *
  obtain ⟨i0, i1, i2, i3, i4, i5, i6, i7⟩ := o
  unfold vO setWt at *
  dsimp only at hM0 hC hP HB HX HS HA1 HA2 hwr hne hk hE HL HC HSM ⊢
  subst hk
  go_enter Tryz.func15, Tryz.ntmps15
  go_wp2_with (first
      | (
         go_at_call 24; refine hM0.mono ?_; rintro e w1 ⟨rfl, hb1⟩; clear hM0
         have em := (hb1.block _ (Array.getElem?_eq_some_iff.1 HX.out.1).1).trans HX.out.1
         have ec := (hb1.block _ (Array.getElem?_eq_some_iff.1 HX.out.2.1).1).trans HX.out.2.1
         have er := (hb1.block _ (Array.getElem?_eq_some_iff.1 HX.out.2.2).1).trans HX.out.2.2
         have HE1 := hid (And.intro em (And.intro ec er))
         have B1 := hid (on HB.out hb1)
         have l1 : w.heap.size + 1 + 1 < w1.heap.size := (Array.getElem?_eq_some_iff.1 er).1
         have j0 : w1.cell? ⟨w.heap.size + 1, 0, none⟩ = some (.int .i64 6) := cell_heap ec rfl
         have j1 : w1.cell? ⟨w.heap.size + 1, 1, none⟩ = some (.int .i64 c0) := cell_heap ec rfl
         have j2 : w1.cell? ⟨w.heap.size + 1, 2, none⟩ = some (.bool c1) := cell_heap ec rfl
         have j3 : w1.cell? ⟨w.heap.size + 1, 3, none⟩ = some (.bool c2) := cell_heap ec rfl
         have j4 : w1.cell? ⟨w.heap.size + 1, 4, none⟩ = some (.int .i64 c3) := cell_heap ec rfl
         have j5 : w1.cell? ⟨w.heap.size + 1, 5, none⟩ = some (.int .i64 c4) := cell_heap ec rfl
         have j6 : w1.cell? ⟨w.heap.size + 1, 6, none⟩ = some (.int .i64 c5) := cell_heap ec rfl
         have j7 : w1.cell? ⟨w.heap.size + 1, 7, none⟩ = some (.int .i64 c6) := cell_heap ec rfl
         have j8 : w1.cell? ⟨w.heap.size + 1, 8, none⟩ = some (.int .i64 c7) := cell_heap ec rfl
         clear hb1 em ec er)
      | (
         go_at_call 25; refine (hC _).mono ?_; rintro e w2 ⟨rfl, hb2⟩; clear hC
         have em := (hb2.block _ (Array.getElem?_eq_some_iff.1 HE1.out.1).1).trans HE1.out.1
         have ec := (hb2.block _ (Array.getElem?_eq_some_iff.1 HE1.out.2.1).1).trans HE1.out.2.1
         have er := (hb2.block _ (Array.getElem?_eq_some_iff.1 HE1.out.2.2).1).trans HE1.out.2.2
         have HE2 := hid (And.intro em (And.intro ec er))
         have B2 := hid (on B1.out hb2)
         have l2 : w.heap.size + 1 + 1 < w2.heap.size := (Array.getElem?_eq_some_iff.1 er).1
         have m0 : w2.cell? ⟨w.heap.size, 0, none⟩ = some (.int .i64 ep) := cell_heap em rfl
         have m1 : w2.cell? ⟨w.heap.size, 1, none⟩ = some (.int .i64 pk) := cell_heap em rfl
         have m2 : w2.cell? ⟨w.heap.size, 2, none⟩ = some (.int .i64 pm) := cell_heap em rfl
         have m3 : w2.cell? ⟨w.heap.size, 3, none⟩ = some (.int .i64 pg) := cell_heap em rfl
         have m4 : w2.cell? ⟨w.heap.size, 4, none⟩ = some (.int .i64 pd) := cell_heap em rfl
         have m5 : w2.cell? ⟨w.heap.size, 5, none⟩ = some (.slice (some ⟨b, ob, none⟩) n c) := cell_heap em rfl
         have q1 : w2.cell? ⟨w.heap.size + 1, 1, none⟩ = some (.int .i64 c0) := cell_heap ec rfl
         have hP2 := hP w2 (HS.out w2 B2.out)
         clear hb2 em ec er)
      | (
         go_at_call 26; refine hP2.mono ?_; rintro e w3 ⟨rfl, hb3⟩; clear hP2
         have em := (hb3.block _ (Array.getElem?_eq_some_iff.1 HE2.out.1).1).trans HE2.out.1
         have ec := (hb3.block _ (Array.getElem?_eq_some_iff.1 HE2.out.2.1).1).trans HE2.out.2.1
         have er := (hb3.block _ (Array.getElem?_eq_some_iff.1 HE2.out.2.2).1).trans HE2.out.2.2
         have HE3 := hid (And.intro em (And.intro ec er))
         have B3 := hid (on B2.out hb3)
         have l3 : w.heap.size + 1 + 1 < w3.heap.size := (Array.getElem?_eq_some_iff.1 er).1
         have l3a : w.heap.size < w3.heap.size := (Array.getElem?_eq_some_iff.1 em).1
         have l3b : w.heap.size + 1 < w3.heap.size := (Array.getElem?_eq_some_iff.1 ec).1
         have m0 : w3.cell? ⟨w.heap.size, 0, none⟩ = some (.int .i64 ep) := cell_heap em rfl
         have m1 : w3.cell? ⟨w.heap.size, 1, none⟩ = some (.int .i64 pk) := cell_heap em rfl
         have m2 : w3.cell? ⟨w.heap.size, 2, none⟩ = some (.int .i64 pm) := cell_heap em rfl
         have m3 : w3.cell? ⟨w.heap.size, 3, none⟩ = some (.int .i64 pg) := cell_heap em rfl
         have m4 : w3.cell? ⟨w.heap.size, 4, none⟩ = some (.int .i64 pd) := cell_heap em rfl
         have m5 : w3.cell? ⟨w.heap.size, 5, none⟩ = some (.slice (some ⟨b, ob, none⟩) n c) := cell_heap em rfl
         have q0 : w3.cell? ⟨w.heap.size + 1, 0, none⟩ = some (.int .i64 6) := cell_heap ec rfl
         have q1 : w3.cell? ⟨w.heap.size + 1, 1, none⟩ = some (.int .i64 c0) := cell_heap ec rfl
         have q2 : w3.cell? ⟨w.heap.size + 1, 2, none⟩ = some (.bool c1) := cell_heap ec rfl
         have q3 : w3.cell? ⟨w.heap.size + 1, 3, none⟩ = some (.bool c2) := cell_heap ec rfl
         have q4 : w3.cell? ⟨w.heap.size + 1, 4, none⟩ = some (.int .i64 c3) := cell_heap ec rfl
         have q5 : w3.cell? ⟨w.heap.size + 1, 5, none⟩ = some (.int .i64 c4) := cell_heap ec rfl
         have q6 : w3.cell? ⟨w.heap.size + 1, 6, none⟩ = some (.int .i64 c5) := cell_heap ec rfl
         have q7 : w3.cell? ⟨w.heap.size + 1, 7, none⟩ = some (.int .i64 c6) := cell_heap ec rfl
         have q8 : w3.cell? ⟨w.heap.size + 1, 8, none⟩ = some (.int .i64 c7) := cell_heap ec rfl
         have d0 : w3.cell? ⟨w.heap.size + 1 + 1, 0, none⟩ = some (.int .i64 0) := cell_heap er rfl
         have d1 : w3.cell? ⟨w.heap.size + 1 + 1, 1, none⟩ = some (.int .i64 0) := cell_heap er rfl
         have d2 : w3.cell? ⟨w.heap.size + 1 + 1, 2, none⟩ = some (.int .i64 0) := cell_heap er rfl
         have d3 : w3.cell? ⟨w.heap.size + 1 + 1, 3, none⟩ = some (.int .i64 0) := cell_heap er rfl
         have d4 : w3.cell? ⟨w.heap.size + 1 + 1, 4, none⟩ = some (.int .i64 0) := cell_heap er rfl
         have d5 : w3.cell? ⟨w.heap.size + 1 + 1, 5, none⟩ = some (.slice none 0 0) := cell_heap er rfl
         have g0 := fr_heap er 0
         have g1 := fr_heap er 1
         have g2 := fr_heap er 2
         have g3 := fr_heap er 3
         have g4 := fr_heap er 4
         have g5 := fr_heap er 5
         obtain ⟨u0, u1, u2, u3, u4, u5, u6, u7⟩ := Os.at (n := n) (c := c) (fun k a hk j v hv => keep B3.out (HC.out k a hk j v hv)) HO.out
         have lb3 : b < w3.heap.size := Nat.lt_of_lt_of_le hbl B3.out.size
         clear hb3 em ec er))
  cases t with
  | true =>
    go_quiet (fail)
    obtain ⟨wQ, hwQ⟩ : ∃ wQ, wQ = ((w3.alloc (.cells #[.int .i64 (ep + 1), .int .i64 pk, .int .i64 pm, .int .i64 pg, .int .i64 pd, .slice (some ⟨b, ob, none⟩) n c] 49)).alloc (.cells #[.int .i64 i0, .bool i1, .bool i2, .int .i64 c3, .int .i64 i4, .int .i64 i5, .int .i64 i6, .int .i64 i7] 53)).drewN nq := ⟨_, rfl⟩
    have bx2 := box2 w3 (.cells #[.int .i64 (ep + 1), .int .i64 pk, .int .i64 pm, .int .i64 pg, .int .i64 pd, .slice (some ⟨b, ob, none⟩) n c] 49) (.cells #[.int .i64 i0, .bool i1, .bool i2, .int .i64 c3, .int .i64 i4, .int .i64 i5, .int .i64 i6, .int .i64 i7] 53)
    have en : wQ.heap[w3.heap.size]? = some (.cells #[.int .i64 (ep + 1), .int .i64 pk, .int .i64 pm, .int .i64 pg, .int .i64 pd, .slice (some ⟨b, ob, none⟩) n c] 49 (0, 0)) := by rw [hwQ]; exact bx2.1
    have eo : wQ.heap[w3.heap.size + 1]? = some (.cells #[.int .i64 i0, .bool i1, .bool i2, .int .i64 c3, .int .i64 i4, .int .i64 i5, .int .i64 i6, .int .i64 i7] 53 (0, 0)) := by rw [hwQ]; exact bx2.2
    have bQ : Below w3.heap.size w3 wQ := by rw [hwQ]; exact below_drewN' (on (al _ _) (al _ _)) _
    rw [← hwQ]
    clear hwQ bx2
    have BQ := hid (on B3.out bQ)
    replace d0 := keep bQ d0
    replace d1 := keep bQ d1
    replace d2 := keep bQ d2
    replace d3 := keep bQ d3
    replace d4 := keep bQ d4
    replace d5 := keep bQ d5
    replace g0 := keepf bQ l3 g0
    replace g1 := keepf bQ l3 g1
    replace g2 := keepf bQ l3 g2
    replace g3 := keepf bQ l3 g3
    replace g4 := keepf bQ l3 g4
    replace g5 := keepf bQ l3 g5
    go_wp2_with fail
    refine bodyPost_ret (v := .tuple #[.agg #[.int .i64 0, .int .i64 0, .int .i64 0, .int .i64 0, .int .i64 0, .slice none 0 0], .int .i64 6]) ?_ rfl ?_
    · rw [results_cell2 rfl]
      go_simp
    · rw [HA1.out trivial]
      refine ⟨none, 0, 0, rfl, ?_, os_none _, fun a e => by cases e⟩
      repeat (first | with_reducible exact BQ.out | (with_reducible refine Below.setCell ?_ (by first | (simp; done) | (simp; omega) | omega) _) | (with_reducible refine Below.alloc ?_ (by first | (simp; done) | (simp; omega) | omega) _))
  | false =>
    go_quiet (fail)
    obtain ⟨wQ, hwQ⟩ : ∃ wQ, wQ = ((w3.alloc (.cells #[.int .i64 (ep + 1), .int .i64 pk, .int .i64 pm, .int .i64 pg, .int .i64 pd, .slice (some ⟨b, ob, none⟩) n c] 49)).alloc (.cells #[.int .i64 i0, .bool i1, .bool i2, .int .i64 c3, .int .i64 i4, .int .i64 i5, .int .i64 i6, .int .i64 i7] 53)).drewN nq := ⟨_, rfl⟩
    have bx2 := box2 w3 (.cells #[.int .i64 (ep + 1), .int .i64 pk, .int .i64 pm, .int .i64 pg, .int .i64 pd, .slice (some ⟨b, ob, none⟩) n c] 49) (.cells #[.int .i64 i0, .bool i1, .bool i2, .int .i64 c3, .int .i64 i4, .int .i64 i5, .int .i64 i6, .int .i64 i7] 53)
    have en : wQ.heap[w3.heap.size]? = some (.cells #[.int .i64 (ep + 1), .int .i64 pk, .int .i64 pm, .int .i64 pg, .int .i64 pd, .slice (some ⟨b, ob, none⟩) n c] 49 (0, 0)) := by rw [hwQ]; exact bx2.1
    have eo : wQ.heap[w3.heap.size + 1]? = some (.cells #[.int .i64 i0, .bool i1, .bool i2, .int .i64 c3, .int .i64 i4, .int .i64 i5, .int .i64 i6, .int .i64 i7] 53 (0, 0)) := by rw [hwQ]; exact bx2.2
    have bQ : Below w3.heap.size w3 wQ := by rw [hwQ]; exact below_drewN' (on (al _ _) (al _ _)) _
    rw [← hwQ]
    clear hwQ bx2
    have BQ := hid (on B3.out bQ)
    replace d0 := keep bQ d0
    replace d1 := keep bQ d1
    replace d2 := keep bQ d2
    replace d3 := keep bQ d3
    replace d4 := keep bQ d4
    replace d5 := keep bQ d5
    replace g0 := keepf bQ l3 g0
    replace g1 := keepf bQ l3 g1
    replace g2 := keepf bQ l3 g2
    replace g3 := keepf bQ l3 g3
    replace g4 := keepf bQ l3 g4
    replace g5 := keepf bQ l3 g5
    replace m5 := keep bQ m5
    have lq1 : w.heap.size < wQ.heap.size := cell_lt' m5
    have lq2 : w.heap.size + 1 + 1 < wQ.heap.size := cell_lt' d0
    have lq3 : w3.heap.size + 1 < wQ.heap.size := (Array.getElem?_eq_some_iff.1 eo).1
    obtain ⟨x', c', wA, hr, H⟩ := copy_own (B := w.heap.size) (HS.out wQ BQ.out) (by omega) (by omega) (fun e => by cases e)
    obtain ⟨g', c'', hRe, hle, hcm, hgB, hgl⟩ := H.out.1.there (fun e => by have := HL.out; rw [e] at this; simp at this; omega)
    rw [HL.out] at hRe
    injection hRe with hR1 hR2 hR3
    subst hR1 hR3
    have hbA := H.out.2.1
    have hgn : wQ.heap.size ≤ g' := H.out.2.2 g' rfl
    have enA : wA.heap[w3.heap.size]? = some (.cells #[.int .i64 (ep + 1), .int .i64 pk, .int .i64 pm, .int .i64 pg, .int .i64 pd, .slice (some ⟨b, ob, none⟩) n c] 49 (0, 0)) := (hbA.block _ (by omega)).trans en
    have eoA : wA.heap[w3.heap.size + 1]? = some (.cells #[.int .i64 i0, .bool i1, .bool i2, .int .i64 c3, .int .i64 i4, .int .i64 i5, .int .i64 i6, .int .i64 i7] 53 (0, 0)) := (hbA.block _ (by omega)).trans eo
    have HAe := hid (And.intro enA eoA)
    have n0 : wA.cell? ⟨w3.heap.size, 0, none⟩ = some (.int .i64 (ep + 1)) := cell_heap enA rfl
    have n1 : wA.cell? ⟨w3.heap.size, 1, none⟩ = some (.int .i64 pk) := cell_heap enA rfl
    have n2 : wA.cell? ⟨w3.heap.size, 2, none⟩ = some (.int .i64 pm) := cell_heap enA rfl
    have n3 : wA.cell? ⟨w3.heap.size, 3, none⟩ = some (.int .i64 pg) := cell_heap enA rfl
    have n4 : wA.cell? ⟨w3.heap.size, 4, none⟩ = some (.int .i64 pd) := cell_heap enA rfl
    have n5 : wA.cell? ⟨w3.heap.size, 5, none⟩ = some (.slice (some ⟨b, ob, none⟩) n c) := cell_heap enA rfl
    have nf5 := fr_heap enA 5
    have v0 : wA.cell? ⟨w3.heap.size + 1, 0, none⟩ = some (.int .i64 i0) := cell_heap eoA rfl
    have v1 : wA.cell? ⟨w3.heap.size + 1, 1, none⟩ = some (.bool i1) := cell_heap eoA rfl
    have v2 : wA.cell? ⟨w3.heap.size + 1, 2, none⟩ = some (.bool i2) := cell_heap eoA rfl
    have v3 : wA.cell? ⟨w3.heap.size + 1, 3, none⟩ = some (.int .i64 c3) := cell_heap eoA rfl
    have v4 : wA.cell? ⟨w3.heap.size + 1, 4, none⟩ = some (.int .i64 i4) := cell_heap eoA rfl
    have v5 : wA.cell? ⟨w3.heap.size + 1, 5, none⟩ = some (.int .i64 i5) := cell_heap eoA rfl
    have v6 : wA.cell? ⟨w3.heap.size + 1, 6, none⟩ = some (.int .i64 i6) := cell_heap eoA rfl
    have v7 : wA.cell? ⟨w3.heap.size + 1, 7, none⟩ = some (.int .i64 i7) := cell_heap eoA rfl
    replace d0 := keep hbA d0
    replace d1 := keep hbA d1
    replace d2 := keep hbA d2
    replace d3 := keep hbA d3
    replace d4 := keep hbA d4
    replace d5 := keep hbA d5
    replace g0 := keepf hbA lq2 g0
    replace g1 := keepf hbA lq2 g1
    replace g2 := keepf hbA lq2 g2
    replace g3 := keepf hbA lq2 g3
    replace g4 := keepf hbA lq2 g4
    replace g5 := keepf hbA lq2 g5
    obtain ⟨r0, r1, r2, r3, r4, r5, r6, r7⟩ := Os.at (n := n) (c := c) (b := g') (o := 0) (fun k a hk j v hv => by rw [Nat.zero_add]; exact H.out.1.cell orow.len hk hv) HO.out
    rw [Nat.zero_add] at r0 r1 r2 r3 r4 r5 r6 r7
    have rf : ∀ j, wA.frozen? ⟨g', j, none⟩ = false := fun j => H.out.1.frozen
    have s1 : g' ≠ w3.heap.size := by omega
    have s2 : g' ≠ w3.heap.size + 1 := by omega
    have s3 : g' ≠ w.heap.size + 1 + 1 := by omega
    have s4 : w3.heap.size ≠ w.heap.size + 1 + 1 := by omega
    have s5 : w3.heap.size + 1 ≠ w.heap.size + 1 + 1 := by omega
    have BA := hid (on BQ.out hbA)
    have la1 : w3.heap.size < wA.heap.size := cell_lt' n0
    clear en eo bQ hbA enA eoA
    go_wp2_with (at_builtin; refine Lib.wpList_append_run _ rfl _ _ _ _ rfl _ _ rfl rfl _ _ hr ?_)
    refine bodyPost_ret (v := .tuple #[.agg #[.int .i64 (ep + 1), .int .i64 pk, .int .i64 pm, .int .i64 pg, .int .i64 pd, .slice (some ⟨g', 0, none⟩) n c'], .int .i64 0]) ?_ rfl ?_
    · rw [results_cell2 rfl]
      go_simp
    · rw [HA2.out trivial]
      have o1 := H.out.1.turns (turns_put (Turns.refl (fun k => k = w3.heap.size) wA) 5 (.slice (some ⟨g', 0, none⟩) n c')) (fun g hg e => by simp [Value.ownBlock] at hg; omega)
      have o2 := Own.set8 o1 q ⟨i0, i1, i2, c3, i4, i5, i6, i7⟩
      have Tz := turns_put (turns_put (turns_put (turns_put (turns_put (turns_put (Turns.refl (fun k => k = w.heap.size + 1 + 1) (put8 (wA.setCell ⟨w3.heap.size, 5, none⟩ (.slice (some ⟨g', 0, none⟩) n c')) g' (q * 8) ⟨i0, i1, i2, c3, i4, i5, i6, i7⟩)) 0 (.int .i64 (ep + 1))) 1 (.int .i64 pk)) 2 (.int .i64 pm)) 3 (.int .i64 pg)) 4 (.int .i64 pd)) 5 (.slice (some ⟨g', 0, none⟩) n c')
      refine ⟨some ⟨g', 0, none⟩, n, c', rfl, ?_, ?_, ?_⟩
      · repeat (first | with_reducible exact BA.out | (with_reducible refine Below.setCell ?_ (by first | (simp; done) | (simp; omega) | omega) _) | (with_reducible refine Below.alloc ?_ (by first | (simp; done) | (simp; omega) | omega) _))
      · exact own_os (o2.turns Tz (fun g hg e => by simp [Value.ownBlock] at hg; omega)) (by rw [List.length_set, HL.out]; omega)
      · intro a e
        injection e with e
        subst e
        have := (o2.tb (g := g') rfl).1
        show w.heap.size ≤ g'
        omega

end Go.Proofs.YthlfmbijagpggaaGreat.At
