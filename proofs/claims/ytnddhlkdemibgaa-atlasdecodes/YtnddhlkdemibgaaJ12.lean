/-
  3 texts of this proof, one behind the other: AtApply, AtRef1, AtRefMay.
-/
import Derived.Test.YtnddhlkdemibgaaJ09
import Derived.Test.YtnddhlkdemibgaaJ08
/-
  slices.Clone at OSDs; atlas.Apply.
  Conditions: lists lie in memory.
-/
namespace Go.Proofs.Ytnddhlkdemibgaa.At
open Go.RowKit By Fl
set_option linter.unusedVariables false
set_option linter.unusedSimpArgs false
set_option maxRecDepth 100000

/- append([]Osd{}, l...) -/
theorem copy_own {w : World} {B : Nat} {x : Option Addr} {n c : Nat} {L : List Osd} (h : Os w x n c L) (hn : n ≤ 1000) (hB : B ≤ w.heap.size) (hx : x ≠ none) : ∃ x' c' w', (Builtin.append_ #[24, 24] 24 #[.slice (some ⟨w.heap.size, 0, none⟩) 0 0, .slice x n c]).run Try.prog (w.alloc (.cells #[] 28)) = .ok (.slice x' n c') w' ∧
    Hid (Own w' B 28 8 enO (.slice x' n c') L ∧ Below w.heap.size w w' ∧ ∀ g, (Value.slice x' n c').ownBlock = some g → w.heap.size ≤ g) := by
  cases x with
  | none => exact absurd rfl hx
  | some ad =>
    have h0 := h.below (al w (.cells #[] 28))
    have hl := h.len
    obtain ⟨x', c', w', hr, H⟩ := (Own.empty w (B := B) hB 28 8 enO).push orow (by simp; omega) ad n c L hl (fun j u hj => by
      have hjl := (List.getElem?_eq_some_iff.1 hj).1
      rw [flat_len orow.len, hl] at hjl
      rcases h0.row with q | ⟨b, o, e, hb, hc⟩
      · omega
      · injection e with e
        subst e
        rw [add_at]
        obtain ⟨a, ha⟩ : ∃ a, L[j / 8]? = some a := ⟨L[j / 8]'(by omega), List.getElem?_eq_getElem (by omega)⟩
        have hjj : j / 8 * 8 + j % 8 = j := by omega
        have := flat_get (enc := enO) (sz := 8) orow.len L (j / 8) a ha (j % 8) (by omega)
        rw [hjj] at this
        have := hc (j / 8) a ha (j % 8) u (this.symm.trans hj)
        rw [Nat.add_assoc, hjj] at this
        exact this) (by simp; omega)
    simp only [List.length_nil, Nat.zero_add, List.nil_append] at hr H
    refine ⟨x', c', w', hr, H.out.1, ?_, fun g hg => ?_⟩
    · exact (al w _).trans (H.out.2.1.below (B := w.heap.size) (fun k hk => by simp [Value.ownBlock] at hk; omega) (by simp))
    · rcases H.out.2.2 g hg with q | q
      · simp [Value.ownBlock] at q; omega
      · rw [q]; simp

theorem clone_any {w : World} {B : Nat} {x : Option Addr} {n c : Nat} {L : List Osd} (h : Os w x n c L) (hn : n ≤ 1000) (hB : B ≤ w.heap.size) :
    Calls Try.prog 40 #[.slice x n c] w fun e w' => ∃ x' c', e = .returned (.slice x' n c') ∧ Hid (Own w' B 28 8 enO (.slice x' n c') L ∧ Below w.heap.size w w' ∧ ∀ g, (Value.slice x' n c').ownBlock = some g → w.heap.size ≤ g) := by
  cases x with
  | none =>
    obtain ⟨h1, h2⟩ := h.nil rfl
    subst h1 h2
    have HF : Hid (Own w B 28 8 enO (.slice none 0 0) L) := by
      have : L = [] := List.eq_nil_of_length_eq_zero h.len
      subst this
      exact Own.nil _ _ _ _ _
    have he : ∀ w : World, (binOp .eql 24 (.slice none 0 0) (.slice none 0 0)).run Try.prog w = .ok (.bool true) w := fun _ => by kernel_rfl
    clear h
    go_enter Try.func40, Try.ntmps40
    go_wp2_with fail
    go_ret
    exact ⟨none, 0, rfl, HF.out, Below.refl _ _, fun g hg => by cases hg⟩
  | some ad =>
    obtain ⟨x', c', w', hr, H⟩ := copy_own h hn hB (fun e => by cases e)
    have he : ∀ w : World, (binOp .eql 24 (.slice (some ad) n c) (.slice none 0 0)).run Try.prog w = .ok (.bool false) w := fun _ => by kernel_rfl
    clear h
    go_enter Try.func40, Try.ntmps40
    go_wp2_with (at_builtin; refine Lib.wpList_append_run _ rfl _ _ _ _ rfl _ _ rfl rfl _ _ hr ?_)
    go_ret
    exact ⟨_, _, rfl, H.out⟩

theorem box3 (w : World) (A B C : Obj) : (((w.alloc A).alloc B).alloc C).heap[w.heap.size]? = some A ∧ (((w.alloc A).alloc B).alloc C).heap[w.heap.size + 1]? = some B ∧ (((w.alloc A).alloc B).alloc C).heap[w.heap.size + 1 + 1]? = some C := by
  have s1 : (w.alloc A).heap.size = w.heap.size + 1 := by simp
  have s2 : ((w.alloc A).alloc B).heap.size = w.heap.size + 1 + 1 := by simp
  refine ⟨?_, ?_, ?_⟩
  · exact ((al ((w.alloc A).alloc B) C).block _ (by omega)).trans (((al (w.alloc A) B).block _ (by omega)).trans (heap_alloc_new w A))
  · have := heap_alloc_new (w.alloc A) B
    rw [s1] at this
    exact ((al ((w.alloc A).alloc B) C).block _ (by omega)).trans this
  · have := heap_alloc_new ((w.alloc A).alloc B) C
    rw [s2] at this
    exact this

theorem apply_no {m : Mp} {c : Ch} (h : mayM m = false) : applyP m c = (1, noM) := by unfold applyP; rw [if_neg (by rw [h]; simp)]
theorem apply_err {m : Mp} {c : Ch} (h : mayM m = true) (h2 : (advP m c).1 ≠ 0) : applyP m c = ((advP m c).1, noM) := by unfold applyP; rw [if_pos h, if_neg h2]
theorem apply_ok {m : Mp} {c : Ch} (h : mayM m = true) (h2 : (advP m c).1 = 0) : applyP m c = advP m c := by unfold applyP; rw [if_pos h, if_pos h2]

theorem os_none (w : World) : Os w none 0 0 [] := ⟨rfl, Nat.le_refl _, by omega, fun _ => ⟨rfl, rfl⟩, .inl rfl⟩

def Told (w w' : World) (y : Option Addr) (yn yc : Nat) (L : List Osd) : Prop := Below w.heap.size w w' ∧ Os w' y yn yc L

set_option maxHeartbeats 3200000 in
theorem apply_any {w : World} {x : Option Addr} {n c : Nat} (m : Mp) (ch : Ch) (h : Os w x n c m.osds) (hk : m.pool.k ≤ 9223372036854775807) :
    Calls Try.prog 20 #[vM m.ep m.pool x n c, vC ch] w fun e w' => ∃ y yn yc, e = .returned (.tuple #[vM (applyP m ch).2.ep (applyP m ch).2.pool y yn yc, .int .i64 (applyP m ch).1]) ∧ Hid (Told w w' y yn yc (applyP m ch).2.osds) := by
  have hC := fun W (hW : Os W x n c m.osds) => check_any m hW hk
  have HO := hid h
  have HL := hid h.len
  have b0 := on (on (al w (.cells #[.int .i64 m.ep, .int .i64 m.pool.k, .int .i64 m.pool.m, .int .i64 m.pool.pgs, .int .i64 m.pool.dom, .slice x n c] 26)) (al _ (.cells #[.int .i64 ch.kind, .int .i64 ch.osd.id, .bool ch.osd.up, .bool ch.osd.inn, .int .i64 ch.osd.wt, .int .i64 ch.osd.life, .int .i64 ch.osd.boot, .int .i64 ch.osd.host, .int .i64 ch.osd.rack] 30))) (al _ (.cells #[.int .i64 0, .int .i64 0, .int .i64 0, .int .i64 0, .int .i64 0, .slice none 0 0] 26))
  have hC0 := hC _ (HO.out.below b0)
  have HB := hid b0
  clear hC h hk b0
  cases hm : mayM m with
  | false =>
    rw [hm] at hC0
    have HA := hid (apply_no (c := ch) hm)
    clear hm
    obtain ⟨ep, ⟨pk, pm, pg, pd⟩, L⟩ := m
    obtain ⟨ck, c0, c1, c2, c3, c4, c5, c6, c7⟩ := ch
    unfold vM vC at *
    unfold errB at hC0
    dsimp only at hC0 HB ⊢
    go_enter Try.func20, Try.ntmps20
    go_wp2_with (first
      | (
         go_at_call 15; refine hC0.mono ?_; rintro e w1 ⟨rfl, hb1⟩; clear hC0
         have k0 := keep hb1 (b := w.heap.size + 1 + 1) (o := 0) (x := .int .i64 0) (by first | assumption | go_simp)
         have k1 := keep hb1 (b := w.heap.size + 1 + 1) (o := 1) (x := .int .i64 0) (by first | assumption | go_simp)
         have k2 := keep hb1 (b := w.heap.size + 1 + 1) (o := 2) (x := .int .i64 0) (by first | assumption | go_simp)
         have k3 := keep hb1 (b := w.heap.size + 1 + 1) (o := 3) (x := .int .i64 0) (by first | assumption | go_simp)
         have k4 := keep hb1 (b := w.heap.size + 1 + 1) (o := 4) (x := .int .i64 0) (by first | assumption | go_simp)
         have k5 := keep hb1 (b := w.heap.size + 1 + 1) (o := 5) (x := .slice none 0 0) (by first | assumption | go_simp)
         have f0 := keepf hb1 (b := w.heap.size + 1 + 1) (o := 0) (by first | (simp <;> omega) | exact cell_lt' (a := ⟨w.heap.size + 1 + 1, 0, none⟩) (by assumption) | (simp; exact cell_lt' (a := ⟨w.heap.size + 1 + 1, 0, none⟩) (by assumption))) (by first | assumption | go_simp)
         have f1 := keepf hb1 (b := w.heap.size + 1 + 1) (o := 1) (by first | (simp <;> omega) | exact cell_lt' (a := ⟨w.heap.size + 1 + 1, 1, none⟩) (by assumption) | (simp; exact cell_lt' (a := ⟨w.heap.size + 1 + 1, 1, none⟩) (by assumption))) (by first | assumption | go_simp)
         have f2 := keepf hb1 (b := w.heap.size + 1 + 1) (o := 2) (by first | (simp <;> omega) | exact cell_lt' (a := ⟨w.heap.size + 1 + 1, 2, none⟩) (by assumption) | (simp; exact cell_lt' (a := ⟨w.heap.size + 1 + 1, 2, none⟩) (by assumption))) (by first | assumption | go_simp)
         have f3 := keepf hb1 (b := w.heap.size + 1 + 1) (o := 3) (by first | (simp <;> omega) | exact cell_lt' (a := ⟨w.heap.size + 1 + 1, 3, none⟩) (by assumption) | (simp; exact cell_lt' (a := ⟨w.heap.size + 1 + 1, 3, none⟩) (by assumption))) (by first | assumption | go_simp)
         have f4 := keepf hb1 (b := w.heap.size + 1 + 1) (o := 4) (by first | (simp <;> omega) | exact cell_lt' (a := ⟨w.heap.size + 1 + 1, 4, none⟩) (by assumption) | (simp; exact cell_lt' (a := ⟨w.heap.size + 1 + 1, 4, none⟩) (by assumption))) (by first | assumption | go_simp)
         have f5 := keepf hb1 (b := w.heap.size + 1 + 1) (o := 5) (by first | (simp <;> omega) | exact cell_lt' (a := ⟨w.heap.size + 1 + 1, 5, none⟩) (by assumption) | (simp; exact cell_lt' (a := ⟨w.heap.size + 1 + 1, 5, none⟩) (by assumption))) (by first | assumption | go_simp)
         have B1 := on HB.out hb1; clear hb1))
    refine bodyPost_ret (v := .tuple #[.agg #[.int .i64 0, .int .i64 0, .int .i64 0, .int .i64 0, .int .i64 0, .slice none 0 0], .int .i64 1]) ?_ rfl ?_
    · rw [results_cell2 rfl]
      go_simp
    · rw [HA.out]
      refine ⟨none, 0, 0, rfl, ?_, os_none _⟩
      repeat (first | with_reducible exact B1 | (with_reducible refine Below.setCell ?_ (by first | (simp; done) | (simp; omega) | omega) _) | (with_reducible refine Below.alloc ?_ (by first | (simp; done) | (simp; omega) | omega) _))
  | true =>
    rw [hm] at hC0
    have HMy := hid hm
    obtain ⟨p1, p2, p3, p4⟩ := may_parts hm
    have hn64 : n ≤ 64 := by rw [← HL.out]; exact p3
    have HEp := hid p1
    clear hm p1 p2 p3 p4
    have hA := fun (W : World) (R : Value) (hW : MapAt W w.heap.size w.heap.size m R) (hB : w.heap.size ≤ W.heap.size) => advance_any ch hW hB HEp.out.1 HEp.out.2
    have HA1 := hid (fun (h2 : (advP m ch).1 ≠ 0) => apply_err HMy.out h2)
    have HA2 := hid (fun (h2 : (advP m ch).1 = 0) => apply_ok HMy.out h2)
    obtain ⟨r, hr⟩ : ∃ r, r = advP m ch := ⟨_, rfl⟩
    rw [← hr] at hA HA1 HA2
    have HS : Hid (∀ W, Below w.heap.size w W → Os W x n c m.osds) := fun W hW => HO.out.below hW
    have HX := hid (box3 w (.cells #[.int .i64 m.ep, .int .i64 m.pool.k, .int .i64 m.pool.m, .int .i64 m.pool.pgs, .int .i64 m.pool.dom, .slice x n c] 26) (.cells #[.int .i64 ch.kind, .int .i64 ch.osd.id, .bool ch.osd.up, .bool ch.osd.inn, .int .i64 ch.osd.wt, .int .i64 ch.osd.life, .int .i64 ch.osd.boot, .int .i64 ch.osd.host, .int .i64 ch.osd.rack] 30) (.cells #[.int .i64 0, .int .i64 0, .int .i64 0, .int .i64 0, .int .i64 0, .slice none 0 0] 26))
    have hst : ∀ (W : World) (R : Value) (hW : W.heap[w.heap.size]? = some (.cells #[.int .i64 m.ep, .int .i64 m.pool.k, .int .i64 m.pool.m, .int .i64 m.pool.pgs, .int .i64 m.pool.dom, .slice x n c] 26 (0, 0))) (hO : Own W w.heap.size 28 8 enO R m.osds) (hg : ∀ g, R.ownBlock = some g → g ≠ w.heap.size), MapAt (W.setCell ⟨w.heap.size, 5, none⟩ R) w.heap.size w.heap.size m R := fun W R hW hO hg =>
      ⟨heap_set hW _, hO.turns (turns_put (Turns.refl _ _) _ _) hg, by rw [HL.out]; exact hn64⟩
    have HST := hid hst
    clear hr hst HO
    obtain ⟨ep, ⟨pk, pm, pg, pd⟩, L⟩ := m
    obtain ⟨ck, c0, c1, c2, c3, c4, c5, c6, c7⟩ := ch
    obtain ⟨r1, r2⟩ := r
    unfold vM vC at *
    unfold errB at hC0
    dsimp only at hC0 HB HX HST hA HA1 HA2 HS ⊢
    by_cases hz : r1 = 0
    · subst hz
      go_enter Try.func20, Try.ntmps20
      go_wp2_with (first
        | (
           go_at_call 15; refine hC0.mono ?_; rintro e w1 ⟨rfl, hb1⟩; clear hC0
           have em := (hb1.block _ (Array.getElem?_eq_some_iff.1 HX.out.1).1).trans HX.out.1
           have ec := (hb1.block _ (Array.getElem?_eq_some_iff.1 HX.out.2.1).1).trans HX.out.2.1
           have er := (hb1.block _ (Array.getElem?_eq_some_iff.1 HX.out.2.2).1).trans HX.out.2.2
           have HE1 := hid (And.intro em (And.intro ec er))
           have k5 : w1.cell? ⟨w.heap.size, 5, none⟩ = some (.slice x n c) := cell_heap em rfl
           have B1 := hid (on HB.out hb1)
           have hCl := clone_any (B := w.heap.size) (HS.out w1 B1.out) (by omega) B1.out.size
           clear hb1 em ec er)
        | (
           go_at_call 40; refine hCl.mono ?_; rintro e w2 ⟨x', c', rfl, H2⟩; clear hCl
           have hb2 := H2.out.2.1
           have em := (hb2.block _ (Array.getElem?_eq_some_iff.1 HE1.out.1).1).trans HE1.out.1
           have ec := (hb2.block _ (Array.getElem?_eq_some_iff.1 HE1.out.2.1).1).trans HE1.out.2.1
           have er := (hb2.block _ (Array.getElem?_eq_some_iff.1 HE1.out.2.2).1).trans HE1.out.2.2
           have HE2 := hid (And.intro em (And.intro ec er))
           have l5 : w2.cell? ⟨w.heap.size, 5, none⟩ = some (.slice x n c) := cell_heap em rfl
           have f5 := fr_heap em 5
           have j0 : w2.cell? ⟨w.heap.size + 1, 0, none⟩ = some (.int .i64 ck) := cell_heap ec rfl
           have j1 : w2.cell? ⟨w.heap.size + 1, 1, none⟩ = some (.int .i64 c0) := cell_heap ec rfl
           have j2 : w2.cell? ⟨w.heap.size + 1, 2, none⟩ = some (.bool c1) := cell_heap ec rfl
           have j3 : w2.cell? ⟨w.heap.size + 1, 3, none⟩ = some (.bool c2) := cell_heap ec rfl
           have j4 : w2.cell? ⟨w.heap.size + 1, 4, none⟩ = some (.int .i64 c3) := cell_heap ec rfl
           have j5 : w2.cell? ⟨w.heap.size + 1, 5, none⟩ = some (.int .i64 c4) := cell_heap ec rfl
           have j6 : w2.cell? ⟨w.heap.size + 1, 6, none⟩ = some (.int .i64 c5) := cell_heap ec rfl
           have j7 : w2.cell? ⟨w.heap.size + 1, 7, none⟩ = some (.int .i64 c6) := cell_heap ec rfl
           have j8 : w2.cell? ⟨w.heap.size + 1, 8, none⟩ = some (.int .i64 c7) := cell_heap ec rfl
           have lw1 := B1.out.size
           have lx1 : w.heap.size + 1 + 1 < w1.heap.size := (Array.getElem?_eq_some_iff.1 HE1.out.2.2).1
           have hg2 : ∀ g, (Value.slice x' n c').ownBlock = some g → w1.heap.size ≤ g := H2.out.2.2
           have hMA := HST.out w2 (.slice x' n c') em H2.out.1 (fun g hg => by have := hg2 g hg; omega)
           have hA3 := hA _ _ hMA (by simp; exact Nat.le_trans lw1 hb2.size)
           have HG2 := hid hg2
           clear em ec er hb2 hMA hA hg2 k5)
        | (
           go_at_call 41; refine hA3.mono ?_; rintro e w4 ⟨rfl, H4⟩; clear hA3
           obtain ⟨R4, M4, T4, N4⟩ := H4.out
           have er4 : w4.heap[w.heap.size + 1 + 1]? = some (.cells #[.int .i64 0, .int .i64 0, .int .i64 0, .int .i64 0, .int .i64 0, .slice none 0 0] 26 (0, 0)) := by
             have e1 : (w2.setCell ⟨w.heap.size, 5, none⟩ (.slice x' n c')).heap[w.heap.size + 1 + 1]? = w2.heap[w.heap.size + 1 + 1]? := Below.heap_setCell _ _ _ _ (by show w.heap.size + 1 + 1 ≠ w.heap.size; omega)
             refine (T4.block _ ?_ ?_).trans (e1.trans HE2.out.2.2)
             · have := (Array.getElem?_eq_some_iff.1 HE2.out.2.2).1
               simpa using this
             · rintro (q | q)
               · omega
               · have := HG2.out _ q
                 omega
           have d0 : w4.cell? ⟨w.heap.size + 1 + 1, 0, none⟩ = some (.int .i64 0) := cell_heap er4 rfl
           have d1 : w4.cell? ⟨w.heap.size + 1 + 1, 1, none⟩ = some (.int .i64 0) := cell_heap er4 rfl
           have d2 : w4.cell? ⟨w.heap.size + 1 + 1, 2, none⟩ = some (.int .i64 0) := cell_heap er4 rfl
           have d3 : w4.cell? ⟨w.heap.size + 1 + 1, 3, none⟩ = some (.int .i64 0) := cell_heap er4 rfl
           have d4 : w4.cell? ⟨w.heap.size + 1 + 1, 4, none⟩ = some (.int .i64 0) := cell_heap er4 rfl
           have d5 : w4.cell? ⟨w.heap.size + 1 + 1, 5, none⟩ = some (.slice none 0 0) := cell_heap er4 rfl
           have g0 := fr_heap er4 0
           have g1 := fr_heap er4 1
           have g2 := fr_heap er4 2
           have g3 := fr_heap er4 3
           have g4 := fr_heap er4 4
           have g5 := fr_heap er4 5
           obtain ⟨y, yc, hRe, _⟩ := M4.own.form
           obtain ⟨yn, hyn⟩ : ∃ yn, yn = r2.osds.length := ⟨_, rfl⟩
           rw [← hyn] at hRe
           subst hRe
           have e0 : w4.cell? ⟨w.heap.size, 0, none⟩ = some (.int .i64 r2.ep) := cell_heap M4.blk rfl
           have e1 : w4.cell? ⟨w.heap.size, 1, none⟩ = some (.int .i64 r2.pool.k) := cell_heap M4.blk rfl
           have e2 : w4.cell? ⟨w.heap.size, 2, none⟩ = some (.int .i64 r2.pool.m) := cell_heap M4.blk rfl
           have e3 : w4.cell? ⟨w.heap.size, 3, none⟩ = some (.int .i64 r2.pool.pgs) := cell_heap M4.blk rfl
           have e4 : w4.cell? ⟨w.heap.size, 4, none⟩ = some (.int .i64 r2.pool.dom) := cell_heap M4.blk rfl
           have e5 : w4.cell? ⟨w.heap.size, 5, none⟩ = some (.slice y yn yc) := cell_heap M4.blk rfl
           have lt4 : w.heap.size + 1 + 1 < w4.heap.size := cell_lt' d0
           have B4 : Hid (Below w.heap.size w w4) := B1.out.trans ((H2.out.2.1.mono lw1).trans (((Below.refl _ w2).setCell (p := ⟨w.heap.size, 5, none⟩) (Nat.le_refl _) _).trans (T4.below (B := w.heap.size) (fun k hk => by rcases hk with q | q; omega; have := HG2.out _ q; omega) (by have := H2.out.2.1.size; simp; omega))))
           have HM4 := hid M4
           have HN4 : Hid (∀ g, (Value.slice y yn yc).ownBlock = some g → w1.heap.size ≤ g) := fun g hg => by
             rcases N4 g hg with q | q
             · exact HG2.out g q
             · have := H2.out.2.1.size
               simp at q
               omega
           clear er4 M4 T4 N4 H4 hyn))
      refine bodyPost_ret (v := .tuple #[.agg #[.int .i64 r2.ep, .int .i64 r2.pool.k, .int .i64 r2.pool.m, .int .i64 r2.pool.pgs, .int .i64 r2.pool.dom, .slice y yn yc], .int .i64 0]) ?_ rfl ?_
      · rw [results_cell2 rfl]
        go_simp
      · rw [HA2.out trivial]
        have Tz : Turns (fun k => k = w.heap.size + 1 + 1) w4 _ := turns_put (turns_put (turns_put (turns_put (turns_put (turns_put (Turns.refl _ w4) 0 (.int .i64 r2.ep)) 1 (.int .i64 r2.pool.k)) 2 (.int .i64 r2.pool.m)) 3 (.int .i64 r2.pool.pgs)) 4 (.int .i64 r2.pool.dom)) 5 (.slice y yn yc)
        refine ⟨y, yn, yc, rfl, ?_, ?_⟩
        · repeat (first | with_reducible exact B4.out | (with_reducible refine Below.setCell ?_ (by first | (simp; done) | (simp; omega) | omega) _) | (with_reducible refine Below.alloc ?_ (by first | (simp; done) | (simp; omega) | omega) _))
        · exact (own_os HM4.out.own (by have := HM4.out.small; omega)).turns Tz (fun h0 a ha => by
            obtain ⟨x0, c9, ee, _, _, h3⟩ := HM4.out.own.form
            injection ee with ee _ _
            subst ee
            obtain ⟨g, rfl, _⟩ := h3 a ha
            subst ha
            have := HN4.out g rfl
            show ¬ g = _
            omega)
    · have HZ : Hid (r1 ≠ 0) := hz
      go_enter Try.func20, Try.ntmps20
      go_wp2_with (first
        | (
           go_at_call 15; refine hC0.mono ?_; rintro e w1 ⟨rfl, hb1⟩; clear hC0
           have em := (hb1.block _ (Array.getElem?_eq_some_iff.1 HX.out.1).1).trans HX.out.1
           have ec := (hb1.block _ (Array.getElem?_eq_some_iff.1 HX.out.2.1).1).trans HX.out.2.1
           have er := (hb1.block _ (Array.getElem?_eq_some_iff.1 HX.out.2.2).1).trans HX.out.2.2
           have HE1 := hid (And.intro em (And.intro ec er))
           have k5 : w1.cell? ⟨w.heap.size, 5, none⟩ = some (.slice x n c) := cell_heap em rfl
           have B1 := hid (on HB.out hb1)
           have hCl := clone_any (B := w.heap.size) (HS.out w1 B1.out) (by omega) B1.out.size
           clear hb1 em ec er)
        | (
           go_at_call 40; refine hCl.mono ?_; rintro e w2 ⟨x', c', rfl, H2⟩; clear hCl
           have hb2 := H2.out.2.1
           have em := (hb2.block _ (Array.getElem?_eq_some_iff.1 HE1.out.1).1).trans HE1.out.1
           have ec := (hb2.block _ (Array.getElem?_eq_some_iff.1 HE1.out.2.1).1).trans HE1.out.2.1
           have er := (hb2.block _ (Array.getElem?_eq_some_iff.1 HE1.out.2.2).1).trans HE1.out.2.2
           have HE2 := hid (And.intro em (And.intro ec er))
           have l5 : w2.cell? ⟨w.heap.size, 5, none⟩ = some (.slice x n c) := cell_heap em rfl
           have f5 := fr_heap em 5
           have j0 : w2.cell? ⟨w.heap.size + 1, 0, none⟩ = some (.int .i64 ck) := cell_heap ec rfl
           have j1 : w2.cell? ⟨w.heap.size + 1, 1, none⟩ = some (.int .i64 c0) := cell_heap ec rfl
           have j2 : w2.cell? ⟨w.heap.size + 1, 2, none⟩ = some (.bool c1) := cell_heap ec rfl
           have j3 : w2.cell? ⟨w.heap.size + 1, 3, none⟩ = some (.bool c2) := cell_heap ec rfl
           have j4 : w2.cell? ⟨w.heap.size + 1, 4, none⟩ = some (.int .i64 c3) := cell_heap ec rfl
           have j5 : w2.cell? ⟨w.heap.size + 1, 5, none⟩ = some (.int .i64 c4) := cell_heap ec rfl
           have j6 : w2.cell? ⟨w.heap.size + 1, 6, none⟩ = some (.int .i64 c5) := cell_heap ec rfl
           have j7 : w2.cell? ⟨w.heap.size + 1, 7, none⟩ = some (.int .i64 c6) := cell_heap ec rfl
           have j8 : w2.cell? ⟨w.heap.size + 1, 8, none⟩ = some (.int .i64 c7) := cell_heap ec rfl
           have lw1 := B1.out.size
           have lx1 : w.heap.size + 1 + 1 < w1.heap.size := (Array.getElem?_eq_some_iff.1 HE1.out.2.2).1
           have hg2 : ∀ g, (Value.slice x' n c').ownBlock = some g → w1.heap.size ≤ g := H2.out.2.2
           have hMA := HST.out w2 (.slice x' n c') em H2.out.1 (fun g hg => by have := hg2 g hg; omega)
           have hA3 := hA _ _ hMA (by simp; exact Nat.le_trans lw1 hb2.size)
           have HG2 := hid hg2
           clear em ec er hb2 hMA hA hg2 k5)
        | (
           go_at_call 41; refine hA3.mono ?_; rintro e w4 ⟨rfl, H4⟩; clear hA3
           obtain ⟨R4, M4, T4, N4⟩ := H4.out
           have er4 : w4.heap[w.heap.size + 1 + 1]? = some (.cells #[.int .i64 0, .int .i64 0, .int .i64 0, .int .i64 0, .int .i64 0, .slice none 0 0] 26 (0, 0)) := by
             have e1 : (w2.setCell ⟨w.heap.size, 5, none⟩ (.slice x' n c')).heap[w.heap.size + 1 + 1]? = w2.heap[w.heap.size + 1 + 1]? := Below.heap_setCell _ _ _ _ (by show w.heap.size + 1 + 1 ≠ w.heap.size; omega)
             refine (T4.block _ ?_ ?_).trans (e1.trans HE2.out.2.2)
             · have := (Array.getElem?_eq_some_iff.1 HE2.out.2.2).1
               simpa using this
             · rintro (q | q)
               · omega
               · have := HG2.out _ q
                 omega
           have d0 : w4.cell? ⟨w.heap.size + 1 + 1, 0, none⟩ = some (.int .i64 0) := cell_heap er4 rfl
           have d1 : w4.cell? ⟨w.heap.size + 1 + 1, 1, none⟩ = some (.int .i64 0) := cell_heap er4 rfl
           have d2 : w4.cell? ⟨w.heap.size + 1 + 1, 2, none⟩ = some (.int .i64 0) := cell_heap er4 rfl
           have d3 : w4.cell? ⟨w.heap.size + 1 + 1, 3, none⟩ = some (.int .i64 0) := cell_heap er4 rfl
           have d4 : w4.cell? ⟨w.heap.size + 1 + 1, 4, none⟩ = some (.int .i64 0) := cell_heap er4 rfl
           have d5 : w4.cell? ⟨w.heap.size + 1 + 1, 5, none⟩ = some (.slice none 0 0) := cell_heap er4 rfl
           have g0 := fr_heap er4 0
           have g1 := fr_heap er4 1
           have g2 := fr_heap er4 2
           have g3 := fr_heap er4 3
           have g4 := fr_heap er4 4
           have g5 := fr_heap er4 5
           obtain ⟨y, yc, hRe, _⟩ := M4.own.form
           obtain ⟨yn, hyn⟩ : ∃ yn, yn = r2.osds.length := ⟨_, rfl⟩
           rw [← hyn] at hRe
           subst hRe
           have e0 : w4.cell? ⟨w.heap.size, 0, none⟩ = some (.int .i64 r2.ep) := cell_heap M4.blk rfl
           have e1 : w4.cell? ⟨w.heap.size, 1, none⟩ = some (.int .i64 r2.pool.k) := cell_heap M4.blk rfl
           have e2 : w4.cell? ⟨w.heap.size, 2, none⟩ = some (.int .i64 r2.pool.m) := cell_heap M4.blk rfl
           have e3 : w4.cell? ⟨w.heap.size, 3, none⟩ = some (.int .i64 r2.pool.pgs) := cell_heap M4.blk rfl
           have e4 : w4.cell? ⟨w.heap.size, 4, none⟩ = some (.int .i64 r2.pool.dom) := cell_heap M4.blk rfl
           have e5 : w4.cell? ⟨w.heap.size, 5, none⟩ = some (.slice y yn yc) := cell_heap M4.blk rfl
           have lt4 : w.heap.size + 1 + 1 < w4.heap.size := cell_lt' d0
           have B4 : Hid (Below w.heap.size w w4) := B1.out.trans ((H2.out.2.1.mono lw1).trans (((Below.refl _ w2).setCell (p := ⟨w.heap.size, 5, none⟩) (Nat.le_refl _) _).trans (T4.below (B := w.heap.size) (fun k hk => by rcases hk with q | q; omega; have := HG2.out _ q; omega) (by have := H2.out.2.1.size; simp; omega))))
           have HM4 := hid M4
           have HN4 : Hid (∀ g, (Value.slice y yn yc).ownBlock = some g → w1.heap.size ≤ g) := fun g hg => by
             rcases N4 g hg with q | q
             · exact HG2.out g q
             · have := H2.out.2.1.size
               simp at q
               omega
           clear er4 M4 T4 N4 H4 hyn))
      refine bodyPost_ret (v := .tuple #[.agg #[.int .i64 0, .int .i64 0, .int .i64 0, .int .i64 0, .int .i64 0, .slice none 0 0], .int .i64 r1]) ?_ rfl ?_
      · rw [results_cell2 rfl]
        go_simp
      · rw [HA1.out HZ.out]
        refine ⟨none, 0, 0, rfl, ?_, os_none _⟩
        repeat (first | with_reducible exact B4.out | (with_reducible refine Below.setCell ?_ (by first | (simp; done) | (simp; omega) | omega) _) | (with_reducible refine Below.alloc ?_ (by first | (simp; done) | (simp; omega) | omega) _))

end Go.Proofs.Ytnddhlkdemibgaa.At

/-
  The document's place, Find and MayChange.
  Conditions: lists lie in memory.
-/
namespace Go.Proofs.Ytnddhlkdemibgaa.At
open Go.RowKit By Fl
set_option linter.unusedVariables false
set_option linter.unusedSimpArgs false
set_option maxRecDepth 100000

theorem place_any {w : World} {x : Option Addr} {n c : Nat} (m : Mp) (id : Int) (h : Os w x n c m.osds) :
    Calls Try.prog 34 #[vM m.ep m.pool x n c, .int .i64 id] w fun e w' => e = .returned (.int .i64 (idx (isId id) m.osds)) ∧ Below w.heap.size w w' := by
  obtain ⟨ep, ⟨k, mm, g, d⟩, L⟩ := m
  unfold vM
  dsimp only at h ⊢
  have hm := h.small
  have b0 := al w (.cells #[.int .i64 ep, .int .i64 k, .int .i64 mm, .int .i64 g, .int .i64 d, .slice x n c] 26)
  have HO := hid (h.below b0)
  have HL := hid h.len
  have HB := hid b0
  have k5 : (w.alloc (.cells #[.int .i64 ep, .int .i64 k, .int .i64 mm, .int .i64 g, .int .i64 d, .slice x n c] 26)).cell? ⟨w.heap.size, 5, none⟩ = some (.slice x n c) := by go_simp
  clear h b0
  go_enter Try.func34, Try.ntmps34
  go_wp2_with fail
  generalize w.alloc (.cells #[.int .i64 ep, .int .i64 k, .int .i64 mm, .int .i64 g, .int .i64 d, .slice x n c] 26) = w0 at *
  go_loopw [5] (fun i wr => ∃ q : Nat, q ≤ n ∧ i = .int .i64 q ∧ wr = w0 ∧ Hid (∀ (j : Nat) (b : Osd), j < q → L[j]? = some b → isId id b = false)) (fun i _ => n - (intOf i).toNat)
  case atStart => exact ⟨0, by omega, rfl, rfl, fun j b hj => by omega⟩
  case round =>
    obtain ⟨q, hq, rfl, rfl, HR⟩ := hrel
    by_cases hlt : q < n
    · have hqn : (q : Int) < (n : Int) := by omega
      obtain ⟨a, ha⟩ : ∃ a, L[q]? = some a := ⟨L[q]'(by have := HL.out; omega), List.getElem?_eq_getElem (by have := HL.out; omega)⟩
      rcases HO.out.row with h0 | ⟨b, o, rfl, hbl, hcell⟩
      · omega
      have c0 := (Os.at (n := n) (c := c) hcell ha).1
      have HA := hid ha
      clear hcell ha
      obtain ⟨ai, hai⟩ : ∃ i, i = a.id := ⟨_, rfl⟩
      rw [← hai] at c0
      have HI := hid hai
      clear hai
      by_cases he : ai = id
      · subst he
        go_wp2_with fail
        go_ret
        refine ⟨?_, HB.out⟩
        unfold idx
        rw [idx_hit HA.out (by unfold isId; rw [← HI.out]; simp) HR.out]
        rfl
      · have hne : ai ≠ id := he
        go_wp2_with fail
        go_roundw
        case rel =>
          refine ⟨q + 1, by omega, by go_num, trivial, fun j b hj hb => ?_⟩
          by_cases hjq : j = q
          · subst hjq
            have := Option.some.inj (HA.out.symm.trans hb)
            subst this
            unfold isId
            rw [← HI.out]
            simp [he]
          · exact HR.out j b (by omega) hb
        case measure => simp [intOf]; omega
    · have hq2 : q = n := by omega
      subst hq2
      go_wp2_with fail
      go_ret
      refine ⟨?_, HB.out⟩
      unfold idx
      rw [idx_miss fun j b hb => HR.out j b (by
        have := (List.getElem?_eq_some_iff.1 hb).1
        have := HL.out
        omega) hb]
      rfl

theorem rfind_any {w : World} {x : Option Addr} {n c : Nat} (m : Mp) (id : Int) (h : Os w x n c m.osds) :
    Calls Try.prog 11 #[vM m.ep m.pool x n c, .int .i64 id] w fun e w' => e = .returned (.tuple #[vO (findP m.osds id).1, .bool (findP m.osds id).2]) ∧ Below w.heap.size w w' := by
  obtain ⟨ep, ⟨k, mm, g, d⟩, L⟩ := m
  have HO := hid h
  dsimp only at HO ⊢
  unfold vM
  dsimp only
  have b0 : Below w.heap.size w ((w.alloc (.cells #[.int .i64 ep, .int .i64 k, .int .i64 mm, .int .i64 g, .int .i64 d, .slice x n c] 26)).alloc (.cells #[.int .i64 0, .bool false, .bool false, .int .i64 0, .int .i64 0, .int .i64 0, .int .i64 0, .int .i64 0] 28)) := on (al _ _) (al _ _)
  have hS := place_any ⟨ep, ⟨k, mm, g, d⟩, L⟩ id (HO.out.below b0)
  unfold vM at hS
  dsimp only at hS
  have HB := hid b0
  have hsm := h.small
  clear h b0
  cases hi : L.findIdx? (isId id) with
  | none =>
    rw [show idx (isId id) L = -1 by unfold idx; rw [hi]] at hS
    have HF : Hid (findP L id = (noO 0, false)) := hid (by unfold findP; rw [hi])
    clear hi
    go_enter Try.func11, Try.ntmps11
    go_wp2_with (first
      | (
         go_at_call 34; refine hS.mono ?_; rintro e w1 ⟨rfl, hb1⟩; clear hS
         have k0 := keep hb1 (b := w.heap.size + 1) (o := 0) (x := .int .i64 0) (by first | assumption | go_simp)
         have k1 := keep hb1 (b := w.heap.size + 1) (o := 1) (x := .bool false) (by first | assumption | go_simp)
         have k2 := keep hb1 (b := w.heap.size + 1) (o := 2) (x := .bool false) (by first | assumption | go_simp)
         have k3 := keep hb1 (b := w.heap.size + 1) (o := 3) (x := .int .i64 0) (by first | assumption | go_simp)
         have k4 := keep hb1 (b := w.heap.size + 1) (o := 4) (x := .int .i64 0) (by first | assumption | go_simp)
         have k5 := keep hb1 (b := w.heap.size + 1) (o := 5) (x := .int .i64 0) (by first | assumption | go_simp)
         have k6 := keep hb1 (b := w.heap.size + 1) (o := 6) (x := .int .i64 0) (by first | assumption | go_simp)
         have k7 := keep hb1 (b := w.heap.size + 1) (o := 7) (x := .int .i64 0) (by first | assumption | go_simp)
         have f0 := keepf hb1 (b := w.heap.size + 1) (o := 0) (by first | (simp <;> omega) | exact cell_lt' (a := ⟨w.heap.size + 1, 0, none⟩) (by assumption) | (simp; exact cell_lt' (a := ⟨w.heap.size + 1, 0, none⟩) (by assumption))) (by first | assumption | go_simp)
         have f1 := keepf hb1 (b := w.heap.size + 1) (o := 1) (by first | (simp <;> omega) | exact cell_lt' (a := ⟨w.heap.size + 1, 1, none⟩) (by assumption) | (simp; exact cell_lt' (a := ⟨w.heap.size + 1, 1, none⟩) (by assumption))) (by first | assumption | go_simp)
         have f2 := keepf hb1 (b := w.heap.size + 1) (o := 2) (by first | (simp <;> omega) | exact cell_lt' (a := ⟨w.heap.size + 1, 2, none⟩) (by assumption) | (simp; exact cell_lt' (a := ⟨w.heap.size + 1, 2, none⟩) (by assumption))) (by first | assumption | go_simp)
         have f3 := keepf hb1 (b := w.heap.size + 1) (o := 3) (by first | (simp <;> omega) | exact cell_lt' (a := ⟨w.heap.size + 1, 3, none⟩) (by assumption) | (simp; exact cell_lt' (a := ⟨w.heap.size + 1, 3, none⟩) (by assumption))) (by first | assumption | go_simp)
         have f4 := keepf hb1 (b := w.heap.size + 1) (o := 4) (by first | (simp <;> omega) | exact cell_lt' (a := ⟨w.heap.size + 1, 4, none⟩) (by assumption) | (simp; exact cell_lt' (a := ⟨w.heap.size + 1, 4, none⟩) (by assumption))) (by first | assumption | go_simp)
         have f5 := keepf hb1 (b := w.heap.size + 1) (o := 5) (by first | (simp <;> omega) | exact cell_lt' (a := ⟨w.heap.size + 1, 5, none⟩) (by assumption) | (simp; exact cell_lt' (a := ⟨w.heap.size + 1, 5, none⟩) (by assumption))) (by first | assumption | go_simp)
         have f6 := keepf hb1 (b := w.heap.size + 1) (o := 6) (by first | (simp <;> omega) | exact cell_lt' (a := ⟨w.heap.size + 1, 6, none⟩) (by assumption) | (simp; exact cell_lt' (a := ⟨w.heap.size + 1, 6, none⟩) (by assumption))) (by first | assumption | go_simp)
         have f7 := keepf hb1 (b := w.heap.size + 1) (o := 7) (by first | (simp <;> omega) | exact cell_lt' (a := ⟨w.heap.size + 1, 7, none⟩) (by assumption) | (simp; exact cell_lt' (a := ⟨w.heap.size + 1, 7, none⟩) (by assumption))) (by first | assumption | go_simp)
         have B1 := on HB.out hb1; clear hb1))
    refine bodyPost_ret (v := .tuple #[vO (noO 0), .bool false]) ?_ rfl ?_
    · rw [results_cell2 rfl]
      unfold vO noO
      go_simp
    · rw [HF.out]
      refine ⟨rfl, ?_⟩
      repeat (first | with_reducible exact B1 | (with_reducible refine Below.setCell ?_ (by first | (simp; done) | (simp; omega) | omega) _) | (with_reducible refine Below.alloc ?_ (by first | (simp; done) | (simp; omega) | omega) _))
  | some q =>
    obtain ⟨a, ha, _, _⟩ := idx_some hi
    rw [show idx (isId id) L = (q : Int) by unfold idx; rw [hi]] at hS
    have HF : Hid (findP L id = (a, true)) := hid (by unfold findP; rw [hi]; simp [List.getD, ha])
    have HA := hid ha
    have hqn : q < n := by rw [← HO.out.len]; exact (List.getElem?_eq_some_iff.1 ha).1
    have hq0 : ¬ (q : Int) < 0 := by omega
    have hqI : (q : Int) < (n : Int) := by omega
    rcases HO.out.row with h0 | ⟨b, o, rfl, hbl, hcell⟩
    · omega
    have HC := hid hcell
    clear hi ha hcell
    obtain ⟨a0, a1, a2, a3, a4, a5, a6, a7⟩ := a
    go_enter Try.func11, Try.ntmps11
    go_wp2_with (first
      | (
         go_at_call 34; refine hS.mono ?_; rintro e w1 ⟨rfl, hb1⟩; clear hS
         have k0 := keep hb1 (b := w.heap.size + 1) (o := 0) (x := .int .i64 0) (by first | assumption | go_simp)
         have k1 := keep hb1 (b := w.heap.size + 1) (o := 1) (x := .bool false) (by first | assumption | go_simp)
         have k2 := keep hb1 (b := w.heap.size + 1) (o := 2) (x := .bool false) (by first | assumption | go_simp)
         have k3 := keep hb1 (b := w.heap.size + 1) (o := 3) (x := .int .i64 0) (by first | assumption | go_simp)
         have k4 := keep hb1 (b := w.heap.size + 1) (o := 4) (x := .int .i64 0) (by first | assumption | go_simp)
         have k5 := keep hb1 (b := w.heap.size + 1) (o := 5) (x := .int .i64 0) (by first | assumption | go_simp)
         have k6 := keep hb1 (b := w.heap.size + 1) (o := 6) (x := .int .i64 0) (by first | assumption | go_simp)
         have k7 := keep hb1 (b := w.heap.size + 1) (o := 7) (x := .int .i64 0) (by first | assumption | go_simp)
         have f0 := keepf hb1 (b := w.heap.size + 1) (o := 0) (by first | (simp <;> omega) | exact cell_lt' (a := ⟨w.heap.size + 1, 0, none⟩) (by assumption) | (simp; exact cell_lt' (a := ⟨w.heap.size + 1, 0, none⟩) (by assumption))) (by first | assumption | go_simp)
         have f1 := keepf hb1 (b := w.heap.size + 1) (o := 1) (by first | (simp <;> omega) | exact cell_lt' (a := ⟨w.heap.size + 1, 1, none⟩) (by assumption) | (simp; exact cell_lt' (a := ⟨w.heap.size + 1, 1, none⟩) (by assumption))) (by first | assumption | go_simp)
         have f2 := keepf hb1 (b := w.heap.size + 1) (o := 2) (by first | (simp <;> omega) | exact cell_lt' (a := ⟨w.heap.size + 1, 2, none⟩) (by assumption) | (simp; exact cell_lt' (a := ⟨w.heap.size + 1, 2, none⟩) (by assumption))) (by first | assumption | go_simp)
         have f3 := keepf hb1 (b := w.heap.size + 1) (o := 3) (by first | (simp <;> omega) | exact cell_lt' (a := ⟨w.heap.size + 1, 3, none⟩) (by assumption) | (simp; exact cell_lt' (a := ⟨w.heap.size + 1, 3, none⟩) (by assumption))) (by first | assumption | go_simp)
         have f4 := keepf hb1 (b := w.heap.size + 1) (o := 4) (by first | (simp <;> omega) | exact cell_lt' (a := ⟨w.heap.size + 1, 4, none⟩) (by assumption) | (simp; exact cell_lt' (a := ⟨w.heap.size + 1, 4, none⟩) (by assumption))) (by first | assumption | go_simp)
         have f5 := keepf hb1 (b := w.heap.size + 1) (o := 5) (by first | (simp <;> omega) | exact cell_lt' (a := ⟨w.heap.size + 1, 5, none⟩) (by assumption) | (simp; exact cell_lt' (a := ⟨w.heap.size + 1, 5, none⟩) (by assumption))) (by first | assumption | go_simp)
         have f6 := keepf hb1 (b := w.heap.size + 1) (o := 6) (by first | (simp <;> omega) | exact cell_lt' (a := ⟨w.heap.size + 1, 6, none⟩) (by assumption) | (simp; exact cell_lt' (a := ⟨w.heap.size + 1, 6, none⟩) (by assumption))) (by first | assumption | go_simp)
         have f7 := keepf hb1 (b := w.heap.size + 1) (o := 7) (by first | (simp <;> omega) | exact cell_lt' (a := ⟨w.heap.size + 1, 7, none⟩) (by assumption) | (simp; exact cell_lt' (a := ⟨w.heap.size + 1, 7, none⟩) (by assumption))) (by first | assumption | go_simp)
         have j5 := keep hb1 (b := w.heap.size) (o := 5) (x := .slice (some ⟨b, o, none⟩) n c) (by first | assumption | go_simp)
         have B1 := on HB.out hb1; clear hb1
         obtain ⟨l0, l1, l2, l3, l4, l5, l6, l7⟩ := Os.at (n := n) (c := c) (fun k a hk j v hv => keep B1 (HC.out k a hk j v hv)) HA.out
         have lt1 : w.heap.size + 1 < w1.heap.size := cell_lt' k0
         have lb1 : b ≠ w.heap.size + 1 := by omega))
    refine bodyPost_ret (v := .tuple #[vO ⟨a0, a1, a2, a3, a4, a5, a6, a7⟩, .bool true]) ?_ rfl ?_
    · rw [results_cell2 rfl]
      unfold vO
      go_simp
    · rw [HF.out]
      refine ⟨rfl, ?_⟩
      repeat (first | with_reducible exact B1 | (with_reducible refine Below.setCell ?_ (by first | (simp; done) | (simp; omega) | omega) _) | (with_reducible refine Below.alloc ?_ (by first | (simp; done) | (simp; omega) | omega) _))

set_option maxHeartbeats 3200000 in
theorem rmayChange_any (c : Ch) (w : World) : Calls Try.prog 18 #[vC c] w fun e w' => e = .returned (.bool (mayC c)) ∧ Below w.heap.size w w' := by
  obtain ⟨k, o⟩ := c
  have hW := fun n a b W => rwithin_any n a b W
  have hO := fun W => rosd_any o W
  have hE1 := fun W => eq_osd o ⟨o.id, false, false, 0, o.life, o.boot, 0, 0⟩ W
  have hE2 := fun W => eq_osd o ⟨o.id, false, false, o.wt, 0, 0, 0, 0⟩ W
  have hE3 := fun W => eq_osd o (noO o.id) W
  have b0 := al w (.cells #[.int .i64 k, .int .i64 o.id, .bool o.up, .bool o.inn, .int .i64 o.wt, .int .i64 o.life, .int .i64 o.boot, .int .i64 o.host, .int .i64 o.rack] 30)
  unfold mayC mayK upB wtB idB
  dsimp only
  generalize osdB o = t0 at *
  generalize eqO o ⟨o.id, false, false, 0, o.life, o.boot, 0, 0⟩ = t1 at *
  generalize eqO o ⟨o.id, false, false, o.wt, 0, 0, 0, 0⟩ = t2 at *
  generalize eqO o (noO o.id) = t3 at *
  unfold noO at hE3
  obtain ⟨i, up, inn, wt, life, boot, host, rack⟩ := o
  unfold vC
  unfold vO at hO hE1 hE2 hE3
  dsimp only at hO hE1 hE2 hE3 b0 ⊢
  by_cases e1 : k = 1
  · subst e1
    rw [show wi 1 1 6 = true from rfl]
    clear hW hE1 hE2 hE3
    go_enter Try.func18, Try.ntmps18
    go_wp2_with (go_at_call 38; refine (hO _).mono ?_; rintro e w2 ⟨rfl, hb2⟩; clear hO)
    go_ret
    exact ⟨by simp, on (on (on b0 (al _ _)) (Below.refl _ _)) hb2⟩
  by_cases e2 : k = 2
  · subst e2
    rw [show wi 2 1 6 = true from rfl]
    clear hO hE2 hE3
    cases t1 with
    | false =>
      go_enter Try.func18, Try.ntmps18
      go_wp2_with fail
      go_region
      go_wp2_with (go_at_call 35; refine (hW _ _ _ _).mono ?_; rintro e w1 ⟨rfl, rfl⟩)
      all_goals clear hW
      all_goals (go_ret; exact ⟨by simp_all, (on b0 (al _ _)).drew⟩)
    | true =>
      go_enter Try.func18, Try.ntmps18
      go_wp2_with fail
      go_region
      go_wp2_with (go_at_call 35; refine (hW _ _ _ _).mono ?_; rintro e w1 ⟨rfl, rfl⟩)
      all_goals clear hW
      all_goals (go_ret; exact ⟨by simp_all, (on b0 (al _ _)).drew⟩)
  by_cases e6 : k = 6
  · subst e6
    rw [show wi 6 1 6 = true from rfl]
    clear hO hE1 hE3
    cases t2 with
    | false =>
      go_enter Try.func18, Try.ntmps18
      go_wp2_with (go_at_call 35; refine (hW _ _ _ _).mono ?_; rintro e w1 ⟨rfl, rfl⟩)
      all_goals clear hW
      all_goals (go_ret; exact ⟨by simp_all, on b0 (al _ _)⟩)
    | true =>
      go_enter Try.func18, Try.ntmps18
      go_wp2_with (go_at_call 35; refine (hW _ _ _ _).mono ?_; rintro e w1 ⟨rfl, rfl⟩)
      all_goals clear hW
      all_goals (go_ret; exact ⟨by simp_all, on b0 (al _ _)⟩)
  by_cases e3 : k = 3
  · subst e3
    rw [show wi 3 1 6 = true from rfl]
    clear hO hE1 hE2
    cases t3 with
    | false =>
      go_enter Try.func18, Try.ntmps18
      go_wp2_with (go_at_call 35; refine (hW _ _ _ _).mono ?_; rintro e w1 ⟨rfl, rfl⟩)
      all_goals clear hW
      all_goals (go_ret; exact ⟨by simp_all, on b0 (al _ _)⟩)
    | true =>
      go_enter Try.func18, Try.ntmps18
      go_wp2_with (go_at_call 35; refine (hW _ _ _ _).mono ?_; rintro e w1 ⟨rfl, rfl⟩)
      all_goals clear hW
      all_goals (go_ret; exact ⟨by simp_all, on b0 (al _ _)⟩)
  by_cases e4 : k = 4
  · subst e4
    rw [show wi 4 1 6 = true from rfl]
    clear hO hE1 hE2
    cases t3 with
    | false =>
      go_enter Try.func18, Try.ntmps18
      go_wp2_with (go_at_call 35; refine (hW _ _ _ _).mono ?_; rintro e w1 ⟨rfl, rfl⟩)
      all_goals clear hW
      all_goals (go_ret; exact ⟨by simp_all, on b0 (al _ _)⟩)
    | true =>
      go_enter Try.func18, Try.ntmps18
      go_wp2_with (go_at_call 35; refine (hW _ _ _ _).mono ?_; rintro e w1 ⟨rfl, rfl⟩)
      all_goals clear hW
      all_goals (go_ret; exact ⟨by simp_all, on b0 (al _ _)⟩)
  by_cases e5 : k = 5
  · subst e5
    rw [show wi 5 1 6 = true from rfl]
    clear hO hE1 hE2
    cases t3 with
    | false =>
      go_enter Try.func18, Try.ntmps18
      go_wp2_with (go_at_call 35; refine (hW _ _ _ _).mono ?_; rintro e w1 ⟨rfl, rfl⟩)
      all_goals clear hW
      all_goals (go_ret; exact ⟨by simp_all, on b0 (al _ _)⟩)
    | true =>
      go_enter Try.func18, Try.ntmps18
      go_wp2_with (go_at_call 35; refine (hW _ _ _ _).mono ?_; rintro e w1 ⟨rfl, rfl⟩)
      all_goals clear hW
      all_goals (go_ret; exact ⟨by simp_all, on b0 (al _ _)⟩)
  have hz : wi k 1 6 = false := by
    rw [wi_false]
    omega
  rw [hz]
  clear hO hE1 hE2 hE3 hW hz
  go_enter Try.func18, Try.ntmps18
  go_wp2_with fail
  go_ret
  exact ⟨by simp, on b0 (al _ _)⟩

end Go.Proofs.Ytnddhlkdemibgaa.At

/-
  The document's May.
  Conditions: the list lies in memory.
-/
namespace Go.Proofs.Ytnddhlkdemibgaa.At
open Go.RowKit By Fl
set_option linter.unusedVariables false
set_option linter.unusedSimpArgs false
set_option maxRecDepth 100000

/- The i-th one is as it should be, as far as the first q of the list tell. -/
def LowTo (L : List Osd) (a : Osd) (q : Nat) : Prop := ∀ (j : Nat) (b : Osd), j < q → L[j]? = some b → lowB a b = true

set_option maxHeartbeats 6400000 in
theorem rmay_any {w : World} {x : Option Addr} {n c : Nat} (m : Mp) (h : Os w x n c m.osds) :
    Calls Try.prog 16 #[vM m.ep m.pool x n c] w fun e w' => e = .returned (.bool (mayM m)) ∧ Below w.heap.size w w' := by
  obtain ⟨ep, p, L⟩ := m
  have hW := fun n a b W => rwithin_any n a b W
  have hP := fun W => rpool_any p W
  have HL := hid h.len
  have hm := h.small
  unfold mayM osdsB
  dsimp only at h HL ⊢
  generalize poolB p = tp at *
  obtain ⟨k, mm, g, d⟩ := p
  unfold vM
  unfold vP at hP
  dsimp only at hP ⊢
  have b0 := al w (.cells #[.int .i64 ep, .int .i64 k, .int .i64 mm, .int .i64 g, .int .i64 d, .slice x n c] 26)
  have k5 : (w.alloc (.cells #[.int .i64 ep, .int .i64 k, .int .i64 mm, .int .i64 g, .int .i64 d, .slice x n c] 26)).cell? ⟨w.heap.size, 5, none⟩ = some (.slice x n c) := by go_simp
  have HK := hid k5
  have HO := hid (h.below b0)
  have HB := hid b0
  clear h k5 b0
  cases hwi : wi ep 0 1048576 with
  | false =>
    clear hP
    go_enter Try.func16, Try.ntmps16
    go_wp2_with (go_at_call 35; refine (hW _ _ _ _).mono ?_; rintro e w1 ⟨rfl, rfl⟩)
    go_ret
    exact ⟨by simp, HB.out⟩
  | true =>
  cases tp with
  | false =>
    go_enter Try.func16, Try.ntmps16
    go_wp2_with (first
      | (go_at_call 35; refine (hW _ _ _ _).mono ?_; rintro e w1 ⟨rfl, rfl⟩)
      | (go_at_call 13; refine (hP _).mono ?_; rintro e w2 ⟨rfl, hb2⟩; clear hP))
    go_ret
    exact ⟨by simp, on HB.out hb2⟩
  | true =>
  by_cases h64 : 64 < n
  · have i64 : (64 : Int) < (n : Int) := by omega
    go_enter Try.func16, Try.ntmps16
    go_wp2_with (first
      | (go_at_call 35; refine (hW _ _ _ _).mono ?_; rintro e w1 ⟨rfl, rfl⟩)
      | (go_at_call 13; refine (hP _).mono ?_; rintro e w2 ⟨rfl, hb2⟩; clear hP; have q5 := keep hb2 HK.out))
    go_ret
    exact ⟨by rw [HL.out, decide_eq_false (by omega)]; simp, on HB.out hb2⟩
  have i64 : (n : Int) ≤ 64 := by omega
  have h64' : n ≤ 64 := by omega
  go_enter Try.func16, Try.ntmps16
  go_wp2_with (first
    | (go_at_call 35; refine (hW _ _ _ _).mono ?_; rintro e w1 ⟨rfl, rfl⟩)
    | (go_at_call 13; refine (hP _).mono ?_; rintro e w2 ⟨rfl, hb2⟩; clear hP; have q5 := keep hb2 HK.out))
  have HO2 := hid (HO.out.below hb2)
  have HB2 := hid (on HB.out hb2)
  have HQ := hid q5
  have HF : Hid (∀ t, (true && true && (decide (L.length ≤ 64) && t)) = t) := fun t => by rw [HL.out, decide_eq_true h64']; simp
  clear hW hb2 q5 h64
  go_loopw [3, 4] (fun i _ wr => ∃ q : Nat, q ≤ n ∧ i = .int .i64 q ∧ Hid (Below w2.heap.size w2 wr ∧ GoodTo L q)) (fun i _ _ => n - (intOf i).toNat)
  case atStart => exact ⟨0, by omega, rfl, Below.refl _ _, fun i a hi => by omega⟩
  case round =>
    obtain ⟨q, hq, rfl, HR⟩ := hrel
    have q5 := keep HR.out.1 HQ.out
    by_cases hlt : q < n
    · have hqn : (q : Int) < (n : Int) := by omega
      obtain ⟨a, ha⟩ : ∃ a, L[q]? = some a := ⟨L[q]'(by have := HL.out; omega), List.getElem?_eq_getElem (by have := HL.out; omega)⟩
      have ho := HO2.out.below HR.out.1
      rcases ho.row with h0 | ⟨b, o, rfl, hbl, hcell⟩
      · omega
      obtain ⟨k0, k1, k2, k3, k4, k5, k6, k7⟩ := Os.at (n := n) (c := c) hcell ha
      have hS := rosd_any a wr
      obtain ⟨t, ht⟩ : ∃ t, t = osdB a := ⟨_, rfl⟩
      rw [← ht] at hS
      have HA := hid (show L[q]? = some a ∧ t = osdB a from ⟨ha, ht⟩)
      have HC := hid hcell
      clear hcell ha ht ho
      obtain ⟨a0, a1, a2, a3, a4, a5, a6, a7⟩ := a
      unfold vO at hS
      dsimp only at k0 k1 k2 k3 k4 k5 k6 k7 hS
      cases t with
      | false =>
        go_wp2_with (go_at_call 38; refine hS.mono ?_; rintro e w3 ⟨rfl, hb3⟩; clear hS)
        go_ret
        exact ⟨by rw [HF.out, goodB_false HA.out.1 (.inl HA.out.2.symm)]; rfl, on HB2.out (on HR.out.1 hb3)⟩
      | true =>
        go_wp2_with (go_at_call 38; refine hS.mono ?_; rintro e w3 ⟨rfl, hb3⟩; clear hS)
        have HB3 := hid (on HR.out.1 hb3)
        have HC3 : Hid (∀ (k : Nat) (a : Osd), L[k]? = some a → ∀ (j : Nat) (v : Value), (enO a)[j]? = some v → w3.cell? ⟨b, o + k * 8 + j, none⟩ = some v) := fun k a hk j v hv => keep hb3 (HC.out k a hk j v hv)
        have HQ3 := hid (keep hb3 q5)
        clear hb3 q5 k0 k1 k2 k3 k4 k5 k6 k7 HC
        obtain ⟨wo, hwo⟩ : ∃ wo, wo = wr := ⟨_, rfl⟩
        subst hwo
        go_loopw [4] (fun i wr => ∃ r : Nat, r ≤ q ∧ i = .int .i64 r ∧ Hid (Below w3.heap.size w3 wr ∧ LowTo L ⟨a0, a1, a2, a3, a4, a5, a6, a7⟩ r)) (fun i _ => q - (intOf i).toNat)
        case atStart => exact ⟨0, by omega, rfl, Below.refl _ _, fun j b hj => by omega⟩
        case round =>
          obtain ⟨r, hr, rfl, HI⟩ := hrel
          have r5 := keep HI.out.1 HQ3.out
          by_cases hrq : r < q
          · have hrqI : (r : Int) < (q : Int) := by omega
            have hrnI : (r : Int) < (n : Int) := by omega
            obtain ⟨e, he⟩ : ∃ a, L[r]? = some a := ⟨L[r]'(by have := HL.out; omega), List.getElem?_eq_getElem (by have := HL.out; omega)⟩
            obtain ⟨k0, k1, k2, k3, k4, k5, k6, k7⟩ := Os.at (n := n) (c := c) (fun k a hk j v hv => keep HI.out.1 (HC3.out k a hk j v hv)) HA.out.1
            obtain ⟨l0, l1, l2, l3, l4, l5, l6, l7⟩ := Os.at (n := n) (c := c) (fun k a hk j v hv => keep HI.out.1 (HC3.out k a hk j v hv)) he
            clear k1 k2 k3 k4 k5 l1 l2 l3 l4 l5
            have HE := hid he
            clear he
            obtain ⟨e0, e1, e2, e3, e4, e5, e6, e7⟩ := e
            dsimp only at k0 k6 k7 l0 l6 l7
            by_cases h1 : a0 ≤ e0
            · go_wp2_with fail
              go_quiet (fail)
              go_wp2_with fail
              go_ret
              exact ⟨by rw [HF.out, goodB_false HA.out.1 (.inr ⟨r, _, hrq, HE.out, by unfold lowB; dsimp only; rw [decide_eq_false (by omega)]; rfl⟩)]; rfl, on HB2.out (on HB3.out (below_drewN' HI.out.1 _))⟩
            · have h1' : e0 < a0 := by omega
              by_cases h2 : e6 = a6
              · subst h2
                by_cases h3 : e7 = a7
                · subst h3
                  go_wp2_with fail
                  go_quiet (fail)
                  go_wp2_with fail
                  go_roundw
                  case rel =>
                    refine ⟨r + 1, by omega, by go_num, below_drewN' HI.out.1 _, fun j bb hj hb => ?_⟩
                    by_cases hjr : j = r
                    · subst hjr
                      have := Option.some.inj (HE.out.symm.trans hb)
                      subst this
                      exact (lowB_iff _ _).2 ⟨h1', fun _ => rfl⟩
                    · exact HI.out.2 j bb (by omega) hb
                  case measure => simp [intOf]; omega
                · have h3' : (e7 != a7) = true := by simpa using h3
                  go_wp2_with fail
                  go_quiet (fail)
                  go_wp2_with fail
                  go_ret
                  exact ⟨by rw [HF.out, goodB_false HA.out.1 (.inr ⟨r, _, hrq, HE.out, by
                    cases hq : lowB _ _ with
                    | false => rfl
                    | true => exact absurd (((lowB_iff _ _).1 hq).2 rfl) h3⟩)]; rfl, on HB2.out (on HB3.out (below_drewN' HI.out.1 _))⟩
              · have h2' : e6 ≠ a6 := h2
                go_wp2_with fail
                go_quiet (fail)
                go_wp2_with fail
                go_roundw
                case rel =>
                  refine ⟨r + 1, by omega, by go_num, below_drewN' HI.out.1 _, fun j bb hj hb => ?_⟩
                  by_cases hjr : j = r
                  · subst hjr
                    have := Option.some.inj (HE.out.symm.trans hb)
                    subst this
                    exact (lowB_iff _ _).2 ⟨h1', fun e => absurd e h2⟩
                  · exact HI.out.2 j bb (by omega) hb
                case measure => simp [intOf]; omega
          · have hrq2 : r = q := by omega
            subst hrq2
            go_wp2_with fail
            go_roundw
            case rel =>
              refine ⟨r + 1, by omega, by go_num, on HB3.out HI.out.1, fun i a hi hia => ?_⟩
              by_cases hir : i = r
              · subst hir
                have := Option.some.inj (HA.out.1.symm.trans hia)
                subst this
                exact ⟨HA.out.2.symm, fun j b hj hb => HI.out.2 j b hj hb⟩
              · exact HR.out.2 i a (by omega) hia
            case measure => simp [intOf]; omega
    · have hq2 : q = n := by omega
      subst hq2
      go_wp2_with fail
      go_ret
      exact ⟨by rw [HF.out, GoodTo.all (by rw [HL.out]; exact HR.out.2)]; rfl, on HB2.out HR.out.1⟩

end Go.Proofs.Ytnddhlkdemibgaa.At
