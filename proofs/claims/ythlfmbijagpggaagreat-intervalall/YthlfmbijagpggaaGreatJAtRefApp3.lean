/-
  3 texts of this proof, one behind the other: AtRefApp3, AtRefApp4, AtRefApply.
-/
import Derived.Test.YthlfmbijagpggaaGreatAtRefApp2
import Derived.Test.YthlfmbijagpggaaGreatByHk
/-
  The document's Apply: an OSD more.
  Conditions: lists lie in memory.
-/
namespace Go.Proofs.YthlfmbijagpggaaGreat.At
open Go.RowKit By Fl
set_option linter.unusedVariables false
set_option linter.unusedSimpArgs false
set_option maxRecDepth 100000

theorem over_low {o a : Osd} {L : List Osd} {k : Nat} (hk : k < inAt o L) (ha : L[k]? = some a) : ¬ o.id < a.id := by
  have hov : overId o.id a = false := by
    unfold inAt at hk
    cases hq : L.findIdx? (overId o.id) with
    | none => exact idx_none hq k a ha
    | some q =>
      rw [hq] at hk
      obtain ⟨_, _, _, h4⟩ := idx_some hq
      exact h4 k a hk ha
  unfold overId at hov
  simpa using hov

theorem over_at {o a : Osd} {L : List Osd} (ha : L[inAt o L]? = some a) : o.id < a.id := by
  unfold inAt at ha
  cases hq : L.findIdx? (overId o.id) with
  | none =>
    rw [hq] at ha
    have := (List.getElem?_eq_some_iff.1 ha).1
    simp only [] at this
    omega
  | some q =>
    rw [hq] at ha
    obtain ⟨b, hb, h3, _⟩ := idx_some hq
    have := Option.some.inj (hb.symm.trans ha)
    subst this
    unfold overId at h3
    simpa using h3

def built (o : Osd) (L : List Osd) (at_ k : Nat) : List Osd := if at_ < k then L.take at_ ++ o :: (L.drop at_).take (k - at_) else L.take k

theorem built_zero (o : Osd) (L : List Osd) (at_ : Nat) : built o L at_ 0 = [] := by unfold built; simp
theorem built_low {o a : Osd} {L : List Osd} {at_ k : Nat} (hk : k < at_) (ha : L[k]? = some a) : built o L at_ (k + 1) = built o L at_ k ++ [a] := by
  unfold built
  rw [if_neg (by omega), if_neg (by omega), List.take_add_one, ha]
  rfl
theorem built_at {o a : Osd} {L : List Osd} {at_ : Nat} (ha : L[at_]? = some a) : built o L at_ (at_ + 1) = built o L at_ at_ ++ [o] ++ [a] := by
  unfold built
  rw [if_pos (by omega), if_neg (by omega), show at_ + 1 - at_ = 1 by omega, List.take_add_one, List.getElem?_drop, Nat.add_zero, ha]
  simp
theorem built_high {o a : Osd} {L : List Osd} {at_ k : Nat} (hk : at_ < k) (ha : L[k]? = some a) : built o L at_ (k + 1) = built o L at_ k ++ [a] := by
  unfold built
  rw [if_pos (by omega), if_pos hk, show k + 1 - at_ = (k - at_) + 1 by omega, List.take_add_one, List.getElem?_drop, show at_ + (k - at_) = k by omega, ha]
  simp
theorem built_end {o : Osd} {L : List Osd} {at_ n : Nat} (hn : L.length = n) (h : at_ < n) : built o L at_ n = L.take at_ ++ o :: L.drop at_ := by
  unfold built
  rw [if_pos h, List.take_of_length_le (l := L.drop at_) (by rw [List.length_drop]; omega)]
theorem built_last {o : Osd} {L : List Osd} {n : Nat} (hn : L.length = n) : built o L n n ++ [o] = L.take n ++ o :: L.drop n := by
  unfold built
  rw [if_neg (by omega), List.drop_of_length_le (by omega)]
theorem built_len {o : Osd} {L : List Osd} {at_ k n : Nat} (hn : L.length = n) (hk : k ≤ n) : (built o L at_ k).length ≤ k + 1 := by
  unfold built
  split
  · simp
    omega
  · simp
    omega

theorem push1 {W : World} {B : Nat} {R : Value} {L : List Osd} (h : Own W B 53 8 enO R L) (a : Osd) (hB : B ≤ W.heap.size) (hl : L.length ≤ 1000) :
    ∃ x' c' W', (Builtin.append_ #[47, 47] 47 #[R, .slice (some ⟨W.heap.size, 0, none⟩) 1 1]).run Tryz.prog (W.alloc (.cells #[.int .i64 a.id, .bool a.up, .bool a.inn, .int .i64 a.wt, .int .i64 a.life, .int .i64 a.boot, .int .i64 a.host, .int .i64 a.rack] 53)) = .ok (.slice x' (L.length + 1) c') W' ∧
      Hid (Own W' B 53 8 enO (.slice x' (L.length + 1) c') (L ++ [a]) ∧ Turns (fun k => R.ownBlock = some k) W W' ∧ ∀ g, (Value.slice x' (L.length + 1) c').ownBlock = some g → R.ownBlock = some g ∨ W.heap.size ≤ g) := by
  have bx := al W (.cells #[.int .i64 a.id, .bool a.up, .bool a.inn, .int .i64 a.wt, .int .i64 a.life, .int .i64 a.boot, .int .i64 a.host, .int .i64 a.rack] 53)
  have ob : OBox (W.alloc (.cells #[.int .i64 a.id, .bool a.up, .bool a.inn, .int .i64 a.wt, .int .i64 a.life, .int .i64 a.boot, .int .i64 a.host, .int .i64 a.rack] 53)) W.heap.size a := heap_alloc_new _ _
  obtain ⟨x', c', W', hr, H⟩ := (h.below bx).push orow (by simp; omega) ⟨W.heap.size, 0, none⟩ 1 1 [a] rfl (fun j u hj => ob.src j u (by rwa [flat_one] at hj)) (by omega)
  refine ⟨x', c', W', hr, H.out.1, (Turns.of_below bx).trans H.out.2.1, fun g hg => ?_⟩
  rcases H.out.2.2 g hg with q | q
  · exact .inl q
  · exact .inr (by rw [q]; simp)

/- The list that is built, in the box nb. -/
structure AddAt (B : Nat) (Wb wr : World) (nb : Nat) (e1 pk pm pg pd : Int) (R : Value) (Lk : List Osd) : Prop where
  blk : wr.heap[nb]? = some (.cells #[.int .i64 e1, .int .i64 pk, .int .i64 pm, .int .i64 pg, .int .i64 pd, R] 49 (0, 0))
  own : Own wr B 53 8 enO R Lk
  turns : Turns (fun k => k = nb) Wb wr
  new : ∀ g, R.ownBlock = some g → Wb.heap.size ≤ g
  lt : nb < Wb.heap.size
  big : B ≤ Wb.heap.size

section
variable {B nb : Nat} {Wb wr : World} {e1 pk pm pg pd : Int} {R : Value} {Lk : List Osd}

theorem AddAt.cell (h : AddAt B Wb wr nb e1 pk pm pg pd R Lk) {b j : Nat} {v : Value} (hb : b ≠ nb) (hv : Wb.cell? ⟨b, j, none⟩ = some v) : wr.cell? ⟨b, j, none⟩ = some v :=
  (World.cell?_of_block (a := ⟨b, j, none⟩) (h.turns.block b (cell_lt' hv) hb)).trans hv

theorem AddAt.below {wr' : World} (h : AddAt B Wb wr nb e1 pk pm pg pd R Lk) (b : Below wr.heap.size wr wr') : AddAt B Wb wr' nb e1 pk pm pg pd R Lk :=
  ⟨(b.block _ (Array.getElem?_eq_some_iff.1 h.blk).1).trans h.blk, h.own.below b, h.turns.trans (Turns.of_below b), h.new, h.lt, h.big⟩

theorem AddAt.step {W' : World} {R' : Value} {a : Osd} (h : AddAt B Wb wr nb e1 pk pm pg pd R Lk) (ho : Own W' B 53 8 enO R' (Lk ++ [a])) (ht : Turns (fun k => R.ownBlock = some k) wr W') (hn : ∀ g, R'.ownBlock = some g → R.ownBlock = some g ∨ wr.heap.size ≤ g) :
    AddAt B Wb (W'.setCell ⟨nb, 5, none⟩ R') nb e1 pk pm pg pd R' (Lk ++ [a]) := by
  have hlt := h.lt
  have hsz := h.turns.size
  have hnb : W'.heap[nb]? = some (.cells #[.int .i64 e1, .int .i64 pk, .int .i64 pm, .int .i64 pg, .int .i64 pd, R] 49 (0, 0)) :=
    (ht.block nb (by omega) (fun e => by have := h.new nb e; omega)).trans h.blk
  have hnew : ∀ g, R'.ownBlock = some g → Wb.heap.size ≤ g := fun g hg => by
    rcases hn g hg with q | q
    · exact h.new g q
    · omega
  refine ⟨heap_set hnb _, ho.turns (turns_put (Turns.refl _ _) _ _) (fun g hg e => by have := hnew g hg; omega), ?_, hnew, h.lt, h.big⟩
  exact (h.turns.more ht (fun i hi => .inr (h.new i hi))).setCell (p := ⟨nb, 5, none⟩) (.inl rfl) _

/- The box, behind an append that is not yet stored. -/
theorem AddAt.boxAt {W' : World} (h : AddAt B Wb wr nb e1 pk pm pg pd R Lk) (ht : Turns (fun k => R.ownBlock = some k) wr W') : W'.heap[nb]? = some (.cells #[.int .i64 e1, .int .i64 pk, .int .i64 pm, .int .i64 pg, .int .i64 pd, R] 49 (0, 0)) := by
  have hlt := h.lt
  have hsz := h.turns.size
  exact (ht.block nb (by omega) (fun e => by have := h.new nb e; omega)).trans h.blk

theorem AddAt.other {W' : World} (h : AddAt B Wb wr nb e1 pk pm pg pd R Lk) (ht : Turns (fun k => R.ownBlock = some k) wr W') {b j : Nat} {v : Value} (hb : b < Wb.heap.size) (hv : wr.cell? ⟨b, j, none⟩ = some v) : W'.cell? ⟨b, j, none⟩ = some v :=
  (World.cell?_of_block (a := ⟨b, j, none⟩) (ht.block b (cell_lt' hv) (fun e => by have := h.new b e; omega))).trans hv

end

end Go.Proofs.YthlfmbijagpggaaGreat.At

/-
  The document's Apply: an OSD more, walked.
  Conditions: lists lie in memory.
-/
namespace Go.Proofs.YthlfmbijagpggaaGreat.At
open Go.RowKit By Fl
set_option linter.unusedVariables false
set_option linter.unusedSimpArgs false
set_option maxRecDepth 100000

set_option maxHeartbeats 12800000 in
theorem rapply_add {w : World} {x : Option Addr} {n c : Nat} (m : Mp) (ch : Ch) (h : Os w x n c m.osds) (h1 : mayM m = true) (h2 : mayC ch = true) (h3 : m.ep ≠ 1048576) (hk : ch.kind = 1) (hf : m.osds.findIdx? (isId ch.osd.id) = none) (hl : m.osds.length < 64) :
    Calls Tryz.prog 15 #[vM m.ep m.pool x n c, vC ch] w fun e w' => ∃ y yn yc, e = .returned (.tuple #[vM (applyP m ch).2.ep (applyP m ch).2.pool y yn yc, .int .i64 (applyP m ch).1]) ∧ Hid (ToldN w w' y yn yc (applyP m ch).2.osds) := by
  obtain ⟨pp1, pp2, pp3, pp4⟩ := may_parts h1
  have hosd : osdB ch.osd = true := by
    unfold mayC mayK at h2
    rw [hk] at h2
    simpa [wi] using h2
  have hgi := good_ins pp4 hosd hf
  have hmy : mayM ⟨m.ep + 1, m.pool, ins ch.osd m.osds⟩ = !movedB m.osds ch.osd := by
    unfold mayM osdsB
    dsimp only
    rw [hgi, pp2, (wi_iff _ _ _).2 ⟨by omega, by omega⟩, decide_eq_true (by rw [ins_at]; simp; have := inAt_le ch.osd m.osds; omega)]
    simp
  have HA1 := hid (fun (hq : movedB m.osds ch.osd = true) => applyP_err h1 h2 h3 (show doP ch.kind m.osds ch.osd = (1, m.osds) from by unfold doP addP; rw [if_pos hk, hf, if_neg (by simp), if_neg (by omega), if_pos hq]) (by simp))
  have HA2 := hid (fun (hq : movedB m.osds ch.osd = false) => applyP_ok h1 h2 h3 (show doP ch.kind m.osds ch.osd = (0, ins ch.osd m.osds) from by unfold doP addP; rw [if_pos hk, hf, if_neg (by simp), if_neg (by omega), if_neg (by rw [hq]; simp)]) rfl)
  have HIn := hid (ins_at ch.osd m.osds)
  have hAl := inAt_le ch.osd m.osds
  have HOl := hid (fun (k : Nat) (a : Osd) (h : k < inAt ch.osd m.osds) (ha : m.osds[k]? = some a) => over_low h ha)
  have HOa := hid (fun (a : Osd) (ha : m.osds[inAt ch.osd m.osds]? = some a) => over_at ha)
  obtain ⟨at_, hat⟩ : ∃ a, a = inAt ch.osd m.osds := ⟨_, rfl⟩
  rw [← hat] at HIn hAl HOl HOa
  have HMy := hid hmy
  obtain ⟨tm, htm⟩ : ∃ t, t = movedB m.osds ch.osd := ⟨_, rfl⟩
  rw [← htm] at HA1 HA2 HMy
  have hM := fun W (hW : Os W x n c m.osds) => rmay_any m hW
  have hC := fun W => rmayChange_any ch W
  have hP := fun W (hW : Os W x n c m.osds) => place_any m ch.osd.id hW
  have HS : Hid (∀ W, Below w.heap.size w W → Os W x n c m.osds) := fun W hW => h.below hW
  have HL := hid h.len
  have b0 := on (on (al w (.cells #[.int .i64 m.ep, .int .i64 m.pool.k, .int .i64 m.pool.m, .int .i64 m.pool.pgs, .int .i64 m.pool.dom, .slice x n c] 49)) (al _ (.cells #[.int .i64 ch.kind, .int .i64 ch.osd.id, .bool ch.osd.up, .bool ch.osd.inn, .int .i64 ch.osd.wt, .int .i64 ch.osd.life, .int .i64 ch.osd.boot, .int .i64 ch.osd.host, .int .i64 ch.osd.rack] 55))) (al _ (.cells #[.int .i64 0, .int .i64 0, .int .i64 0, .int .i64 0, .int .i64 0, .slice none 0 0] 49))
  have hM0 := hM _ (HS.out _ b0)
  have HB := hid b0
  have HX := hid (box3 w (.cells #[.int .i64 m.ep, .int .i64 m.pool.k, .int .i64 m.pool.m, .int .i64 m.pool.pgs, .int .i64 m.pool.dom, .slice x n c] 49) (.cells #[.int .i64 ch.kind, .int .i64 ch.osd.id, .bool ch.osd.up, .bool ch.osd.inn, .int .i64 ch.osd.wt, .int .i64 ch.osd.life, .int .i64 ch.osd.boot, .int .i64 ch.osd.host, .int .i64 ch.osd.rack] 55) (.cells #[.int .i64 0, .int .i64 0, .int .i64 0, .int .i64 0, .int .i64 0, .slice none 0 0] 49))
  have hsm := h.small
  clear hM h b0
  rw [h1] at hM0
  rw [h2] at hC
  rw [show idx (isId ch.osd.id) m.osds = -1 by unfold idx; rw [hf]] at hP
  have hln : ¬ (64 : Int) ≤ (n : Int) := by rw [← HL.out]; omega
  have hn64 : n < 64 := by rw [← HL.out]; exact hl
  rw [HL.out] at hAl
  have hwr : IntKind.i64.wrap (m.ep + 1) = m.ep + 1 := by rw [IntKind.wrap_i64]; omega
  have hne : (m.ep == 1048576) = false := by simpa using h3
  have hRM := fun W (y : Option Addr) (yn yc : Nat) (hW : Os W y yn yc (ins ch.osd m.osds)) => rmay_any ⟨m.ep + 1, m.pool, ins ch.osd m.osds⟩ hW
  rw [HMy.out] at hRM
  clear h1 h2 h3 hf hl pp1 pp2 pp3 pp4 hosd hgi hmy hat htm
  obtain ⟨ep, ⟨pk, pm, pg, pd⟩, L⟩ := m
  obtain ⟨ck, c0, c1, c2, c3, c4, c5, c6, c7⟩ := ch
  unfold vM vC at *
  dsimp only at hM0 hC hP HB HX HS HA1 HA2 hwr hne hk HL HIn HOl HOa HMy hRM ⊢
  subst hk
  go_enter Tryz.func15, Tryz.ntmps15
  go_wp2_with (first
      | (
         go_at_call 24; refine hM0.mono ?_; rintro e w1 ⟨rfl, hb1⟩; clear hM0
         have em := (hb1.block _ (Array.getElem?_eq_some_iff.1 HX.out.1).1).trans HX.out.1
         have ec := (hb1.block _ (Array.getElem?_eq_some_iff.1 HX.out.2.1).1).trans HX.out.2.1
         have er := (hb1.block _ (Array.getElem?_eq_some_iff.1 HX.out.2.2).1).trans HX.out.2.2
         have HE1 := hid (And.intro em (And.intro ec er))
         have B1 := hid (on HB.out hb1)
         have l1 : w.heap.size + 1 + 1 < w1.heap.size := (Array.getElem?_eq_some_iff.1 er).1
         have j0 : w1.cell? ⟨w.heap.size + 1, 0, none⟩ = some (.int .i64 1) := cell_heap ec rfl
         have j1 : w1.cell? ⟨w.heap.size + 1, 1, none⟩ = some (.int .i64 c0) := cell_heap ec rfl
         have j2 : w1.cell? ⟨w.heap.size + 1, 2, none⟩ = some (.bool c1) := cell_heap ec rfl
         have j3 : w1.cell? ⟨w.heap.size + 1, 3, none⟩ = some (.bool c2) := cell_heap ec rfl
         have j4 : w1.cell? ⟨w.heap.size + 1, 4, none⟩ = some (.int .i64 c3) := cell_heap ec rfl
         have j5 : w1.cell? ⟨w.heap.size + 1, 5, none⟩ = some (.int .i64 c4) := cell_heap ec rfl
         have j6 : w1.cell? ⟨w.heap.size + 1, 6, none⟩ = some (.int .i64 c5) := cell_heap ec rfl
         have j7 : w1.cell? ⟨w.heap.size + 1, 7, none⟩ = some (.int .i64 c6) := cell_heap ec rfl
         have j8 : w1.cell? ⟨w.heap.size + 1, 8, none⟩ = some (.int .i64 c7) := cell_heap ec rfl
         clear hb1 em ec er)
      | (
         go_at_call 25; refine (hC _).mono ?_; rintro e w2 ⟨rfl, hb2⟩; clear hC
         have em := (hb2.block _ (Array.getElem?_eq_some_iff.1 HE1.out.1).1).trans HE1.out.1
         have ec := (hb2.block _ (Array.getElem?_eq_some_iff.1 HE1.out.2.1).1).trans HE1.out.2.1
         have er := (hb2.block _ (Array.getElem?_eq_some_iff.1 HE1.out.2.2).1).trans HE1.out.2.2
         have HE2 := hid (And.intro em (And.intro ec er))
         have B2 := hid (on B1.out hb2)
         have l2 : w.heap.size + 1 + 1 < w2.heap.size := (Array.getElem?_eq_some_iff.1 er).1
         have m0 : w2.cell? ⟨w.heap.size, 0, none⟩ = some (.int .i64 ep) := cell_heap em rfl
         have m1 : w2.cell? ⟨w.heap.size, 1, none⟩ = some (.int .i64 pk) := cell_heap em rfl
         have m2 : w2.cell? ⟨w.heap.size, 2, none⟩ = some (.int .i64 pm) := cell_heap em rfl
         have m3 : w2.cell? ⟨w.heap.size, 3, none⟩ = some (.int .i64 pg) := cell_heap em rfl
         have m4 : w2.cell? ⟨w.heap.size, 4, none⟩ = some (.int .i64 pd) := cell_heap em rfl
         have m5 : w2.cell? ⟨w.heap.size, 5, none⟩ = some (.slice x n c) := cell_heap em rfl
         have q1 : w2.cell? ⟨w.heap.size + 1, 1, none⟩ = some (.int .i64 c0) := cell_heap ec rfl
         have hP2 := hP w2 (HS.out w2 B2.out)
         clear hb2 em ec er)
      | (
         go_at_call 26; refine hP2.mono ?_; rintro e w3 ⟨rfl, hb3⟩; clear hP2
         have em := (hb3.block _ (Array.getElem?_eq_some_iff.1 HE2.out.1).1).trans HE2.out.1
         have ec := (hb3.block _ (Array.getElem?_eq_some_iff.1 HE2.out.2.1).1).trans HE2.out.2.1
         have er := (hb3.block _ (Array.getElem?_eq_some_iff.1 HE2.out.2.2).1).trans HE2.out.2.2
         have HE3 := hid (And.intro em (And.intro ec er))
         have B3 := hid (on B2.out hb3)
         have l3 : w.heap.size + 1 + 1 < w3.heap.size := (Array.getElem?_eq_some_iff.1 er).1
         have l3a : w.heap.size < w3.heap.size := (Array.getElem?_eq_some_iff.1 em).1
         have l3b : w.heap.size + 1 < w3.heap.size := (Array.getElem?_eq_some_iff.1 ec).1
         have m0 : w3.cell? ⟨w.heap.size, 0, none⟩ = some (.int .i64 ep) := cell_heap em rfl
         have m1 : w3.cell? ⟨w.heap.size, 1, none⟩ = some (.int .i64 pk) := cell_heap em rfl
         have m2 : w3.cell? ⟨w.heap.size, 2, none⟩ = some (.int .i64 pm) := cell_heap em rfl
         have m3 : w3.cell? ⟨w.heap.size, 3, none⟩ = some (.int .i64 pg) := cell_heap em rfl
         have m4 : w3.cell? ⟨w.heap.size, 4, none⟩ = some (.int .i64 pd) := cell_heap em rfl
         have m5 : w3.cell? ⟨w.heap.size, 5, none⟩ = some (.slice x n c) := cell_heap em rfl
         have q0 : w3.cell? ⟨w.heap.size + 1, 0, none⟩ = some (.int .i64 1) := cell_heap ec rfl
         have q1 : w3.cell? ⟨w.heap.size + 1, 1, none⟩ = some (.int .i64 c0) := cell_heap ec rfl
         have q2 : w3.cell? ⟨w.heap.size + 1, 2, none⟩ = some (.bool c1) := cell_heap ec rfl
         have q3 : w3.cell? ⟨w.heap.size + 1, 3, none⟩ = some (.bool c2) := cell_heap ec rfl
         have q4 : w3.cell? ⟨w.heap.size + 1, 4, none⟩ = some (.int .i64 c3) := cell_heap ec rfl
         have q5 : w3.cell? ⟨w.heap.size + 1, 5, none⟩ = some (.int .i64 c4) := cell_heap ec rfl
         have q6 : w3.cell? ⟨w.heap.size + 1, 6, none⟩ = some (.int .i64 c5) := cell_heap ec rfl
         have q7 : w3.cell? ⟨w.heap.size + 1, 7, none⟩ = some (.int .i64 c6) := cell_heap ec rfl
         have q8 : w3.cell? ⟨w.heap.size + 1, 8, none⟩ = some (.int .i64 c7) := cell_heap ec rfl
         have d0 : w3.cell? ⟨w.heap.size + 1 + 1, 0, none⟩ = some (.int .i64 0) := cell_heap er rfl
         have d1 : w3.cell? ⟨w.heap.size + 1 + 1, 1, none⟩ = some (.int .i64 0) := cell_heap er rfl
         have d2 : w3.cell? ⟨w.heap.size + 1 + 1, 2, none⟩ = some (.int .i64 0) := cell_heap er rfl
         have d3 : w3.cell? ⟨w.heap.size + 1 + 1, 3, none⟩ = some (.int .i64 0) := cell_heap er rfl
         have d4 : w3.cell? ⟨w.heap.size + 1 + 1, 4, none⟩ = some (.int .i64 0) := cell_heap er rfl
         have d5 : w3.cell? ⟨w.heap.size + 1 + 1, 5, none⟩ = some (.slice none 0 0) := cell_heap er rfl
         have g0 := fr_heap er 0
         have g1 := fr_heap er 1
         have g2 := fr_heap er 2
         have g3 := fr_heap er 3
         have g4 := fr_heap er 4
         have g5 := fr_heap er 5
         clear hb3 em ec er))
  obtain ⟨Wb, hWb⟩ : ∃ Wb, Wb = w3.alloc (.cells #[.int .i64 (ep + 1), .int .i64 pk, .int .i64 pm, .int .i64 pg, .int .i64 pd, .slice none 0 0] 49) := ⟨_, rfl⟩
  have bWb : Below w3.heap.size w3 Wb := by rw [hWb]; exact al _ _
  have eWb : Wb.heap[w3.heap.size]? = some (.cells #[.int .i64 (ep + 1), .int .i64 pk, .int .i64 pm, .int .i64 pg, .int .i64 pd, .slice none 0 0] 49 (0, 0)) := by rw [hWb]; exact heap_alloc_new _ _
  have sWb : Wb.heap.size = w3.heap.size + 1 := by rw [hWb]; simp
  rw [← hWb]
  have HW := hid (show Wb.cell? ⟨w.heap.size, 5, none⟩ = some (.slice x n c) ∧ Wb.cell? ⟨w.heap.size + 1, 0, none⟩ = some (.int .i64 1) ∧ Wb.cell? ⟨w.heap.size + 1, 1, none⟩ = some (.int .i64 c0) ∧ Wb.cell? ⟨w.heap.size + 1, 2, none⟩ = some (.bool c1) ∧ Wb.cell? ⟨w.heap.size + 1, 3, none⟩ = some (.bool c2) ∧ Wb.cell? ⟨w.heap.size + 1, 4, none⟩ = some (.int .i64 c3) ∧ Wb.cell? ⟨w.heap.size + 1, 5, none⟩ = some (.int .i64 c4) ∧ Wb.cell? ⟨w.heap.size + 1, 6, none⟩ = some (.int .i64 c5) ∧ Wb.cell? ⟨w.heap.size + 1, 7, none⟩ = some (.int .i64 c6) ∧ Wb.cell? ⟨w.heap.size + 1, 8, none⟩ = some (.int .i64 c7) from ⟨keep bWb m5, keep bWb q0, keep bWb q1, keep bWb q2, keep bWb q3, keep bWb q4, keep bWb q5, keep bWb q6, keep bWb q7, keep bWb q8⟩)
  have HRz : Hid (Wb.heap[w.heap.size + 1 + 1]? = some (.cells #[.int .i64 0, .int .i64 0, .int .i64 0, .int .i64 0, .int .i64 0, .slice none 0 0] 49 (0, 0))) := (bWb.block _ l3).trans HE3.out.2.2
  have BWb := hid (on B3.out bWb)
  have HA0 : Hid (AddAt w.heap.size Wb Wb w3.heap.size (ep + 1) pk pm pg pd (.slice none 0 0) (built (⟨c0, c1, c2, c3, c4, c5, c6, c7⟩ : Osd) L at_ 0)) := by
    rw [built_zero]
    exact ⟨eWb, Own.nil _ _ _ _ _, Turns.refl _ _, fun g hg => (by cases hg), by omega, BWb.out.size⟩
  clear hWb bWb eWb m0 m1 m2 m3 m4 m5 q0 q1 q2 q3 q4 q5 q6 q7 q8 d0 d1 d2 d3 d4 d5 g0 g1 g2 g3 g4 g5
  go_loopw [9, 8] (fun i dn wr => ∃ k : Nat, k ≤ n ∧ i = .int .i64 k ∧ dn = .bool (decide (at_ < k)) ∧ Hid (∃ R, AddAt w.heap.size Wb wr w3.heap.size (ep + 1) pk pm pg pd R (built (⟨c0, c1, c2, c3, c4, c5, c6, c7⟩ : Osd) L at_ k))) (fun i _ _ => n - (intOf i).toNat)
  case atStart => exact ⟨0, by omega, rfl, by simp, _, HA0.out⟩
  case round =>
    obtain ⟨k, hkn, rfl, rfl, HR⟩ := hrel
    obtain ⟨R, hR⟩ := HR.out
    have HR1 := hid hR
    have m5 := hR.cell (by omega) HW.out.1
    have q0 := hR.cell (by omega) HW.out.2.1
    have q1 := hR.cell (by omega) HW.out.2.2.1
    have q2 := hR.cell (by omega) HW.out.2.2.2.1
    have q3 := hR.cell (by omega) HW.out.2.2.2.2.1
    have q4 := hR.cell (by omega) HW.out.2.2.2.2.2.1
    have q5 := hR.cell (by omega) HW.out.2.2.2.2.2.2.1
    have q6 := hR.cell (by omega) HW.out.2.2.2.2.2.2.2.1
    have q7 := hR.cell (by omega) HW.out.2.2.2.2.2.2.2.2.1
    have q8 := hR.cell (by omega) HW.out.2.2.2.2.2.2.2.2.2
    obtain ⟨y, yc, hRe, _⟩ := hR.own.form
    obtain ⟨ln, hln⟩ : ∃ ln, ln = (built (⟨c0, c1, c2, c3, c4, c5, c6, c7⟩ : Osd) L at_ k).length := ⟨_, rfl⟩
    rw [← hln] at hRe
    subst hRe
    have HLn := hid hln
    have hlb : ln ≤ k + 1 := by rw [hln]; exact built_len HL.out hkn
    have HR1 := hid hR
    have n5 : wr.cell? ⟨w3.heap.size, 5, none⟩ = some (.slice y ln yc) := cell_heap hR.blk rfl
    clear hR hln
    by_cases hlt : k < n
    · have hkI : (k : Int) < (n : Int) := by omega
      obtain ⟨a, ha⟩ : ∃ a, L[k]? = some a := ⟨L[k]'(by have := HL.out; omega), List.getElem?_eq_getElem (by have := HL.out; omega)⟩
      rcases (HS.out Wb BWb.out).row with h0 | ⟨b, ob, rfl, hbl0, hcell⟩
      · omega
      have hbl : b < w.heap.size := by
        rcases (HS.out w (Below.refl _ _)).row with h0 | ⟨b', ob', e, hbl', _⟩
        · omega
        · injection e with e
          injection e with e1 _ _
          rw [e1]; exact hbl'
      have hu := Os.at (n := n) (c := c) hcell ha
      have HU := hid hu
      have HAa := hid ha
      have t0 := HR1.out.cell (by omega) hu.1
      clear hcell hu ha hbl0
      obtain ⟨a0, a1, a2, a3, a4, a5, a6, a7⟩ := a
      dsimp only at HU t0
      by_cases hA : at_ < k
      · have hdn : decide (at_ < k) = true := decide_eq_true hA
        go_wp2_with fail
        go_quiet (fail)
        obtain ⟨wE, hwE⟩ : ∃ wE, wE = wr.drewN nq := ⟨_, rfl⟩
        have hRE : AddAt w.heap.size Wb wE w3.heap.size (ep + 1) pk pm pg pd (.slice y ln yc) (built (⟨c0, c1, c2, c3, c4, c5, c6, c7⟩ : Osd) L at_ k) := by rw [hwE]; exact HR1.out.below (bel_drewN _ _)
        rw [← hwE]
        clear hwE
        go_wp2_with fail
        obtain ⟨wD, hwD⟩ : ∃ wD, wD = (wE).drew := ⟨_, rfl⟩
        have hD : AddAt w.heap.size Wb wD w3.heap.size (ep + 1) pk pm pg pd (.slice y ln yc) (built (⟨c0, c1, c2, c3, c4, c5, c6, c7⟩ : Osd) L at_ k) := by rw [hwD]; exact hRE.below (Below.refl _ _).drew
        have HWD := hid hwD.symm
        clear hwD
        have n5 : wD.cell? ⟨w3.heap.size, 5, none⟩ = some (.slice y ln yc) := cell_heap hD.blk rfl
        have m5 := hD.cell (by omega) HW.out.1
        have u0 := hD.cell (by omega) HU.out.1
        have u1 := hD.cell (by omega) HU.out.2.1
        have u2 := hD.cell (by omega) HU.out.2.2.1
        have u3 := hD.cell (by omega) HU.out.2.2.2.1
        have u4 := hD.cell (by omega) HU.out.2.2.2.2.1
        have u5 := hD.cell (by omega) HU.out.2.2.2.2.2.1
        have u6 := hD.cell (by omega) HU.out.2.2.2.2.2.2.1
        have u7 := hD.cell (by omega) HU.out.2.2.2.2.2.2.2
        obtain ⟨x2, cn2, w5, hr2, P2⟩ := push1 hD.own ⟨a0, a1, a2, a3, a4, a5, a6, a7⟩ (by have := hD.turns.size; have := hD.big; omega) (by rw [← HLn.out]; omega)
        rw [← HLn.out] at hr2 P2
        have bN := al wD (.cells #[.int .i64 a0, .bool a1, .bool a2, .int .i64 a3, .int .i64 a4, .int .i64 a5, .int .i64 a6, .int .i64 a7] 53)
        have Tn := P2.out.2.1
        have st2 := hD.step P2.out.1 P2.out.2.1 P2.out.2.2
        have HST := hid st2
        have bb := hD.boxAt Tn
        have f5 := fr_heap bb 5
        have lD := hD.turns.size
        have p0 := hD.other Tn (by omega) n5
        have p1 := hD.other Tn (by omega) m5
        have p2 := hD.other Tn (by omega) u0
        have p3 := hD.other Tn (by omega) u1
        have p4 := hD.other Tn (by omega) u2
        have p5 := hD.other Tn (by omega) u3
        have p6 := hD.other Tn (by omega) u4
        have p7 := hD.other Tn (by omega) u5
        have p8 := hD.other Tn (by omega) u6
        have p9 := hD.other Tn (by omega) u7
        have HN := hid (show _ from (⟨keep bN n5, keep bN m5, keep bN u0, keep bN u1, keep bN u2, keep bN u3, keep bN u4, keep bN u5, keep bN u6, keep bN u7⟩ : _ ∧ _ ∧ _ ∧ _ ∧ _ ∧ _ ∧ _ ∧ _ ∧ _ ∧ _))
        clear st2 bb Tn bN hD P2
        refine wp_region_last (fun v => v.cell? ⟨w3.heap.size, 5, none⟩ = some (.slice y ln yc) ∧ v.cell? ⟨w.heap.size, 5, none⟩ = some (.slice (some ⟨b, ob, none⟩) n c) ∧ v.cell? ⟨b, ob + k * 8, none⟩ = some (.int .i64 a0) ∧ v.cell? ⟨b, ob + k * 8 + 1, none⟩ = some (.bool a1) ∧ v.cell? ⟨b, ob + k * 8 + 2, none⟩ = some (.bool a2) ∧ v.cell? ⟨b, ob + k * 8 + 3, none⟩ = some (.int .i64 a3) ∧ v.cell? ⟨b, ob + k * 8 + 4, none⟩ = some (.int .i64 a4) ∧ v.cell? ⟨b, ob + k * 8 + 5, none⟩ = some (.int .i64 a5) ∧ v.cell? ⟨b, ob + k * 8 + 6, none⟩ = some (.int .i64 a6) ∧ v.cell? ⟨b, ob + k * 8 + 7, none⟩ = some (.int .i64 a7)) 10 (by kernel_rfl) (by rw [HWD.out]; exact ⟨n5, m5, u0, u1, u2, u3, u4, u5, u6, u7⟩) (fun hS => ?_)
        rw [HWD.out] at hS ⊢
        clear n5 m5 u0 u1 u2 u3 u4 u5 u6 u7
        refine By.lk 0 ?_
        refine By.lk 1 ?_
        refine By.lk 2 ?_
        refine By.lk 3 ?_
        refine By.lk 4 ?_
        refine By.lk 5 ?_
        refine By.lk 6 ?_
        refine wpAnyL_one (i := 7) (by kernel_rfl) rfl (fun K hK => ?_)
        go_simp
        refine hK.out _ _ (fun _ => HN.out) ?_
        clear hK K
        refine wpAnyL_one (i := 8) (by kernel_rfl) rfl (fun K hK => ?_)
        refine st_append rfl _ _ 47 rfl _ _ rfl rfl hr2 ?_
        (try simp only [Act.put, List.getElem_toArray, List.getElem_cons_succ, List.getElem_cons_zero, List.setIfInBounds_toArray, List.set_cons_zero, List.set_cons_succ])
        refine hK.out _ _ (fun _ => ⟨p0, p1, p2, p3, p4, p5, p6, p7, p8, p9⟩) ?_
        clear hK K
        refine wpAnyL_one (i := 9) (by kernel_rfl) rfl (fun K hK => ?_)
        go_simp
        refine hK.out _ _ (fun _ => ⟨p0, p1, p2, p3, p4, p5, p6, p7, p8, p9⟩) ?_
        clear hK K
        refine wpAnyL_one (i := 10) (by kernel_rfl) rfl (fun K hK => ?_)
        go_simp
        refine hK.out _ _ (fun h => absurd rfl h) ?_
        clear hK K
        refine wpAnyL_done (by kernel_rfl) ?_ _
        go_wp2_with fail
        go_roundw
        case rel => exact ⟨k + 1, by omega, by go_num, by simp; omega, _, by rw [built_high hA HAa.out]; exact HST.out⟩
        case measure => simp [intOf]; omega
      · by_cases hB : k < at_
        · have hdn : decide (at_ < k) = false := decide_eq_false hA
          have hov : ¬ c0 < a0 := by have := HOl.out k _ hB HAa.out; dsimp only at this; omega
          go_wp2_with fail
          go_quiet (fail)
          obtain ⟨wE, hwE⟩ : ∃ wE, wE = wr.drewN nq := ⟨_, rfl⟩
          have hRE : AddAt w.heap.size Wb wE w3.heap.size (ep + 1) pk pm pg pd (.slice y ln yc) (built (⟨c0, c1, c2, c3, c4, c5, c6, c7⟩ : Osd) L at_ k) := by rw [hwE]; exact HR1.out.below (bel_drewN _ _)
          rw [← hwE]
          clear hwE
          go_wp2_with fail
          obtain ⟨wD, hwD⟩ : ∃ wD, wD = (wE).drew := ⟨_, rfl⟩
          have hD : AddAt w.heap.size Wb wD w3.heap.size (ep + 1) pk pm pg pd (.slice y ln yc) (built (⟨c0, c1, c2, c3, c4, c5, c6, c7⟩ : Osd) L at_ k) := by rw [hwD]; exact hRE.below (Below.refl _ _).drew
          have HWD := hid hwD.symm
          clear hwD
          have n5 : wD.cell? ⟨w3.heap.size, 5, none⟩ = some (.slice y ln yc) := cell_heap hD.blk rfl
          have m5 := hD.cell (by omega) HW.out.1
          have u0 := hD.cell (by omega) HU.out.1
          have u1 := hD.cell (by omega) HU.out.2.1
          have u2 := hD.cell (by omega) HU.out.2.2.1
          have u3 := hD.cell (by omega) HU.out.2.2.2.1
          have u4 := hD.cell (by omega) HU.out.2.2.2.2.1
          have u5 := hD.cell (by omega) HU.out.2.2.2.2.2.1
          have u6 := hD.cell (by omega) HU.out.2.2.2.2.2.2.1
          have u7 := hD.cell (by omega) HU.out.2.2.2.2.2.2.2
          obtain ⟨x2, cn2, w5, hr2, P2⟩ := push1 hD.own ⟨a0, a1, a2, a3, a4, a5, a6, a7⟩ (by have := hD.turns.size; have := hD.big; omega) (by rw [← HLn.out]; omega)
          rw [← HLn.out] at hr2 P2
          have bN := al wD (.cells #[.int .i64 a0, .bool a1, .bool a2, .int .i64 a3, .int .i64 a4, .int .i64 a5, .int .i64 a6, .int .i64 a7] 53)
          have Tn := P2.out.2.1
          have st2 := hD.step P2.out.1 P2.out.2.1 P2.out.2.2
          have HST := hid st2
          have bb := hD.boxAt Tn
          have f5 := fr_heap bb 5
          have lD := hD.turns.size
          have p0 := hD.other Tn (by omega) n5
          have p1 := hD.other Tn (by omega) m5
          have p2 := hD.other Tn (by omega) u0
          have p3 := hD.other Tn (by omega) u1
          have p4 := hD.other Tn (by omega) u2
          have p5 := hD.other Tn (by omega) u3
          have p6 := hD.other Tn (by omega) u4
          have p7 := hD.other Tn (by omega) u5
          have p8 := hD.other Tn (by omega) u6
          have p9 := hD.other Tn (by omega) u7
          have HN := hid (show _ from (⟨keep bN n5, keep bN m5, keep bN u0, keep bN u1, keep bN u2, keep bN u3, keep bN u4, keep bN u5, keep bN u6, keep bN u7⟩ : _ ∧ _ ∧ _ ∧ _ ∧ _ ∧ _ ∧ _ ∧ _ ∧ _ ∧ _))
          clear st2 bb Tn bN hD P2
          refine wp_region_last (fun v => v.cell? ⟨w3.heap.size, 5, none⟩ = some (.slice y ln yc) ∧ v.cell? ⟨w.heap.size, 5, none⟩ = some (.slice (some ⟨b, ob, none⟩) n c) ∧ v.cell? ⟨b, ob + k * 8, none⟩ = some (.int .i64 a0) ∧ v.cell? ⟨b, ob + k * 8 + 1, none⟩ = some (.bool a1) ∧ v.cell? ⟨b, ob + k * 8 + 2, none⟩ = some (.bool a2) ∧ v.cell? ⟨b, ob + k * 8 + 3, none⟩ = some (.int .i64 a3) ∧ v.cell? ⟨b, ob + k * 8 + 4, none⟩ = some (.int .i64 a4) ∧ v.cell? ⟨b, ob + k * 8 + 5, none⟩ = some (.int .i64 a5) ∧ v.cell? ⟨b, ob + k * 8 + 6, none⟩ = some (.int .i64 a6) ∧ v.cell? ⟨b, ob + k * 8 + 7, none⟩ = some (.int .i64 a7)) 10 (by kernel_rfl) (by rw [HWD.out]; exact ⟨n5, m5, u0, u1, u2, u3, u4, u5, u6, u7⟩) (fun hS => ?_)
          rw [HWD.out] at hS ⊢
          clear n5 m5 u0 u1 u2 u3 u4 u5 u6 u7
          refine By.lk 0 ?_
          refine By.lk 1 ?_
          refine By.lk 2 ?_
          refine By.lk 3 ?_
          refine By.lk 4 ?_
          refine By.lk 5 ?_
          refine By.lk 6 ?_
          refine wpAnyL_one (i := 7) (by kernel_rfl) rfl (fun K hK => ?_)
          go_simp
          refine hK.out _ _ (fun _ => HN.out) ?_
          clear hK K
          refine wpAnyL_one (i := 8) (by kernel_rfl) rfl (fun K hK => ?_)
          refine st_append rfl _ _ 47 rfl _ _ rfl rfl hr2 ?_
          (try simp only [Act.put, List.getElem_toArray, List.getElem_cons_succ, List.getElem_cons_zero, List.setIfInBounds_toArray, List.set_cons_zero, List.set_cons_succ])
          refine hK.out _ _ (fun _ => ⟨p0, p1, p2, p3, p4, p5, p6, p7, p8, p9⟩) ?_
          clear hK K
          refine wpAnyL_one (i := 9) (by kernel_rfl) rfl (fun K hK => ?_)
          go_simp
          refine hK.out _ _ (fun _ => ⟨p0, p1, p2, p3, p4, p5, p6, p7, p8, p9⟩) ?_
          clear hK K
          refine wpAnyL_one (i := 10) (by kernel_rfl) rfl (fun K hK => ?_)
          go_simp
          refine hK.out _ _ (fun h => absurd rfl h) ?_
          clear hK K
          refine wpAnyL_done (by kernel_rfl) ?_ _
          go_wp2_with fail
          go_roundw
          case rel => exact ⟨k + 1, by omega, by go_num, by simp; omega, _, by rw [built_low hB HAa.out]; exact HST.out⟩
          case measure => simp [intOf]; omega
        · obtain rfl : k = at_ := by omega
          have hdn : decide (k < k) = false := decide_eq_false hA
          have hov : c0 < a0 := by have := HOa.out _ HAa.out; dsimp only at this; omega
          go_wp2_with fail
          go_quiet (fail)
          obtain ⟨wE, hwE⟩ : ∃ wE, wE = wr.drewN nq := ⟨_, rfl⟩
          have hRE : AddAt w.heap.size Wb wE w3.heap.size (ep + 1) pk pm pg pd (.slice y ln yc) (built (⟨c0, c1, c2, c3, c4, c5, c6, c7⟩ : Osd) L k k) := by rw [hwE]; exact HR1.out.below (bel_drewN _ _)
          rw [← hwE]
          clear hwE
          have m5e := hRE.cell (by omega) HW.out.1
          have q0 := hRE.cell (by omega) HW.out.2.1
          have q1 := hRE.cell (by omega) HW.out.2.2.1
          have q2 := hRE.cell (by omega) HW.out.2.2.2.1
          have q3 := hRE.cell (by omega) HW.out.2.2.2.2.1
          have q4 := hRE.cell (by omega) HW.out.2.2.2.2.2.1
          have q5 := hRE.cell (by omega) HW.out.2.2.2.2.2.2.1
          have q6 := hRE.cell (by omega) HW.out.2.2.2.2.2.2.2.1
          have q7 := hRE.cell (by omega) HW.out.2.2.2.2.2.2.2.2.1
          have q8 := hRE.cell (by omega) HW.out.2.2.2.2.2.2.2.2.2
          have n5e : wE.cell? ⟨w3.heap.size, 5, none⟩ = some (.slice y ln yc) := cell_heap hRE.blk rfl
          obtain ⟨x1, cn1, w4, hr1, P1⟩ := push1 hRE.own (⟨c0, c1, c2, c3, c4, c5, c6, c7⟩ : Osd) (by have := hRE.turns.size; have := hRE.big; omega) (by rw [← HLn.out]; omega)
          rw [← HLn.out] at hr1 P1
          have st1 := hRE.step P1.out.1 P1.out.2.1 P1.out.2.2
          have HST1 := hid st1
          have bb1 := hRE.boxAt P1.out.2.1
          have n5f : w4.cell? ⟨w3.heap.size, 5, none⟩ = some (.slice y ln yc) := cell_heap bb1 rfl
          have f51 := fr_heap bb1 5
          have lE := hRE.turns.size
          clear st1 bb1
          go_wp2_with (at_builtin; refine Lib.wpList_append_run _ rfl _ _ _ _ rfl _ _ rfl rfl _ _ hr1 ?_)
          have HLn0 := HLn
          obtain ⟨ln1, hln1⟩ : ∃ l, l = ln + 1 := ⟨_, rfl⟩
          rw [← hln1] at HST1 ⊢
          have HLn : Hid (ln1 = (built (⟨c0, c1, c2, c3, c4, c5, c6, c7⟩ : Osd) L k k ++ [(⟨c0, c1, c2, c3, c4, c5, c6, c7⟩ : Osd)]).length) := hid (by rw [hln1, List.length_append, ← HLn0.out]; rfl)
          have hlb1 : ln1 ≤ k + 2 := by omega
          clear hln1
          obtain ⟨wD, hwD⟩ : ∃ wD, wD = (w4.setCell ⟨w3.heap.size, 5, none⟩ (.slice x1 ln1 cn1)).drew := ⟨_, rfl⟩
          have hD : AddAt w.heap.size Wb wD w3.heap.size (ep + 1) pk pm pg pd (.slice x1 ln1 cn1) (built (⟨c0, c1, c2, c3, c4, c5, c6, c7⟩ : Osd) L k k ++ [(⟨c0, c1, c2, c3, c4, c5, c6, c7⟩ : Osd)]) := by rw [hwD]; exact HST1.out.below (Below.refl _ _).drew
          have HWD := hid hwD.symm
          clear hwD
          have n5 : wD.cell? ⟨w3.heap.size, 5, none⟩ = some (.slice x1 ln1 cn1) := cell_heap hD.blk rfl
          have m5 := hD.cell (by omega) HW.out.1
          have u0 := hD.cell (by omega) HU.out.1
          have u1 := hD.cell (by omega) HU.out.2.1
          have u2 := hD.cell (by omega) HU.out.2.2.1
          have u3 := hD.cell (by omega) HU.out.2.2.2.1
          have u4 := hD.cell (by omega) HU.out.2.2.2.2.1
          have u5 := hD.cell (by omega) HU.out.2.2.2.2.2.1
          have u6 := hD.cell (by omega) HU.out.2.2.2.2.2.2.1
          have u7 := hD.cell (by omega) HU.out.2.2.2.2.2.2.2
          obtain ⟨x2, cn2, w5, hr2, P2⟩ := push1 hD.own ⟨a0, a1, a2, a3, a4, a5, a6, a7⟩ (by have := hD.turns.size; have := hD.big; omega) (by rw [← HLn.out]; omega)
          rw [← HLn.out] at hr2 P2
          have bN := al wD (.cells #[.int .i64 a0, .bool a1, .bool a2, .int .i64 a3, .int .i64 a4, .int .i64 a5, .int .i64 a6, .int .i64 a7] 53)
          have Tn := P2.out.2.1
          have st2 := hD.step P2.out.1 P2.out.2.1 P2.out.2.2
          have HST := hid st2
          have bb := hD.boxAt Tn
          have f5 := fr_heap bb 5
          have lD := hD.turns.size
          have p0 := hD.other Tn (by omega) n5
          have p1 := hD.other Tn (by omega) m5
          have p2 := hD.other Tn (by omega) u0
          have p3 := hD.other Tn (by omega) u1
          have p4 := hD.other Tn (by omega) u2
          have p5 := hD.other Tn (by omega) u3
          have p6 := hD.other Tn (by omega) u4
          have p7 := hD.other Tn (by omega) u5
          have p8 := hD.other Tn (by omega) u6
          have p9 := hD.other Tn (by omega) u7
          have HN := hid (show _ from (⟨keep bN n5, keep bN m5, keep bN u0, keep bN u1, keep bN u2, keep bN u3, keep bN u4, keep bN u5, keep bN u6, keep bN u7⟩ : _ ∧ _ ∧ _ ∧ _ ∧ _ ∧ _ ∧ _ ∧ _ ∧ _ ∧ _))
          clear st2 bb Tn bN hD P2
          refine wp_region_last (fun v => v.cell? ⟨w3.heap.size, 5, none⟩ = some (.slice x1 ln1 cn1) ∧ v.cell? ⟨w.heap.size, 5, none⟩ = some (.slice (some ⟨b, ob, none⟩) n c) ∧ v.cell? ⟨b, ob + k * 8, none⟩ = some (.int .i64 a0) ∧ v.cell? ⟨b, ob + k * 8 + 1, none⟩ = some (.bool a1) ∧ v.cell? ⟨b, ob + k * 8 + 2, none⟩ = some (.bool a2) ∧ v.cell? ⟨b, ob + k * 8 + 3, none⟩ = some (.int .i64 a3) ∧ v.cell? ⟨b, ob + k * 8 + 4, none⟩ = some (.int .i64 a4) ∧ v.cell? ⟨b, ob + k * 8 + 5, none⟩ = some (.int .i64 a5) ∧ v.cell? ⟨b, ob + k * 8 + 6, none⟩ = some (.int .i64 a6) ∧ v.cell? ⟨b, ob + k * 8 + 7, none⟩ = some (.int .i64 a7)) 10 (by kernel_rfl) (by rw [HWD.out]; exact ⟨n5, m5, u0, u1, u2, u3, u4, u5, u6, u7⟩) (fun hS => ?_)
          rw [HWD.out] at hS ⊢
          clear n5 m5 u0 u1 u2 u3 u4 u5 u6 u7
          refine By.lk 0 ?_
          refine By.lk 1 ?_
          refine By.lk 2 ?_
          refine By.lk 3 ?_
          refine By.lk 4 ?_
          refine By.lk 5 ?_
          refine By.lk 6 ?_
          refine wpAnyL_one (i := 7) (by kernel_rfl) rfl (fun K hK => ?_)
          go_simp
          refine hK.out _ _ (fun _ => HN.out) ?_
          clear hK K
          refine wpAnyL_one (i := 8) (by kernel_rfl) rfl (fun K hK => ?_)
          refine st_append rfl _ _ 47 rfl _ _ rfl rfl hr2 ?_
          (try simp only [Act.put, List.getElem_toArray, List.getElem_cons_succ, List.getElem_cons_zero, List.setIfInBounds_toArray, List.set_cons_zero, List.set_cons_succ])
          refine hK.out _ _ (fun _ => ⟨p0, p1, p2, p3, p4, p5, p6, p7, p8, p9⟩) ?_
          clear hK K
          refine wpAnyL_one (i := 9) (by kernel_rfl) rfl (fun K hK => ?_)
          go_simp
          refine hK.out _ _ (fun _ => ⟨p0, p1, p2, p3, p4, p5, p6, p7, p8, p9⟩) ?_
          clear hK K
          refine wpAnyL_one (i := 10) (by kernel_rfl) rfl (fun K hK => ?_)
          go_simp
          refine hK.out _ _ (fun h => absurd rfl h) ?_
          clear hK K
          refine wpAnyL_done (by kernel_rfl) ?_ _
          go_wp2_with fail
          go_roundw
          case rel => exact ⟨k + 1, by omega, by go_num, by simp, _, by rw [built_at HAa.out]; exact HST.out⟩
          case measure => simp [intOf]; omega
    · obtain rfl : k = n := by omega
      by_cases hA : at_ < k
      · have hdn : decide (at_ < k) = true := decide_eq_true hA
        have HBd : Hid (built (⟨c0, c1, c2, c3, c4, c5, c6, c7⟩ : Osd) L at_ k = L.take at_ ++ (⟨c0, c1, c2, c3, c4, c5, c6, c7⟩ : Osd) :: L.drop at_) := built_end HL.out hA
        have z0 : (wr).cell? ⟨w3.heap.size, 0, none⟩ = some (.int .i64 (ep + 1)) := cell_heap HR1.out.blk rfl
        have z1 : (wr).cell? ⟨w3.heap.size, 1, none⟩ = some (.int .i64 pk) := cell_heap HR1.out.blk rfl
        have z2 : (wr).cell? ⟨w3.heap.size, 2, none⟩ = some (.int .i64 pm) := cell_heap HR1.out.blk rfl
        have z3 : (wr).cell? ⟨w3.heap.size, 3, none⟩ = some (.int .i64 pg) := cell_heap HR1.out.blk rfl
        have z4 : (wr).cell? ⟨w3.heap.size, 4, none⟩ = some (.int .i64 pd) := cell_heap HR1.out.blk rfl
        have z5 : (wr).cell? ⟨w3.heap.size, 5, none⟩ = some (.slice y ln yc) := cell_heap HR1.out.blk rfl
        have rz : (wr).heap[w.heap.size + 1 + 1]? = some (.cells #[.int .i64 0, .int .i64 0, .int .i64 0, .int .i64 0, .int .i64 0, .slice none 0 0] 49 (0, 0)) := (HR1.out.turns.block _ (Array.getElem?_eq_some_iff.1 HRz.out).1 (by omega)).trans HRz.out
        have HRZ := hid rz
        have hbW : Below w.heap.size w (wr) := BWb.out.trans (HR1.out.turns.below (B := w.heap.size) (fun k hk => by omega) (by omega))
        have HbW := hid hbW
        have hMy := hRM (wr) y ln yc (by rw [HIn.out, ← HBd.out]; exact own_os HR1.out.own (by rw [← HLn.out]; omega))
        have HOw := hid HR1.out
        clear rz hbW
        cases tm with
        | true =>
          go_wp2_with (
             go_at_call 24; refine hMy.mono ?_; rintro e w6 ⟨rfl, hb6⟩; clear hMy
             have y0 := keep hb6 z0
             have y1 := keep hb6 z1
             have y2 := keep hb6 z2
             have y3 := keep hb6 z3
             have y4 := keep hb6 z4
             have y5 := keep hb6 z5
             have rz6 := (hb6.block _ (Array.getElem?_eq_some_iff.1 HRZ.out).1).trans HRZ.out
             have d0 : w6.cell? ⟨w.heap.size + 1 + 1, 0, none⟩ = some (.int .i64 0) := cell_heap rz6 rfl
             have d1 : w6.cell? ⟨w.heap.size + 1 + 1, 1, none⟩ = some (.int .i64 0) := cell_heap rz6 rfl
             have d2 : w6.cell? ⟨w.heap.size + 1 + 1, 2, none⟩ = some (.int .i64 0) := cell_heap rz6 rfl
             have d3 : w6.cell? ⟨w.heap.size + 1 + 1, 3, none⟩ = some (.int .i64 0) := cell_heap rz6 rfl
             have d4 : w6.cell? ⟨w.heap.size + 1 + 1, 4, none⟩ = some (.int .i64 0) := cell_heap rz6 rfl
             have d5 : w6.cell? ⟨w.heap.size + 1 + 1, 5, none⟩ = some (.slice none 0 0) := cell_heap rz6 rfl
             have g0 := fr_heap rz6 0
             have g1 := fr_heap rz6 1
             have g2 := fr_heap rz6 2
             have g3 := fr_heap rz6 3
             have g4 := fr_heap rz6 4
             have g5 := fr_heap rz6 5
             have l6 : w.heap.size + 1 + 1 < w6.heap.size := cell_lt' d0
             have l7 : w3.heap.size < w6.heap.size := cell_lt' y0
             have B6 := hid (on HbW.out hb6)
             have Hb6 := hid hb6
             clear hb6 rz6)
          refine bodyPost_ret (v := .tuple #[.agg #[.int .i64 0, .int .i64 0, .int .i64 0, .int .i64 0, .int .i64 0, .slice none 0 0], .int .i64 1]) ?_ rfl ?_
          · rw [results_cell2 rfl]
            go_simp
          · rw [HA1.out trivial]
            refine ⟨none, 0, 0, rfl, ?_, os_none _, fun a e => by cases e⟩
            repeat (first | with_reducible exact B6.out | (with_reducible refine Below.setCell ?_ (by first | (simp; done) | (simp; omega) | omega) _) | (with_reducible refine Below.alloc ?_ (by first | (simp; done) | (simp; omega) | omega) _))
        | false =>
          go_wp2_with (
             go_at_call 24; refine hMy.mono ?_; rintro e w6 ⟨rfl, hb6⟩; clear hMy
             have y0 := keep hb6 z0
             have y1 := keep hb6 z1
             have y2 := keep hb6 z2
             have y3 := keep hb6 z3
             have y4 := keep hb6 z4
             have y5 := keep hb6 z5
             have rz6 := (hb6.block _ (Array.getElem?_eq_some_iff.1 HRZ.out).1).trans HRZ.out
             have d0 : w6.cell? ⟨w.heap.size + 1 + 1, 0, none⟩ = some (.int .i64 0) := cell_heap rz6 rfl
             have d1 : w6.cell? ⟨w.heap.size + 1 + 1, 1, none⟩ = some (.int .i64 0) := cell_heap rz6 rfl
             have d2 : w6.cell? ⟨w.heap.size + 1 + 1, 2, none⟩ = some (.int .i64 0) := cell_heap rz6 rfl
             have d3 : w6.cell? ⟨w.heap.size + 1 + 1, 3, none⟩ = some (.int .i64 0) := cell_heap rz6 rfl
             have d4 : w6.cell? ⟨w.heap.size + 1 + 1, 4, none⟩ = some (.int .i64 0) := cell_heap rz6 rfl
             have d5 : w6.cell? ⟨w.heap.size + 1 + 1, 5, none⟩ = some (.slice none 0 0) := cell_heap rz6 rfl
             have g0 := fr_heap rz6 0
             have g1 := fr_heap rz6 1
             have g2 := fr_heap rz6 2
             have g3 := fr_heap rz6 3
             have g4 := fr_heap rz6 4
             have g5 := fr_heap rz6 5
             have l6 : w.heap.size + 1 + 1 < w6.heap.size := cell_lt' d0
             have l7 : w3.heap.size < w6.heap.size := cell_lt' y0
             have B6 := hid (on HbW.out hb6)
             have Hb6 := hid hb6
             clear hb6 rz6)
          refine bodyPost_ret (v := .tuple #[.agg #[.int .i64 (ep + 1), .int .i64 pk, .int .i64 pm, .int .i64 pg, .int .i64 pd, .slice y ln yc], .int .i64 0]) ?_ rfl ?_
          · rw [results_cell2 rfl]
            go_simp
          · rw [HA2.out trivial]
            have Tz := turns_put (turns_put (turns_put (turns_put (turns_put (turns_put (Turns.refl (fun k => k = w.heap.size + 1 + 1) w6) 0 (.int .i64 (ep + 1))) 1 (.int .i64 pk)) 2 (.int .i64 pm)) 3 (.int .i64 pg)) 4 (.int .i64 pd)) 5 (.slice y ln yc)
            refine ⟨y, ln, yc, rfl, ?_, ?_, fun a e => ?_⟩
            · repeat (first | with_reducible exact B6.out | (with_reducible refine Below.setCell ?_ (by first | (simp; done) | (simp; omega) | omega) _) | (with_reducible refine Below.alloc ?_ (by first | (simp; done) | (simp; omega) | omega) _))
            · have ow := (HOw.out.own.below Hb6.out).turns Tz (fun g hg e => by have := HOw.out.new g hg; omega)
              rw [HBd.out, ← HIn.out] at ow
              exact own_os ow (by rw [HIn.out, ← HBd.out, ← HLn.out]; omega)
            · obtain ⟨x9, c9, e9, _, _, h9⟩ := HOw.out.own.form
              injection e9 with e91 e92 e93
              obtain ⟨g9, rfl, hB9, _⟩ := h9 a (by rw [← e91]; exact e)
              have := HOw.out.new g9 (by rw [e]; rfl)
              show w.heap.size ≤ g9
              omega
      · obtain rfl : k = at_ := by omega
        have hdn : decide (k < k) = false := decide_eq_false hA
        obtain ⟨x1, cn1, w4, hr1, P1⟩ := push1 HR1.out.own (⟨c0, c1, c2, c3, c4, c5, c6, c7⟩ : Osd) (by have := HR1.out.turns.size; have := HR1.out.big; omega) (by rw [← HLn.out]; omega)
        rw [← HLn.out] at hr1 P1
        have HBd : Hid (built (⟨c0, c1, c2, c3, c4, c5, c6, c7⟩ : Osd) L k k ++ [(⟨c0, c1, c2, c3, c4, c5, c6, c7⟩ : Osd)] = L.take k ++ (⟨c0, c1, c2, c3, c4, c5, c6, c7⟩ : Osd) :: L.drop k) := built_last HL.out
        have st1 := HR1.out.step P1.out.1 P1.out.2.1 P1.out.2.2
        have HST1 := hid st1
        have bb1 := HR1.out.boxAt P1.out.2.1
        have n5f : w4.cell? ⟨w3.heap.size, 5, none⟩ = some (.slice y ln yc) := cell_heap bb1 rfl
        have f51 := fr_heap bb1 5
        have lE := HR1.out.turns.size
        have n0f : w4.cell? ⟨w3.heap.size, 0, none⟩ = some (.int .i64 (ep + 1)) := cell_heap bb1 rfl
        have n1f : w4.cell? ⟨w3.heap.size, 1, none⟩ = some (.int .i64 pk) := cell_heap bb1 rfl
        have n2f : w4.cell? ⟨w3.heap.size, 2, none⟩ = some (.int .i64 pm) := cell_heap bb1 rfl
        have n3f : w4.cell? ⟨w3.heap.size, 3, none⟩ = some (.int .i64 pg) := cell_heap bb1 rfl
        have n4f : w4.cell? ⟨w3.heap.size, 4, none⟩ = some (.int .i64 pd) := cell_heap bb1 rfl
        have HLn0 := HLn
        obtain ⟨ln1, hln1⟩ : ∃ l, l = ln + 1 := ⟨_, rfl⟩
        rw [← hln1] at HST1 hr1
        have HLn : Hid (ln1 = (built (⟨c0, c1, c2, c3, c4, c5, c6, c7⟩ : Osd) L k k ++ [(⟨c0, c1, c2, c3, c4, c5, c6, c7⟩ : Osd)]).length) := hid (by rw [hln1, List.length_append, ← HLn0.out]; rfl)
        have hlb1 : ln1 ≤ k + 2 := by omega
        clear st1 bb1 hln1
        obtain ⟨wF, hwF⟩ : ∃ wF, wF = w4.setCell ⟨w3.heap.size, 5, none⟩ (.slice x1 ln1 cn1) := ⟨_, rfl⟩
        have hF : AddAt w.heap.size Wb wF w3.heap.size (ep + 1) pk pm pg pd (.slice x1 ln1 cn1) (built (⟨c0, c1, c2, c3, c4, c5, c6, c7⟩ : Osd) L k k ++ [(⟨c0, c1, c2, c3, c4, c5, c6, c7⟩ : Osd)]) := by rw [hwF]; exact HST1.out
        have HWF := hid hwF.symm
        clear hwF
        have z0 : (wF).cell? ⟨w3.heap.size, 0, none⟩ = some (.int .i64 (ep + 1)) := cell_heap hF.blk rfl
        have z1 : (wF).cell? ⟨w3.heap.size, 1, none⟩ = some (.int .i64 pk) := cell_heap hF.blk rfl
        have z2 : (wF).cell? ⟨w3.heap.size, 2, none⟩ = some (.int .i64 pm) := cell_heap hF.blk rfl
        have z3 : (wF).cell? ⟨w3.heap.size, 3, none⟩ = some (.int .i64 pg) := cell_heap hF.blk rfl
        have z4 : (wF).cell? ⟨w3.heap.size, 4, none⟩ = some (.int .i64 pd) := cell_heap hF.blk rfl
        have z5 : (wF).cell? ⟨w3.heap.size, 5, none⟩ = some (.slice x1 ln1 cn1) := cell_heap hF.blk rfl
        have rz : (wF).heap[w.heap.size + 1 + 1]? = some (.cells #[.int .i64 0, .int .i64 0, .int .i64 0, .int .i64 0, .int .i64 0, .slice none 0 0] 49 (0, 0)) := (hF.turns.block _ (Array.getElem?_eq_some_iff.1 HRz.out).1 (by omega)).trans HRz.out
        have HRZ := hid rz
        have hbW : Below w.heap.size w (wF) := BWb.out.trans (hF.turns.below (B := w.heap.size) (fun k hk => by omega) (by omega))
        have HbW := hid hbW
        have hMy := hRM (wF) x1 ln1 cn1 (by rw [HIn.out, ← HBd.out]; exact own_os hF.own (by rw [← HLn.out]; omega))
        have HOw := hid hF
        clear rz hbW
        cases tm with
        | true =>
          go_wp2_with (first
            | (at_builtin; refine Lib.wpList_append_run _ rfl _ _ _ _ rfl _ _ rfl rfl _ _ hr1 ?_)
            | (go_at_call 24; rw [HWF.out]; refine hMy.mono ?_; rintro e w6 ⟨rfl, hb6⟩; clear hMy
               have y0 := keep hb6 z0
               have y1 := keep hb6 z1
               have y2 := keep hb6 z2
               have y3 := keep hb6 z3
               have y4 := keep hb6 z4
               have y5 := keep hb6 z5
               have rz6 := (hb6.block _ (Array.getElem?_eq_some_iff.1 HRZ.out).1).trans HRZ.out
               have d0 : w6.cell? ⟨w.heap.size + 1 + 1, 0, none⟩ = some (.int .i64 0) := cell_heap rz6 rfl
               have d1 : w6.cell? ⟨w.heap.size + 1 + 1, 1, none⟩ = some (.int .i64 0) := cell_heap rz6 rfl
               have d2 : w6.cell? ⟨w.heap.size + 1 + 1, 2, none⟩ = some (.int .i64 0) := cell_heap rz6 rfl
               have d3 : w6.cell? ⟨w.heap.size + 1 + 1, 3, none⟩ = some (.int .i64 0) := cell_heap rz6 rfl
               have d4 : w6.cell? ⟨w.heap.size + 1 + 1, 4, none⟩ = some (.int .i64 0) := cell_heap rz6 rfl
               have d5 : w6.cell? ⟨w.heap.size + 1 + 1, 5, none⟩ = some (.slice none 0 0) := cell_heap rz6 rfl
               have g0 := fr_heap rz6 0
               have g1 := fr_heap rz6 1
               have g2 := fr_heap rz6 2
               have g3 := fr_heap rz6 3
               have g4 := fr_heap rz6 4
               have g5 := fr_heap rz6 5
               have l6 : w.heap.size + 1 + 1 < w6.heap.size := cell_lt' d0
               have l7 : w3.heap.size < w6.heap.size := cell_lt' y0
               have B6 := hid (on HbW.out hb6)
               have Hb6 := hid hb6
               clear hb6 rz6))
          refine bodyPost_ret (v := .tuple #[.agg #[.int .i64 0, .int .i64 0, .int .i64 0, .int .i64 0, .int .i64 0, .slice none 0 0], .int .i64 1]) ?_ rfl ?_
          · rw [results_cell2 rfl]
            go_simp
          · rw [HA1.out trivial]
            refine ⟨none, 0, 0, rfl, ?_, os_none _, fun a e => by cases e⟩
            repeat (first | with_reducible exact B6.out | (with_reducible refine Below.setCell ?_ (by first | (simp; done) | (simp; omega) | omega) _) | (with_reducible refine Below.alloc ?_ (by first | (simp; done) | (simp; omega) | omega) _))
        | false =>
          go_wp2_with (first
            | (at_builtin; refine Lib.wpList_append_run _ rfl _ _ _ _ rfl _ _ rfl rfl _ _ hr1 ?_)
            | (go_at_call 24; rw [HWF.out]; refine hMy.mono ?_; rintro e w6 ⟨rfl, hb6⟩; clear hMy
               have y0 := keep hb6 z0
               have y1 := keep hb6 z1
               have y2 := keep hb6 z2
               have y3 := keep hb6 z3
               have y4 := keep hb6 z4
               have y5 := keep hb6 z5
               have rz6 := (hb6.block _ (Array.getElem?_eq_some_iff.1 HRZ.out).1).trans HRZ.out
               have d0 : w6.cell? ⟨w.heap.size + 1 + 1, 0, none⟩ = some (.int .i64 0) := cell_heap rz6 rfl
               have d1 : w6.cell? ⟨w.heap.size + 1 + 1, 1, none⟩ = some (.int .i64 0) := cell_heap rz6 rfl
               have d2 : w6.cell? ⟨w.heap.size + 1 + 1, 2, none⟩ = some (.int .i64 0) := cell_heap rz6 rfl
               have d3 : w6.cell? ⟨w.heap.size + 1 + 1, 3, none⟩ = some (.int .i64 0) := cell_heap rz6 rfl
               have d4 : w6.cell? ⟨w.heap.size + 1 + 1, 4, none⟩ = some (.int .i64 0) := cell_heap rz6 rfl
               have d5 : w6.cell? ⟨w.heap.size + 1 + 1, 5, none⟩ = some (.slice none 0 0) := cell_heap rz6 rfl
               have g0 := fr_heap rz6 0
               have g1 := fr_heap rz6 1
               have g2 := fr_heap rz6 2
               have g3 := fr_heap rz6 3
               have g4 := fr_heap rz6 4
               have g5 := fr_heap rz6 5
               have l6 : w.heap.size + 1 + 1 < w6.heap.size := cell_lt' d0
               have l7 : w3.heap.size < w6.heap.size := cell_lt' y0
               have B6 := hid (on HbW.out hb6)
               have Hb6 := hid hb6
               clear hb6 rz6))
          refine bodyPost_ret (v := .tuple #[.agg #[.int .i64 (ep + 1), .int .i64 pk, .int .i64 pm, .int .i64 pg, .int .i64 pd, .slice x1 ln1 cn1], .int .i64 0]) ?_ rfl ?_
          · rw [results_cell2 rfl]
            go_simp
          · rw [HA2.out trivial]
            have Tz := turns_put (turns_put (turns_put (turns_put (turns_put (turns_put (Turns.refl (fun k => k = w.heap.size + 1 + 1) w6) 0 (.int .i64 (ep + 1))) 1 (.int .i64 pk)) 2 (.int .i64 pm)) 3 (.int .i64 pg)) 4 (.int .i64 pd)) 5 (.slice x1 ln1 cn1)
            refine ⟨x1, ln1, cn1, rfl, ?_, ?_, fun a e => ?_⟩
            · repeat (first | with_reducible exact B6.out | (with_reducible refine Below.setCell ?_ (by first | (simp; done) | (simp; omega) | omega) _) | (with_reducible refine Below.alloc ?_ (by first | (simp; done) | (simp; omega) | omega) _))
            · have ow := (HOw.out.own.below Hb6.out).turns Tz (fun g hg e => by have := HOw.out.new g hg; omega)
              rw [HBd.out, ← HIn.out] at ow
              exact own_os ow (by rw [HIn.out, ← HBd.out, ← HLn.out]; omega)
            · obtain ⟨x9, c9, e9, _, _, h9⟩ := HOw.out.own.form
              injection e9 with e91 e92 e93
              obtain ⟨g9, rfl, hB9, _⟩ := h9 a (by rw [← e91]; exact e)
              have := HOw.out.new g9 (by rw [e]; rfl)
              show w.heap.size ≤ g9
              omega

end Go.Proofs.YthlfmbijagpggaaGreat.At

/-
  The document's Apply.
  Conditions: lists lie in memory.
-/
namespace Go.Proofs.YthlfmbijagpggaaGreat.At
open Go.RowKit By Fl
set_option linter.unusedVariables false
set_option linter.unusedSimpArgs false
set_option maxRecDepth 100000

theorem rapply_new {w : World} {x : Option Addr} {n c : Nat} (m : Mp) (ch : Ch) (h : Os w x n c m.osds) :
    Calls Tryz.prog 15 #[vM m.ep m.pool x n c, vC ch] w fun e w' => ∃ y yn yc, e = .returned (.tuple #[vM (applyP m ch).2.ep (applyP m ch).2.pool y yn yc, .int .i64 (applyP m ch).1]) ∧ Hid (ToldN w w' y yn yc (applyP m ch).2.osds) := by
  by_cases hno : mayM m = false ∨ mayC ch = false ∨ m.ep = 1048576
  · exact rapply_bad m ch h hno
  · have h1 : mayM m = true := by
      cases hq : mayM m with
      | true => rfl
      | false => exact absurd (.inl hq) hno
    have h2 : mayC ch = true := by
      cases hq : mayC ch with
      | true => rfl
      | false => exact absurd (.inr (.inl hq)) hno
    have h3 : m.ep ≠ 1048576 := fun e => hno (.inr (.inr e))
    have hw : wi ch.kind 1 6 = true := by
      unfold mayC at h2
      simp only [Bool.and_eq_true] at h2
      exact h2.1
    cases hf : m.osds.findIdx? (isId ch.osd.id) with
    | none =>
      by_cases hk : ch.kind = 1
      · by_cases hl : 64 ≤ m.osds.length
        · exact rapply_full m ch h h1 h2 h3 hk hf hl
        · exact rapply_add m ch h h1 h2 h3 hk hf (by omega)
      · exact rapply_none m ch h h1 h2 h3 hk hf
    | some q =>
      obtain ⟨o, ho, _, _⟩ := idx_some hf
      rcases kind_cases hw with e | e | e | e | e | e
      · exact rapply_dup m ch h h1 h2 h3 e hf
      · exact rapply_2 m ch h h1 h2 h3 e hf ho
      · exact rapply_3 m ch h h1 h2 h3 e hf ho
      · exact rapply_4 m ch h h1 h2 h3 e hf ho
      · exact rapply_5 m ch h h1 h2 h3 e hf ho
      · exact rapply_6 m ch h h1 h2 h3 e hf ho

theorem rapply_any {w : World} {x : Option Addr} {n c : Nat} (m : Mp) (ch : Ch) (h : Os w x n c m.osds) :
    Calls Tryz.prog 15 #[vM m.ep m.pool x n c, vC ch] w fun e w' => ∃ y yn yc, e = .returned (.tuple #[vM (applyP m ch).2.ep (applyP m ch).2.pool y yn yc, .int .i64 (applyP m ch).1]) ∧ Hid (Told w w' y yn yc (applyP m ch).2.osds) :=
  (rapply_new m ch h).mono fun e w' ⟨y, yn, yc, he, H⟩ => ⟨y, yn, yc, he, H.out.1, H.out.2.1⟩

end Go.Proofs.YthlfmbijagpggaaGreat.At
