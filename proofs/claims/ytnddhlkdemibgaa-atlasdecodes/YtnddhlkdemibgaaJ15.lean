/-
  3 texts of this proof, one behind the other: AtRefApp3, AtDecD, AtRefRd.
-/
import Derived.Test.YtnddhlkdemibgaaJ14
import Derived.Test.YtnddhlkdemibgaaJ11
import Derived.Test.YtnddhlkdemibgaaJ03
/-
  The document's Apply: an OSD more.
  Conditions: lists lie in memory.
-/
namespace Go.Proofs.Ytnddhlkdemibgaa.At
open Go.RowKit By Fl
set_option linter.unusedVariables false
set_option linter.unusedSimpArgs false
set_option maxRecDepth 100000

theorem over_low {o a : Osd} {L : List Osd} {k : Nat} (hk : k < inAt o L) (ha : L[k]? = some a) : ¬ o.id < a.id := by
  have hov : overId o.id a = false := by
    unfold inAt at hk
    cases hq : L.findIdx? (overId o.id) with
    | none => exact idx_none hq k a ha
    | some q =>
      rw [hq] at hk
      obtain ⟨_, _, _, h4⟩ := idx_some hq
      exact h4 k a hk ha
  unfold overId at hov
  simpa using hov

theorem over_at {o a : Osd} {L : List Osd} (ha : L[inAt o L]? = some a) : o.id < a.id := by
  unfold inAt at ha
  cases hq : L.findIdx? (overId o.id) with
  | none =>
    rw [hq] at ha
    have := (List.getElem?_eq_some_iff.1 ha).1
    simp only [] at this
    omega
  | some q =>
    rw [hq] at ha
    obtain ⟨b, hb, h3, _⟩ := idx_some hq
    have := Option.some.inj (hb.symm.trans ha)
    subst this
    unfold overId at h3
    simpa using h3

def built (o : Osd) (L : List Osd) (at_ k : Nat) : List Osd := if at_ < k then L.take at_ ++ o :: (L.drop at_).take (k - at_) else L.take k

theorem built_zero (o : Osd) (L : List Osd) (at_ : Nat) : built o L at_ 0 = [] := by unfold built; simp
theorem built_low {o a : Osd} {L : List Osd} {at_ k : Nat} (hk : k < at_) (ha : L[k]? = some a) : built o L at_ (k + 1) = built o L at_ k ++ [a] := by
  unfold built
  rw [if_neg (by omega), if_neg (by omega), List.take_add_one, ha]
  rfl
theorem built_at {o a : Osd} {L : List Osd} {at_ : Nat} (ha : L[at_]? = some a) : built o L at_ (at_ + 1) = built o L at_ at_ ++ [o] ++ [a] := by
  unfold built
  rw [if_pos (by omega), if_neg (by omega), show at_ + 1 - at_ = 1 by omega, List.take_add_one, List.getElem?_drop, Nat.add_zero, ha]
  simp
theorem built_high {o a : Osd} {L : List Osd} {at_ k : Nat} (hk : at_ < k) (ha : L[k]? = some a) : built o L at_ (k + 1) = built o L at_ k ++ [a] := by
  unfold built
  rw [if_pos (by omega), if_pos hk, show k + 1 - at_ = (k - at_) + 1 by omega, List.take_add_one, List.getElem?_drop, show at_ + (k - at_) = k by omega, ha]
  simp
theorem built_end {o : Osd} {L : List Osd} {at_ n : Nat} (hn : L.length = n) (h : at_ < n) : built o L at_ n = L.take at_ ++ o :: L.drop at_ := by
  unfold built
  rw [if_pos h, List.take_of_length_le (l := L.drop at_) (by rw [List.length_drop]; omega)]
theorem built_last {o : Osd} {L : List Osd} {n : Nat} (hn : L.length = n) : built o L n n ++ [o] = L.take n ++ o :: L.drop n := by
  unfold built
  rw [if_neg (by omega), List.drop_of_length_le (by omega)]
theorem built_len {o : Osd} {L : List Osd} {at_ k n : Nat} (hn : L.length = n) (hk : k ≤ n) : (built o L at_ k).length ≤ k + 1 := by
  unfold built
  split
  · simp
    omega
  · simp
    omega

theorem push1 {W : World} {B : Nat} {R : Value} {L : List Osd} (h : Own W B 28 8 enO R L) (a : Osd) (hB : B ≤ W.heap.size) (hl : L.length ≤ 1000) :
    ∃ x' c' W', (Builtin.append_ #[24, 24] 24 #[R, .slice (some ⟨W.heap.size, 0, none⟩) 1 1]).run Try.prog (W.alloc (.cells #[.int .i64 a.id, .bool a.up, .bool a.inn, .int .i64 a.wt, .int .i64 a.life, .int .i64 a.boot, .int .i64 a.host, .int .i64 a.rack] 28)) = .ok (.slice x' (L.length + 1) c') W' ∧
      Hid (Own W' B 28 8 enO (.slice x' (L.length + 1) c') (L ++ [a]) ∧ Turns (fun k => R.ownBlock = some k) W W' ∧ ∀ g, (Value.slice x' (L.length + 1) c').ownBlock = some g → R.ownBlock = some g ∨ W.heap.size ≤ g) := by
  have bx := al W (.cells #[.int .i64 a.id, .bool a.up, .bool a.inn, .int .i64 a.wt, .int .i64 a.life, .int .i64 a.boot, .int .i64 a.host, .int .i64 a.rack] 28)
  have ob : OBox (W.alloc (.cells #[.int .i64 a.id, .bool a.up, .bool a.inn, .int .i64 a.wt, .int .i64 a.life, .int .i64 a.boot, .int .i64 a.host, .int .i64 a.rack] 28)) W.heap.size a := heap_alloc_new _ _
  obtain ⟨x', c', W', hr, H⟩ := (h.below bx).push orow (by simp; omega) ⟨W.heap.size, 0, none⟩ 1 1 [a] rfl (fun j u hj => ob.src j u (by rwa [flat_one] at hj)) (by omega)
  refine ⟨x', c', W', hr, H.out.1, (Turns.of_below bx).trans H.out.2.1, fun g hg => ?_⟩
  rcases H.out.2.2 g hg with q | q
  · exact .inl q
  · exact .inr (by rw [q]; simp)

/- The list that is built, in the box nb. -/
structure AddAt (B : Nat) (Wb wr : World) (nb : Nat) (e1 pk pm pg pd : Int) (R : Value) (Lk : List Osd) : Prop where
  blk : wr.heap[nb]? = some (.cells #[.int .i64 e1, .int .i64 pk, .int .i64 pm, .int .i64 pg, .int .i64 pd, R] 26 (0, 0))
  own : Own wr B 28 8 enO R Lk
  turns : Turns (fun k => k = nb) Wb wr
  new : ∀ g, R.ownBlock = some g → Wb.heap.size ≤ g
  lt : nb < Wb.heap.size
  big : B ≤ Wb.heap.size

section
variable {B nb : Nat} {Wb wr : World} {e1 pk pm pg pd : Int} {R : Value} {Lk : List Osd}

theorem AddAt.cell (h : AddAt B Wb wr nb e1 pk pm pg pd R Lk) {b j : Nat} {v : Value} (hb : b ≠ nb) (hv : Wb.cell? ⟨b, j, none⟩ = some v) : wr.cell? ⟨b, j, none⟩ = some v :=
  (World.cell?_of_block (a := ⟨b, j, none⟩) (h.turns.block b (cell_lt' hv) hb)).trans hv

theorem AddAt.below {wr' : World} (h : AddAt B Wb wr nb e1 pk pm pg pd R Lk) (b : Below wr.heap.size wr wr') : AddAt B Wb wr' nb e1 pk pm pg pd R Lk :=
  ⟨(b.block _ (Array.getElem?_eq_some_iff.1 h.blk).1).trans h.blk, h.own.below b, h.turns.trans (Turns.of_below b), h.new, h.lt, h.big⟩

theorem AddAt.step {W' : World} {R' : Value} {a : Osd} (h : AddAt B Wb wr nb e1 pk pm pg pd R Lk) (ho : Own W' B 28 8 enO R' (Lk ++ [a])) (ht : Turns (fun k => R.ownBlock = some k) wr W') (hn : ∀ g, R'.ownBlock = some g → R.ownBlock = some g ∨ wr.heap.size ≤ g) :
    AddAt B Wb (W'.setCell ⟨nb, 5, none⟩ R') nb e1 pk pm pg pd R' (Lk ++ [a]) := by
  have hlt := h.lt
  have hsz := h.turns.size
  have hnb : W'.heap[nb]? = some (.cells #[.int .i64 e1, .int .i64 pk, .int .i64 pm, .int .i64 pg, .int .i64 pd, R] 26 (0, 0)) :=
    (ht.block nb (by omega) (fun e => by have := h.new nb e; omega)).trans h.blk
  have hnew : ∀ g, R'.ownBlock = some g → Wb.heap.size ≤ g := fun g hg => by
    rcases hn g hg with q | q
    · exact h.new g q
    · omega
  refine ⟨heap_set hnb _, ho.turns (turns_put (Turns.refl _ _) _ _) (fun g hg e => by have := hnew g hg; omega), ?_, hnew, h.lt, h.big⟩
  exact (h.turns.more ht (fun i hi => .inr (h.new i hi))).setCell (p := ⟨nb, 5, none⟩) (.inl rfl) _

/- The box, behind an append that is not yet stored. -/
theorem AddAt.boxAt {W' : World} (h : AddAt B Wb wr nb e1 pk pm pg pd R Lk) (ht : Turns (fun k => R.ownBlock = some k) wr W') : W'.heap[nb]? = some (.cells #[.int .i64 e1, .int .i64 pk, .int .i64 pm, .int .i64 pg, .int .i64 pd, R] 26 (0, 0)) := by
  have hlt := h.lt
  have hsz := h.turns.size
  exact (ht.block nb (by omega) (fun e => by have := h.new nb e; omega)).trans h.blk

theorem AddAt.other {W' : World} (h : AddAt B Wb wr nb e1 pk pm pg pd R Lk) (ht : Turns (fun k => R.ownBlock = some k) wr W') {b j : Nat} {v : Value} (hb : b < Wb.heap.size) (hv : wr.cell? ⟨b, j, none⟩ = some v) : W'.cell? ⟨b, j, none⟩ = some v :=
  (World.cell?_of_block (a := ⟨b, j, none⟩) (ht.block b (cell_lt' hv) (fun e => by have := h.new b e; omega))).trans hv

end

end Go.Proofs.Ytnddhlkdemibgaa.At

/-
  Package atlas: Decode.
  Conditions: bytes that lie in memory.
-/
namespace Go.Proofs.Ytnddhlkdemibgaa.At
open Go.RowKit By Fl Wi
set_option linter.unusedVariables false
set_option linter.unusedSimpArgs false
set_option maxRecDepth 100000

theorem rNum_le {t : Int} (l : List Nat) (e : Nat) (ht : 0 ≤ t) : ((rNum t l e).1 : Int) ≤ t := by
  by_cases h : e = 0
  · subst h
    by_cases h1 : (rUv l 0).2.2 = 0
    · by_cases h2 : t < 0 ∨ t < ((rUv l 0).1 : Int)
      · rw [rNum_long h1 h2]; exact ht
      · rw [rNum_yes h1 h2]; omega
    · rw [rNum_no h1]; exact ht
  · rw [rNum_bad h]; exact ht

structure DM (w W : World) (p N pm : Nat) (h0 h1 h2 h3 h4 : Int) (R : Value) (L : List Osd) (l : List Nat) (e : Nat) : Prop where
  bel : Below w.heap.size w W
  res : W.heap[w.heap.size]? = some (.cells #[.int .i64 0, .int .i64 0, .int .i64 0, .int .i64 0, .int .i64 0, .slice none 0 0] 26 (0, 0))
  box : W.heap[pm]? = some (.cells #[.int .i64 h0, .int .i64 h1, .int .i64 h2, .int .i64 h3, .int .i64 h4, R] 26 (0, 0))
  own : Own W (pm + 1) 28 8 enO R L
  rd : Rdr W p N l e
  lt : w.heap.size < p ∧ p < pm ∧ N ≤ pm

theorem DM.step {w wr w3 W' : World} {p N pm : Nat} {h0 h1 h2 h3 h4 : Int} {R R' : Value} {L L' : List Osd} {l l' : List Nat} {e e' : Nat} (h : DM w wr p N pm h0 h1 h2 h3 h4 R L l e) (t3 : Turns (atP p) wr w3) (r3 : Rdr w3 p N l' e')
    (o4 : Own W' (pm + 1) 28 8 enO R' L') (t4 : Turns (fun k => R.ownBlock = some k) w3 W') : DM w (W'.setCell ⟨pm, 5, none⟩ R') p N pm h0 h1 h2 h3 h4 R' L' l' e' := by
  obtain ⟨q1, q2, q3⟩ := h.lt
  have hR : ∀ k, R.ownBlock = some k → pm + 1 ≤ k := fun k hk => (h.own.tb hk).1
  have hR' : ∀ k, R'.ownBlock = some k → pm + 1 ≤ k := fun k hk => (o4.tb hk).1
  have res3 := (t3.block _ (Array.getElem?_eq_some_iff.1 h.res).1 (fun e => by have e3 : w.heap.size = p := e; omega)).trans h.res
  have res4 := (t4.block _ (Array.getElem?_eq_some_iff.1 res3).1 (fun e => by have := hR _ e; omega)).trans res3
  have box3 := (t3.block _ (Array.getElem?_eq_some_iff.1 h.box).1 (fun e => by have e3 : pm = p := e; omega)).trans h.box
  have box4 := (t4.block _ (Array.getElem?_eq_some_iff.1 box3).1 (fun e => by have := hR _ e; omega)).trans box3
  have T5 : Turns (fun k => k = pm) W' (W'.setCell ⟨pm, 5, none⟩ R') := turns_put (Turns.refl _ _) _ _
  have b3 := h.bel.trans (t3.below (B := w.heap.size) (fun k hk => by have e3 : k = p := hk; omega) h.bel.size)
  have b4 := b3.trans (t4.below (B := w.heap.size) (fun k hk => by have := hR _ hk; omega) b3.size)
  refine ⟨b4.trans (T5.below (B := w.heap.size) (fun k hk => by have e3 : k = pm := hk; omega) b4.size), ?_, ?_, ?_, ?_, h.lt⟩
  · exact (T5.block _ (Array.getElem?_eq_some_iff.1 res4).1 (fun e => by have e3 : w.heap.size = pm := e; omega)).trans res4
  · refine (heap_set box4 _).trans ?_
    simp
  · exact o4.turns T5 (fun g hg e => by have e3 : g = pm := e; have := hR' _ hg; omega)
  · exact (r3.turns t4 (fun e => by have := hR _ e; omega) (fun k hk => by have := hR _ hk; omega)).turns T5 (fun e => by have e3 : p = pm := e; omega) (fun k hk => by have e3 : k = pm := hk; omega)

theorem osdsR_take (oT : List Int) : ∀ (k : Nat) (l : List Nat) (e : Nat), osdsR oT (k + 1) l e = ((osdsR oT k l e).1 ++ [osdN (numsR oT (osdsR oT k l e).2.1 (osdsR oT k l e).2.2).1], (numsR oT (osdsR oT k l e).2.1 (osdsR oT k l e).2.2).2)
  | 0, l, e => rfl
  | k + 1, l, e => by
    show (osdN (numsR oT l e).1 :: (osdsR oT (k + 1) (numsR oT l e).2.1 (numsR oT l e).2.2).1, (osdsR oT (k + 1) (numsR oT l e).2.1 (numsR oT l e).2.2).2) = _
    rw [osdsR_take oT k]
    rfl

theorem DM.below {w wr wr' : World} {p N pm : Nat} {h0 h1 h2 h3 h4 : Int} {R : Value} {L : List Osd} {l : List Nat} {e : Nat} (h : DM w wr p N pm h0 h1 h2 h3 h4 R L l e) (b : Below wr.heap.size wr wr') : DM w wr' p N pm h0 h1 h2 h3 h4 R L l e :=
  ⟨on h.bel b, heap_keep b h.res, heap_keep b h.box, h.own.below b, h.rd.below b, h.lt⟩

theorem decM_parts (l : List Nat) : ∃ (a0 a1 a2 a3 a4 k : Nat) (l1 : List Nat) (e1 : Nat), numsR headT l 0 = ([(a0 : Int), (a1 : Int), (a2 : Int), (a3 : Int), (a4 : Int), (k : Int)], l1, e1) ∧ k ≤ 64 ∧ a1 ≤ 32 ∧ decM l = if rDone (osdsR osdT k l1 e1).2.1 (osdsR osdT k l1 e1).2.2 = 0 ∧ mayM ⟨a0, ⟨a1, a2, a3, a4⟩, (osdsR osdT k l1 e1).1⟩ = true then (⟨a0, ⟨a1, a2, a3, a4⟩, (osdsR osdT k l1 e1).1⟩, true) else (zMp, false) := by
  obtain ⟨a0, m0, f0, q0⟩ : ∃ a m f, rNum 1048576 l 0 = (a, m, f) := ⟨_, _, _, rfl⟩
  obtain ⟨a1, m1, f1, q1⟩ : ∃ a m f, rNum 32 m0 f0 = (a, m, f) := ⟨_, _, _, rfl⟩
  obtain ⟨a2, m2, f2, q2⟩ : ∃ a m f, rNum 32 m1 f1 = (a, m, f) := ⟨_, _, _, rfl⟩
  obtain ⟨a3, m3, f3, q3⟩ : ∃ a m f, rNum 32 m2 f2 = (a, m, f) := ⟨_, _, _, rfl⟩
  obtain ⟨a4, m4, f4, q4⟩ : ∃ a m f, rNum 2 m3 f3 = (a, m, f) := ⟨_, _, _, rfl⟩
  obtain ⟨a5, m5, f5, q5⟩ : ∃ a m f, rNum 64 m4 f4 = (a, m, f) := ⟨_, _, _, rfl⟩
  have h1 : numsR headT l 0 = ([(a0 : Int), (a1 : Int), (a2 : Int), (a3 : Int), (a4 : Int), (a5 : Int)], m5, f5) := by simp only [headT, numsR, q0, q1, q2, q3, q4, q5]
  have b5 := rNum_le (t := 64) m4 f4 (by omega)
  have b1 := rNum_le (t := 32) m0 f0 (by omega)
  rw [q5] at b5
  rw [q1] at b1
  dsimp only at b5 b1
  refine ⟨a0, a1, a2, a3, a4, a5, m5, f5, h1, by omega, by omega, ?_⟩
  unfold decM
  dsimp only
  rw [h1]
  simp only [mpN, List.getD_cons_succ, List.getD_cons_zero, Int.toNat_natCast]

set_option maxHeartbeats 6400000 in
theorem decode_any (x : Option Addr) (n c : Nat) (l : List Nat) (w : World) (hl : Go.Proofs.Ytnddhlkdemibgaa.Sl w x n c l) (hn : n ≤ 140737488355328) :
    Calls Try.prog 28 #[.slice x n c] w fun ed w' => ∃ y yn yc, ed = .returned (.tuple #[vM (decM l).1.ep (decM l).1.pool y yn yc, .int .i64 (cod (decM l).2)]) ∧ Hid (Below w.heap.size w w' ∧ Os w' y yn yc (decM l).1.osds) := by
  have bA := al w (.cells #[.int .i64 0, .int .i64 0, .int .i64 0, .int .i64 0, .int .i64 0, .slice none 0 0] 26)
  have hRd := readR x n c l (w.alloc (.cells #[.int .i64 0, .int .i64 0, .int .i64 0, .int .i64 0, .int .i64 0, .slice none 0 0] 26)) (hl.below bA) hn
  have HX := hid (heap_alloc_new w (.cells #[.int .i64 0, .int .i64 0, .int .i64 0, .int .i64 0, .int .i64 0, .slice none 0 0] 26))
  obtain ⟨a0, a1, a2, a3, a4, k, l1, e1, hq, hk64, hk32, hDec⟩ := decM_parts l
  have HBA := hid bA
  have HQ := hid hq
  have HD := hid hDec
  clear hl hn bA hq hDec
  go_enter Try.func28, Try.ntmps28
  go_wp2_with (first
    | (
       go_at_call 47; refine hRd.mono ?_; rintro ed w1 ⟨p, rfl, H1⟩; clear hRd
       have hsz : w.heap.size + 1 ≤ p ∧ p < w1.heap.size := ⟨by simpa using H1.out.1, H1.out.2.2.lt⟩
       have bN := al w1 (.cells #[.int .i64 1048576, .int .i64 32, .int .i64 32, .int .i64 32, .int .i64 2, .int .i64 64] 3)
       have hIs : Is (w1.alloc (.cells #[.int .i64 1048576, .int .i64 32, .int .i64 32, .int .i64 32, .int .i64 2, .int .i64 64] 3)) (some ⟨w1.heap.size, 0, none⟩) 6 6 headT := (Ns.new w1 3 headT).is
       have hLr := readL_any (H1.out.2.2.below bN) bN.size hIs (fun a ha e => by injection ha with ha; subst ha; have e2 : w1.heap.size = p := e; omega) (fun t ht => by simp only [headT, List.mem_cons, List.not_mem_nil, or_false] at ht; omega) (by omega)
       rw [HQ.out] at hLr
       dsimp only at hLr
       have HSz := hid hsz
       clear hsz hIs)
    | (
       go_at_call 48; refine hLr.mono ?_; rintro ed w2 ⟨g, rfl, H2⟩; clear hLr))
  obtain ⟨wD, hwD⟩ : ∃ wD, wD = w2.drew := ⟨_, rfl⟩
  have c0 : wD.cell? ⟨g, 0, none⟩ = some (.int .i64 (a0 : Int)) := by rw [hwD]; exact H2.out.2.2.1.cell rfl
  have c1 : wD.cell? ⟨g, 1, none⟩ = some (.int .i64 (a1 : Int)) := by rw [hwD]; exact H2.out.2.2.1.cell rfl
  have c2 : wD.cell? ⟨g, 2, none⟩ = some (.int .i64 (a2 : Int)) := by rw [hwD]; exact H2.out.2.2.1.cell rfl
  have c3 : wD.cell? ⟨g, 3, none⟩ = some (.int .i64 (a3 : Int)) := by rw [hwD]; exact H2.out.2.2.1.cell rfl
  have c4 : wD.cell? ⟨g, 4, none⟩ = some (.int .i64 (a4 : Int)) := by rw [hwD]; exact H2.out.2.2.1.cell rfl
  have c5 : wD.cell? ⟨g, 5, none⟩ = some (.int .i64 (k : Int)) := by rw [hwD]; exact H2.out.2.2.1.cell rfl
  have TA : Turns (atP p) (w1.alloc (.cells #[.int .i64 1048576, .int .i64 32, .int .i64 32, .int .i64 32, .int .i64 2, .int .i64 64] 3)) wD := by rw [hwD]; exact H2.out.1.drew
  have RD : Rdr wD p w1.heap.size l1 e1 := by
    rw [hwD]
    exact H2.out.2.1.turns (G := fun _ => False) ((Turns.refl _ w2).drew) (fun h => h) (fun _ h => h.elim)
  have hND : w1.heap.size ≤ wD.heap.size := Nat.le_trans (al w1 (.cells #[.int .i64 1048576, .int .i64 32, .int .i64 32, .int .i64 32, .int .i64 2, .int .i64 64] 3)).size TA.size
  have hpD : p < wD.heap.size := RD.lt
  have bel0 : Below w.heap.size w wD := (on HBA.out H1.out.2.1).trans (((al w1 (.cells #[.int .i64 1048576, .int .i64 32, .int .i64 32, .int .i64 32, .int .i64 2, .int .i64 64] 3)).mono (by have := HSz.out; omega)).trans (TA.below (B := w.heap.size) (fun k hk => by have e3 : k = p := hk; have := HSz.out; omega) (by have := HSz.out; simp; omega)))
  have res0 : wD.heap[w.heap.size]? = some (.cells #[.int .i64 0, .int .i64 0, .int .i64 0, .int .i64 0, .int .i64 0, .slice none 0 0] 26 (0, 0)) := by
    have h1 := (H1.out.2.1.block _ (Array.getElem?_eq_some_iff.1 HX.out).1).trans HX.out
    have h2 := ((al w1 (.cells #[.int .i64 1048576, .int .i64 32, .int .i64 32, .int .i64 32, .int .i64 2, .int .i64 64] 3)).block _ (Array.getElem?_eq_some_iff.1 h1).1).trans h1
    exact (TA.block _ (Array.getElem?_eq_some_iff.1 h2).1 (fun e => by have e3 : w.heap.size = p := e; have := HSz.out; omega)).trans h2
  have HWD := hid hwD.symm
  have bM := al wD (.cells #[.int .i64 (a0 : Int), .int .i64 (a1 : Int), .int .i64 (a2 : Int), .int .i64 (a3 : Int), .int .i64 (a4 : Int), .slice none 0 0] 26)
  have bZ := al wD (.cells #[.int .i64 0, .int .i64 0, .int .i64 0, .int .i64 0, .int .i64 0, .slice none 0 0] 26)
  have HM : Hid (DM w (wD.alloc (.cells #[.int .i64 (a0 : Int), .int .i64 (a1 : Int), .int .i64 (a2 : Int), .int .i64 (a3 : Int), .int .i64 (a4 : Int), .slice none 0 0] 26)) p w1.heap.size wD.heap.size a0 a1 a2 a3 a4 (.slice none 0 0) [] l1 e1) :=
    ⟨on bel0 bM, heap_keep bM res0, heap_alloc_new _ _, Own.nil _ _ _ _ _, RD.below bM, by have := HSz.out; omega⟩
  clear hwD bel0 res0 TA RD
  refine wp_region_held_drew (S := fun v => v.cell? ⟨g, 0, none⟩ = some (.int .i64 (a0 : Int)) ∧ v.cell? ⟨g, 1, none⟩ = some (.int .i64 (a1 : Int)) ∧ v.cell? ⟨g, 2, none⟩ = some (.int .i64 (a2 : Int)) ∧ v.cell? ⟨g, 3, none⟩ = some (.int .i64 (a3 : Int)) ∧ v.cell? ⟨g, 4, none⟩ = some (.int .i64 (a4 : Int)) ∧ v.cell? ⟨g, 5, none⟩ = some (.int .i64 (k : Int))) (by kernel_rfl) (by rw [HWD.out]; exact ⟨c0, c1, c2, c3, c4, c5⟩) (fun hHeld => ?_)
  rw [HWD.out] at hHeld ⊢
  refine wpAnyH_take (i := 0) (v := ?_) rfl (by kernel_rfl) (by kernel_rfl) (by kernel_rfl) (fun _ _ _ h => h) (Or.inl ⟨by rfl, ?_⟩) (by assumption) ?_
  case refine_2 => (intro w hSw; (try dsimp only at hSw); go_simp; (try with_reducible rfl))
  (try simp only [Act.put, List.getElem_toArray, List.getElem_cons_succ, List.getElem_cons_zero, List.setIfInBounds_toArray, List.set_cons_zero, List.set_cons_succ])
  refine wpAnyH_take (i := 1) (v := ?_) rfl (by kernel_rfl) (by kernel_rfl) (by kernel_rfl) (fun _ _ _ h => h) (Or.inl ⟨by rfl, ?_⟩) (by assumption) ?_
  case refine_2 => (intro w hSw; (try dsimp only at hSw); go_simp; (try with_reducible rfl))
  (try simp only [Act.put, List.getElem_toArray, List.getElem_cons_succ, List.getElem_cons_zero, List.setIfInBounds_toArray, List.set_cons_zero, List.set_cons_succ])
  refine wpAnyH_take (i := 2) (v := ?_) rfl (by kernel_rfl) (by kernel_rfl) (by kernel_rfl) (fun _ _ _ h => h) (Or.inl ⟨by rfl, ?_⟩) (by assumption) ?_
  case refine_2 => (intro w hSw; (try dsimp only at hSw); go_simp; (try with_reducible rfl))
  (try simp only [Act.put, List.getElem_toArray, List.getElem_cons_succ, List.getElem_cons_zero, List.setIfInBounds_toArray, List.set_cons_zero, List.set_cons_succ])
  refine wpAnyH_take (i := 3) (v := ?_) rfl (by kernel_rfl) (by kernel_rfl) (by kernel_rfl) (fun _ _ _ h => h) (Or.inl ⟨by rfl, ?_⟩) (by assumption) ?_
  case refine_2 => (intro w hSw; (try dsimp only at hSw); go_simp; (try with_reducible rfl))
  (try simp only [Act.put, List.getElem_toArray, List.getElem_cons_succ, List.getElem_cons_zero, List.setIfInBounds_toArray, List.set_cons_zero, List.set_cons_succ])
  refine wpAnyH_take (i := 4) (v := ?_) rfl (by kernel_rfl) (by kernel_rfl) (by kernel_rfl) (fun _ _ _ h => h) (Or.inl ⟨by rfl, ?_⟩) (by assumption) ?_
  case refine_2 => (intro w hSw; (try dsimp only at hSw); go_simp; (try with_reducible rfl))
  (try simp only [Act.put, List.getElem_toArray, List.getElem_cons_succ, List.getElem_cons_zero, List.setIfInBounds_toArray, List.set_cons_zero, List.set_cons_succ])
  refine wpAnyH_take (i := 5) (v := ?_) rfl (by kernel_rfl) (by kernel_rfl) (by kernel_rfl) (fun _ _ _ h => h) (Or.inl ⟨by rfl, ?_⟩) (by assumption) ?_
  case refine_2 => (intro w hSw; (try dsimp only at hSw); go_simp; (try with_reducible rfl))
  (try simp only [Act.put, List.getElem_toArray, List.getElem_cons_succ, List.getElem_cons_zero, List.setIfInBounds_toArray, List.set_cons_zero, List.set_cons_succ])
  refine wpAnyH_take (i := 6) (v := ?_) rfl (by kernel_rfl) (by kernel_rfl) (by kernel_rfl) (fun _ _ _ h => h) (Or.inl ⟨by rfl, ?_⟩) (by assumption) ?_
  case refine_2 => (intro w hSw; (try dsimp only at hSw); go_simp; (try with_reducible rfl))
  (try simp only [Act.put, List.getElem_toArray, List.getElem_cons_succ, List.getElem_cons_zero, List.setIfInBounds_toArray, List.set_cons_zero, List.set_cons_succ])
  refine wpAnyH_take (i := 7) (v := ?_) rfl (by kernel_rfl) (by kernel_rfl) (by kernel_rfl) (fun _ _ _ h => h) (Or.inl ⟨by rfl, ?_⟩) (by assumption) ?_
  case refine_2 => (intro w hSw; (try dsimp only at hSw); go_simp; (try with_reducible rfl))
  (try simp only [Act.put, List.getElem_toArray, List.getElem_cons_succ, List.getElem_cons_zero, List.setIfInBounds_toArray, List.set_cons_zero, List.set_cons_succ])
  refine wpAnyH_take (i := 8) (v := ?_) rfl (by kernel_rfl) (by kernel_rfl) (by kernel_rfl) (fun _ _ _ h => h) (Or.inl ⟨by rfl, ?_⟩) (by assumption) ?_
  case refine_2 => (intro w hSw; (try dsimp only at hSw); go_simp; (try with_reducible rfl))
  (try simp only [Act.put, List.getElem_toArray, List.getElem_cons_succ, List.getElem_cons_zero, List.setIfInBounds_toArray, List.set_cons_zero, List.set_cons_succ])
  refine wpAnyH_take (i := 9) (v := ?_) rfl (by kernel_rfl) (by kernel_rfl) (by kernel_rfl) (fun _ _ _ h => h) (Or.inl ⟨by rfl, ?_⟩) (by assumption) ?_
  case refine_2 => (intro w hSw; (try dsimp only at hSw); go_simp; (try with_reducible rfl))
  (try simp only [Act.put, List.getElem_toArray, List.getElem_cons_succ, List.getElem_cons_zero, List.setIfInBounds_toArray, List.set_cons_zero, List.set_cons_succ])
  refine wpAnyH_take (i := 10) (v := ?_) rfl (by kernel_rfl) (by kernel_rfl) (by kernel_rfl) (fun _ _ _ h => h) (Or.inl ⟨by rfl, ?_⟩) (by assumption) ?_
  case refine_2 => (intro w hSw; (try dsimp only at hSw); go_simp; (try with_reducible rfl))
  (try simp only [Act.put, List.getElem_toArray, List.getElem_cons_succ, List.getElem_cons_zero, List.setIfInBounds_toArray, List.set_cons_zero, List.set_cons_succ])
  refine wpAnyH_take (i := 11) (v := ?_) rfl (by kernel_rfl) (by kernel_rfl) (by kernel_rfl) (fun _ _ _ h => h) (Or.inl ⟨by rfl, ?_⟩) (by assumption) ?_
  case refine_2 => (intro w hSw; (try dsimp only at hSw); go_simp; (try with_reducible rfl))
  (try simp only [Act.put, List.getElem_toArray, List.getElem_cons_succ, List.getElem_cons_zero, List.setIfInBounds_toArray, List.set_cons_zero, List.set_cons_succ])
  refine wpAnyH_take (i := 12) (v := ?_) rfl (by kernel_rfl) (by kernel_rfl) (by kernel_rfl) (fun _ _ _ h => h) (Or.inl ⟨by rfl, ?_⟩) (by assumption) ?_
  case refine_2 => (intro w hSw; (try dsimp only at hSw); go_simp; (try with_reducible rfl))
  (try simp only [Act.put, List.getElem_toArray, List.getElem_cons_succ, List.getElem_cons_zero, List.setIfInBounds_toArray, List.set_cons_zero, List.set_cons_succ])
  refine wpAnyH_take (i := 13) (v := ?_) rfl (by kernel_rfl) (by kernel_rfl) (by kernel_rfl) (fun _ _ _ h => h) (Or.inl ⟨by rfl, ?_⟩) (by assumption) ?_
  case refine_2 => (intro w hSw; (try dsimp only at hSw); go_simp; (try with_reducible rfl))
  (try simp only [Act.put, List.getElem_toArray, List.getElem_cons_succ, List.getElem_cons_zero, List.setIfInBounds_toArray, List.set_cons_zero, List.set_cons_succ])
  refine wpAnyH_take (i := 14) (v := ?_) rfl (by kernel_rfl) (by kernel_rfl) (by kernel_rfl) (fun _ _ _ h => h) (Or.inl ⟨by rfl, ?_⟩) (by assumption) ?_
  case refine_2 => (intro w hSw; (try dsimp only at hSw); go_simp; (try with_reducible rfl))
  (try simp only [Act.put, List.getElem_toArray, List.getElem_cons_succ, List.getElem_cons_zero, List.setIfInBounds_toArray, List.set_cons_zero, List.set_cons_succ])
  refine wpAnyH_take (i := 15) (v := ?_) rfl (by kernel_rfl) (by kernel_rfl) (by kernel_rfl) (fun _ _ _ h => h) (Or.inl ⟨by rfl, ?_⟩) (by assumption) ?_
  case refine_2 => (intro w hSw; (try dsimp only at hSw); go_simp; (try with_reducible rfl))
  (try simp only [Act.put, List.getElem_toArray, List.getElem_cons_succ, List.getElem_cons_zero, List.setIfInBounds_toArray, List.set_cons_zero, List.set_cons_succ])
  refine wpAnyH_take (i := 16) (v := ?_) rfl (by kernel_rfl) (by kernel_rfl) (by kernel_rfl) (fun _ _ _ h => h) (Or.inl ⟨by rfl, ?_⟩) (by assumption) ?_
  case refine_2 => (intro w hSw; (try dsimp only at hSw); go_simp; (try with_reducible rfl))
  (try simp only [Act.put, List.getElem_toArray, List.getElem_cons_succ, List.getElem_cons_zero, List.setIfInBounds_toArray, List.set_cons_zero, List.set_cons_succ])
  refine wpAnyH_ready (rs := [17]) (by kernel_rfl) (by simp) ?_
  refine AllReadyH.cons rfl (fun K hK => ?_) AllReadyH.nil
  go_simp
  refine hK.out _ _ ⟨keep bZ c0, keep bZ c1, keep bZ c2, keep bZ c3, keep bZ c4, keep bZ c5⟩ (fun hHeld => ?_)
  clear hK K
  refine wpAnyH_ready (rs := [18]) (by kernel_rfl) (by simp) ?_
  refine AllReadyH.cons rfl (fun K hK => ?_) AllReadyH.nil
  go_simp
  refine hK.out _ _ ⟨keep bM c0, keep bM c1, keep bM c2, keep bM c3, keep bM c4, keep bM c5⟩ (fun hHeld => ?_)
  clear hK K
  refine wpAnyH_done (by kernel_rfl) ?_ _
  clear hHeld
  obtain ⟨W0, hW0⟩ : ∃ W0, W0 = wD.alloc (.cells #[.int .i64 (a0 : Int), .int .i64 (a1 : Int), .int .i64 (a2 : Int), .int .i64 (a3 : Int), .int .i64 (a4 : Int), .slice none 0 0] 26) := ⟨_, rfl⟩
  have c5' := keep bM c5
  rw [← hW0] at HM c5' ⊢
  obtain ⟨pm, hpm⟩ : ∃ pm, pm = wD.heap.size := ⟨_, rfl⟩
  rw [← hpm] at HM ⊢
  have HPm := hid hpm
  clear hpm hW0 c0 c1 c2 c3 c4 c5 bM bZ
  go_wp2_with fail
  go_loopw [32] (fun i wx => ∃ q : Nat, q ≤ k ∧ i = .int .i64 q ∧ Hid (∃ R, DM w wx p w1.heap.size pm a0 a1 a2 a3 a4 R (osdsR osdT q l1 e1).1 (osdsR osdT q l1 e1).2.1 (osdsR osdT q l1 e1).2.2)) (fun i _ => k - (intOf i).toNat)
  case atStart => exact ⟨0, by omega, rfl, _, HM.out⟩
  case round =>
    obtain ⟨q, hq, rfl, HR⟩ := hrel
    obtain ⟨R, hR⟩ := HR.out
    obtain ⟨y, yc, hRe, _⟩ := hR.own.form
    have hlen := osdsR_len osdT q l1 e1
    rw [hlen] at hRe
    subst hRe
    by_cases hlt : q < k
    · have hqI : (q : Int) < (k : Int) := by omega
      obtain ⟨wE, hwE⟩ : ∃ wE, wE = wr.drew := ⟨_, rfl⟩
      have hRE : DM w wE p w1.heap.size pm a0 a1 a2 a3 a4 (.slice y q yc) (osdsR osdT q l1 e1).1 (osdsR osdT q l1 e1).2.1 (osdsR osdT q l1 e1).2.2 := by rw [hwE]; exact hR.below (Below.refl _ _).drew
      have HWE := hid hwE.symm
      have x5 : wE.cell? ⟨pm, 5, none⟩ = some (.slice y q yc) := cell_heap hRE.box rfl
      have lpm : pm < wE.heap.size := (Array.getElem?_eq_some_iff.1 hRE.box).1
      have hRo := readOsd_any hRE.rd (by have := hRE.lt; omega)
      have hTk := osdsR_take osdT q l1 e1
      obtain ⟨o, ho⟩ : ∃ o, o = osdN (numsR osdT (osdsR osdT q l1 e1).2.1 (osdsR osdT q l1 e1).2.2).1 := ⟨_, rfl⟩
      rw [← ho] at hRo hTk
      have HTk := hid hTk
      have HRE := hid hRE
      have HLen := hid hlen
      clear ho hTk hR hwE hlen hRE
      obtain ⟨i0, i1, i2, i3, i4, i5, i6, i7⟩ := o
      unfold vO at hRo
      dsimp only at hRo
      go_wp2_with fail
      refine wp_region_last (fun v => v.cell? ⟨pm, 5, none⟩ = some (.slice y q yc)) 7 (by kernel_rfl) (by rw [HWE.out]; exact x5) (fun hS => ?_)
      rw [HWE.out] at hS ⊢
      refine wpAnyL_take (i := 0) (v := ?_) rfl (by kernel_rfl) (by kernel_rfl) (by kernel_rfl) (by kernel_rfl) (fun _ _ _ h => h) hS (Or.inl ⟨by rfl, ?_⟩) ?_
      case refine_2 => (intro w hSw; (try dsimp only at hSw); go_simp; (try with_reducible rfl))
      (try simp only [Act.put, List.getElem_toArray, List.getElem_cons_succ, List.getElem_cons_zero, List.setIfInBounds_toArray, List.set_cons_zero, List.set_cons_succ])
      refine wpAnyL_take (i := 1) (v := ?_) rfl (by kernel_rfl) (by kernel_rfl) (by kernel_rfl) (by kernel_rfl) (fun _ _ _ h => h) hS (Or.inl ⟨by rfl, ?_⟩) ?_
      case refine_2 => (intro w hSw; (try dsimp only at hSw); go_simp; (try with_reducible rfl))
      (try simp only [Act.put, List.getElem_toArray, List.getElem_cons_succ, List.getElem_cons_zero, List.setIfInBounds_toArray, List.set_cons_zero, List.set_cons_succ])
      refine wpAnyL_take (i := 2) (v := ?_) rfl (by kernel_rfl) (by kernel_rfl) (by kernel_rfl) (by kernel_rfl) (fun _ _ _ h => h) hS (Or.inl ⟨by rfl, ?_⟩) ?_
      case refine_2 => (intro w hSw; (try dsimp only at hSw); go_simp; (try with_reducible rfl))
      (try simp only [Act.put, List.getElem_toArray, List.getElem_cons_succ, List.getElem_cons_zero, List.setIfInBounds_toArray, List.set_cons_zero, List.set_cons_succ])
      refine wpAnyL_one (i := 3) (by kernel_rfl) rfl (fun K hK => ?_)
      go_simp
      refine hRo.mono ?_
      rintro ed w3 ⟨rfl, H3⟩
      have own3 := HRE.out.own.turns H3.out.1 (fun g hg e => by have e3 : g = p := e; have := (HRE.out.own.tb hg).1; have := HRE.out.lt; omega)
      have x53 := keept H3.out.1 (fun e => by have e3 : pm = p := e; have := HRE.out.lt; omega) x5
      obtain ⟨y', yc', W4, hr4, H4⟩ := push1 own3 ⟨i0, i1, i2, i3, i4, i5, i6, i7⟩ (by have := H3.out.1.size; omega) (by rw [HLen.out]; omega)
      rw [HLen.out] at hr4 H4
      dsimp only at hr4
      have bO := al w3 (.cells #[.int .i64 i0, .bool i1, .bool i2, .int .i64 i3, .int .i64 i4, .int .i64 i5, .int .i64 i6, .int .i64 i7] 28)
      have hbx4 : W4.heap[pm]? = _ := (H4.out.2.1.block pm (cell_lt' x53) (fun e => by have := (own3.tb e).1; omega)).trans ((H3.out.1.block pm lpm (fun e => by have e3 : pm = p := e; have := HRE.out.lt; omega)).trans HRE.out.box)
      have x54 : W4.cell? ⟨pm, 5, none⟩ = some (.slice y q yc) := cell_heap hbx4 rfl
      have f54 := fr_heap hbx4 5
      have HN := hid (HRE.out.step H3.out.1 H3.out.2 H4.out.1 H4.out.2.1)
      clear hbx4 own3
      refine hK.out _ _ (fun _ => x53) ?_
      clear hK K
      refine wpAnyL_one (i := 4) (by kernel_rfl) rfl (fun K hK => ?_)
      go_simp
      refine hK.out _ _ (fun _ => keep bO x53) ?_
      clear hK K
      refine wpAnyL_one (i := 5) (by kernel_rfl) rfl (fun K hK => ?_)
      refine st_append rfl _ _ 24 rfl _ _ rfl rfl hr4 ?_
      (try simp only [Act.put, List.getElem_toArray, List.getElem_cons_succ, List.getElem_cons_zero, List.setIfInBounds_toArray, List.set_cons_zero, List.set_cons_succ])
      refine hK.out _ _ (fun _ => x54) ?_
      clear hK K
      refine wpAnyL_one (i := 6) (by kernel_rfl) rfl (fun K hK => ?_)
      go_simp
      refine hK.out _ _ (fun _ => x54) ?_
      clear hK K
      refine wpAnyL_one (i := 7) (by kernel_rfl) rfl (fun K hK => ?_)
      go_simp
      refine hK.out _ _ (fun h => absurd rfl h) ?_
      clear hK K
      refine wpAnyL_done (by kernel_rfl) ?_ _
      go_wp2_with fail
      go_roundw
      case rel => exact ⟨q + 1, by omega, by go_num, _, by rw [HTk.out]; exact HN.out⟩
      case measure => simp [intOf]; omega
    · obtain rfl : q = k := by omega
      have hDn := doneR hR.rd
      have hltr : w.heap.size < wr.heap.size := (Array.getElem?_eq_some_iff.1 hR.res).1
      have hne : pm ≠ w.heap.size := by have := hR.lt; omega
      have B1 := hR.bel
      obtain ⟨L, hL⟩ : ∃ L, L = (osdsR osdT q l1 e1).1 := ⟨_, rfl⟩
      obtain ⟨M, hM⟩ : ∃ M, M = (osdsR osdT q l1 e1).2 := ⟨_, rfl⟩
      have HD2 := hid HD.out
      rw [← hL, ← hM] at HD2
      rw [← hL] at hlen
      have hOs := own_os hR.own (by rw [← hL, hlen]; omega)
      rw [← hL] at hOs
      rw [← hM] at hDn
      have hCk := check_any ⟨a0, ⟨a1, a2, a3, a4⟩, L⟩ hOs (by show (a1 : Int) ≤ _; omega)
      have HOs := hid hOs
      have r0 : wr.cell? ⟨w.heap.size, 0, none⟩ = some (.int .i64 0) := cell_heap hR.res rfl
      have r1 : wr.cell? ⟨w.heap.size, 1, none⟩ = some (.int .i64 0) := cell_heap hR.res rfl
      have r2 : wr.cell? ⟨w.heap.size, 2, none⟩ = some (.int .i64 0) := cell_heap hR.res rfl
      have r3 : wr.cell? ⟨w.heap.size, 3, none⟩ = some (.int .i64 0) := cell_heap hR.res rfl
      have r4 : wr.cell? ⟨w.heap.size, 4, none⟩ = some (.int .i64 0) := cell_heap hR.res rfl
      have r5 : wr.cell? ⟨w.heap.size, 5, none⟩ = some (.slice none 0 0) := cell_heap hR.res rfl
      have f0 := fr_heap hR.res 0
      have f1 := fr_heap hR.res 1
      have f2 := fr_heap hR.res 2
      have f3 := fr_heap hR.res 3
      have f4 := fr_heap hR.res 4
      have f5 := fr_heap hR.res 5
      have k0 : wr.cell? ⟨pm, 0, none⟩ = some (.int .i64 (a0 : Int)) := cell_heap hR.box rfl
      have k1 : wr.cell? ⟨pm, 1, none⟩ = some (.int .i64 (a1 : Int)) := cell_heap hR.box rfl
      have k2 : wr.cell? ⟨pm, 2, none⟩ = some (.int .i64 (a2 : Int)) := cell_heap hR.box rfl
      have k3 : wr.cell? ⟨pm, 3, none⟩ = some (.int .i64 (a3 : Int)) := cell_heap hR.box rfl
      have k4 : wr.cell? ⟨pm, 4, none⟩ = some (.int .i64 (a4 : Int)) := cell_heap hR.box rfl
      have k5 : wr.cell? ⟨pm, 5, none⟩ = some (.slice y q yc) := cell_heap hR.box rfl
      have hOwn := hid (And.intro hR.own hR.lt)
      unfold vM at hCk
      dsimp only at hCk
      obtain ⟨D, hDD⟩ : ∃ D, D = rDone M.1 M.2 := ⟨_, rfl⟩
      rw [← hDD] at hDn HD2
      generalize mayM ⟨a0, ⟨a1, a2, a3, a4⟩, L⟩ = tm at *
      clear hDD hR hlen hOs HD hlt HR HM
      by_cases h0 : D = 0
      · subst h0
        cases tm with
        | false =>
          have hD : decM l = (zMp, false) := by rw [HD2.out, if_neg (by simp)]
          have hCf : errB false = 1 := rfl
          rw [hCf] at hCk
          go_wp2_with (first
            | (
               go_at_call 50; refine hDn.mono ?_; rintro ed W1 ⟨rfl, h1⟩; replace h1 := h1.symm; subst h1; clear hDn)
            | (
               go_at_call 15; refine hCk.mono ?_; rintro ed W2 ⟨rfl, hb2⟩; clear hCk
               replace r0 := keep hb2 r0
               replace r1 := keep hb2 r1
               replace r2 := keep hb2 r2
               replace r3 := keep hb2 r3
               replace r4 := keep hb2 r4
               replace r5 := keep hb2 r5
               replace f0 := keepf hb2 hltr f0
               replace f1 := keepf hb2 hltr f1
               replace f2 := keepf hb2 hltr f2
               replace f3 := keepf hb2 hltr f3
               replace f4 := keepf hb2 hltr f4
               replace f5 := keepf hb2 hltr f5
               replace k0 := keep hb2 k0
               replace k1 := keep hb2 k1
               replace k2 := keep hb2 k2
               replace k3 := keep hb2 k3
               replace k4 := keep hb2 k4
               replace k5 := keep hb2 k5
               have B2 := on B1 hb2
               have O2 := hid (HOs.out.below hb2)
               replace hltr : w.heap.size < W2.heap.size := cell_lt' r0
               clear hb2))
          refine bodyPost_ret (v := .tuple #[.agg #[.int .i64 0, .int .i64 0, .int .i64 0, .int .i64 0, .int .i64 0, .slice none 0 0], .int .i64 5]) ?_ rfl ?_
          · rw [results_cell2 rfl]
            go_simp
          · rw [hD]
            refine ⟨_, _, _, rfl, ?_, ?_⟩
            · repeat (first | with_reducible exact B2 | (with_reducible refine Below.setCell ?_ (by first | (simp; done) | (simp; omega) | omega) _) | (with_reducible refine Below.alloc ?_ (by first | (simp; done) | (simp; omega) | omega) _))
            · exact ⟨rfl, Nat.le_refl _, by omega, fun _ => ⟨rfl, rfl⟩, .inl rfl⟩
        | true =>
          have hD : decM l = (⟨a0, ⟨a1, a2, a3, a4⟩, L⟩, true) := by rw [HD2.out, if_pos ⟨rfl, rfl⟩]
          have hCt : errB true = 0 := rfl
          rw [hCt] at hCk
          go_wp2_with (first
            | (
               go_at_call 50; refine hDn.mono ?_; rintro ed W1 ⟨rfl, h1⟩; replace h1 := h1.symm; subst h1; clear hDn)
            | (
               go_at_call 15; refine hCk.mono ?_; rintro ed W2 ⟨rfl, hb2⟩; clear hCk
               replace r0 := keep hb2 r0
               replace r1 := keep hb2 r1
               replace r2 := keep hb2 r2
               replace r3 := keep hb2 r3
               replace r4 := keep hb2 r4
               replace r5 := keep hb2 r5
               replace f0 := keepf hb2 hltr f0
               replace f1 := keepf hb2 hltr f1
               replace f2 := keepf hb2 hltr f2
               replace f3 := keepf hb2 hltr f3
               replace f4 := keepf hb2 hltr f4
               replace f5 := keepf hb2 hltr f5
               replace k0 := keep hb2 k0
               replace k1 := keep hb2 k1
               replace k2 := keep hb2 k2
               replace k3 := keep hb2 k3
               replace k4 := keep hb2 k4
               replace k5 := keep hb2 k5
               have B2 := on B1 hb2
               have O2 := hid (HOs.out.below hb2)
               replace hltr : w.heap.size < W2.heap.size := cell_lt' r0
               clear hb2))
          refine bodyPost_ret (v := .tuple #[.agg #[.int .i64 (a0 : Int), .int .i64 (a1 : Int), .int .i64 (a2 : Int), .int .i64 (a3 : Int), .int .i64 (a4 : Int), .slice y q yc], .int .i64 0]) ?_ rfl ?_
          · rw [results_cell2 rfl]
            go_simp
          · rw [hD]
            refine ⟨_, _, _, rfl, ?_, ?_⟩
            · repeat (first | with_reducible exact B2 | (with_reducible refine Below.setCell ?_ (by first | (simp; done) | (simp; omega) | omega) _) | (with_reducible refine Below.alloc ?_ (by first | (simp; done) | (simp; omega) | omega) _))
            · exact O2.out.turns (G := fun k => k = w.heap.size) (turns_put (turns_put (turns_put (turns_put (turns_put (turns_put (Turns.refl _ _) _ _) _ _) _ _) _ _) _ _) _ _) (fun h0 a ha e => by have e3 : a.block = w.heap.size := e; obtain ⟨x', c', q1, _, _, q4⟩ := hOwn.out.1.form; injection q1 with q1 _ _; obtain ⟨g', q5, q6, _⟩ := q4 a (q1 ▸ ha); rw [q5] at e3; have e4 : g' = w.heap.size := e3; have := hOwn.out.2; omega)
      · have hD : decM l = (zMp, false) := by rw [HD2.out, if_neg (fun h => h0 h.1)]
        obtain ⟨dI, hdI⟩ : ∃ dI : Int, dI = (D : Int) := ⟨_, rfl⟩
        rw [← hdI] at hDn
        have hd1 : (dI != 0) = true := by simp; omega
        have hd2 : dI ≠ 0 := by omega
        clear hdI
        go_wp2_with (
               go_at_call 50; refine hDn.mono ?_; rintro ed W1 ⟨rfl, h1⟩; replace h1 := h1.symm; subst h1; clear hDn)
        refine bodyPost_ret (v := .tuple #[.agg #[.int .i64 0, .int .i64 0, .int .i64 0, .int .i64 0, .int .i64 0, .slice none 0 0], .int .i64 5]) ?_ rfl ?_
        · rw [results_cell2 rfl]
          go_simp
        · rw [hD]
          refine ⟨_, _, _, rfl, ?_, ?_⟩
          · repeat (first | with_reducible exact B1 | (with_reducible refine Below.setCell ?_ (by first | (simp; done) | (simp; omega) | omega) _) | (with_reducible refine Below.alloc ?_ (by first | (simp; done) | (simp; omega) | omega) _))
          · exact ⟨rfl, Nat.le_refl _, by omega, fun _ => ⟨rfl, rfl⟩, .inl rfl⟩

end Go.Proofs.Ytnddhlkdemibgaa.At

/-
  The document's reading of numbers: number, getOsd.
  Conditions: the reader lies in memory.
-/
namespace Go.Proofs.Ytnddhlkdemibgaa.At
open Go.RowKit By Fl Wi
set_option linter.unusedVariables false
set_option linter.unusedSimpArgs false
set_option maxRecDepth 100000

def RdR (w : World) (q : Nat) (x : Option Addr) (n c : Nat) (L l : List Nat) (e : Nat) : Prop := ∃ t, RRd w q x n c L t e ∧ L.drop t = l

theorem RdR.lt {w : World} {q : Nat} {x : Option Addr} {n c : Nat} {L l : List Nat} {e : Nat} (h : RdR w q x n c L l e) : q < w.heap.size := by
  obtain ⟨t, h1, _⟩ := h
  exact h1.lt

theorem RdR.turns {G : Nat → Prop} {w w' : World} {q : Nat} {x : Option Addr} {n c : Nat} {L l : List Nat} {e : Nat} (h : RdR w q x n c L l e) (t : Turns G w w') (hq : ¬ G q) (hx : n ≠ 0 → ∀ a, x = some a → ¬ G a.block) : RdR w' q x n c L l e := by
  obtain ⟨k, h1, h2⟩ := h
  refine ⟨k, ⟨keept t hq h1.bytes, keept t hq h1.place, keept t hq h1.bad, fun j => keeptf t hq h1.lt (h1.fr j), ⟨h1.sl.len, h1.sl.le, h1.sl.nil, ?_, h1.sl.lt⟩, h1.ap, h1.le, h1.small⟩, h2⟩
  by_cases h0 : n = 0
  · exact .inl h0
  · exact t.row h1.sl.row (hx h0)

theorem RdR.below {w w' : World} {q : Nat} {x : Option Addr} {n c : Nat} {L l : List Nat} {e : Nat} (h : RdR w q x n c L l e) (b : Below w.heap.size w w') : RdR w' q x n c L l e :=
  h.turns (Turns.of_below (F := fun _ => False) b) (fun h => h) (fun _ _ _ h => h)

theorem RdR.there {w : World} {q : Nat} {x : Option Addr} {n c : Nat} {L l : List Nat} {e : Nat} (h : RdR w q x n c L l e) : n ≠ 0 → ∀ a, x = some a → a.block < w.heap.size := fun h0 a ha => by
  obtain ⟨t, h1, _⟩ := h
  rcases h1.sl.row with h2 | ⟨b, o, h2, h3, _⟩
  · exact absurd h2 h0
  · rw [h2] at ha; injection ha with ha; rw [← ha]; exact h3

theorem rreadN_any {w : World} {q : Nat} {x : Option Addr} {n c : Nat} {L l : List Nat} {e : Nat} (b : Int) (h : RdR w q x n c L l e) (hb1 : -9223372036854775808 ≤ b) (hb2 : b ≤ 9223372036854775807) :
    Calls Try.prog 52 #[.pointer (some ⟨q, 0, none⟩), .int .i64 b] w fun ed w' => ∃ (v : Nat) (l' : List Nat) (e' : Nat), ed = .returned (.int .i64 (v : Int)) ∧ Hid (rNum b l e = (v, l', e') ∧ Turns (atP q) w w' ∧ RdR w' q x n c L l' e') := by
  obtain ⟨t, h1, rfl⟩ := h
  exact (rnum_any q n c t e b x L w h1 hb1 hb2).mono fun ed w' ⟨h3, h4, t', h5, h6⟩ => ⟨_, _, _, h3, rfl, turn_turns h4, t', h5, h6⟩

theorem number_any {w : World} {q : Nat} {x : Option Addr} {n c : Nat} {L l : List Nat} {e : Nat} (h : RdR w q x n c L l e) :
    Calls Try.prog 51 #[.pointer (some ⟨q, 0, none⟩)] w fun ed w' => ∃ (v : Nat) (l' : List Nat) (e' : Nat), ed = .returned (.int .i64 (v : Int)) ∧ Hid (rNum 2147483647 l e = (v, l', e') ∧ Turns (atP q) w w' ∧ RdR w' q x n c L l' e') := by
  have hN := rreadN_any 2147483647 h (by omega) (by omega)
  clear h
  go_enter Try.func51, Try.ntmps51
  go_wp2_with (go_at_call 52; refine hN.mono ?_; rintro ed w1 ⟨v, l1, e1, rfl, H1⟩; clear hN)
  go_ret
  exact ⟨v, l1, e1, rfl, H1.out⟩

set_option maxHeartbeats 3200000 in
theorem getOsd_any {w : World} {q : Nat} {x : Option Addr} {n c : Nat} {L l : List Nat} {e : Nat} (h : RdR w q x n c L l e) :
    Calls Try.prog 53 #[.pointer (some ⟨q, 0, none⟩)] w fun ed w' => ed = .returned (vO (osdN (numsR (bigT 8) l e).1)) ∧ Hid (Turns (atP q) w w' ∧ RdR w' q x n c L (numsR (bigT 8) l e).2.1 (numsR (bigT 8) l e).2.2) := by
  have bA := al w (.cells #[.int .i64 0, .bool false, .bool false, .int .i64 0, .int .i64 0, .int .i64 0, .int .i64 0, .int .i64 0] 28)
  have HX := hid (heap_alloc_new w (.cells #[.int .i64 0, .bool false, .bool false, .int .i64 0, .int .i64 0, .int .i64 0, .int .i64 0, .int .i64 0] 28))
  have HBA := hid bA
  have hql := h.lt
  have HQL := hid hql
  have HTh := hid h.there
  have hN := fun (W : World) (l : List Nat) (e : Nat) (h : RdR W q x n c L l e) => number_any h
  have hR0 := hid (h.below bA)
  clear h bA hql
  go_enter Try.func53, Try.ntmps53
  go_wp2_with (first
    | (
       go_at_call 51; refine (hN _ _ _ hR0.out).mono ?_; rintro ed w1 ⟨v1, l1, e1, rfl, H1⟩; clear hR0
       have hR1 := hid H1.out.2.2)
    | (
       go_at_call 51; refine (hN _ _ _ hR1.out).mono ?_; rintro ed w2 ⟨v2, l2, e2, rfl, H2⟩; clear hR1
       have hR2 := hid H2.out.2.2)
    | (
       go_at_call 51; refine (hN _ _ _ hR2.out).mono ?_; rintro ed w3 ⟨v3, l3, e3, rfl, H3⟩; clear hR2
       have hR3 := hid H3.out.2.2)
    | (
       go_at_call 51; refine (hN _ _ _ hR3.out).mono ?_; rintro ed w4 ⟨v4, l4, e4, rfl, H4⟩; clear hR3
       have hR4 := hid H4.out.2.2)
    | (
       go_at_call 51; refine (hN _ _ _ hR4.out).mono ?_; rintro ed w5 ⟨v5, l5, e5, rfl, H5⟩; clear hR4
       have hR5 := hid H5.out.2.2)
    | (
       go_at_call 51; refine (hN _ _ _ hR5.out).mono ?_; rintro ed w6 ⟨v6, l6, e6, rfl, H6⟩; clear hR5
       have hR6 := hid H6.out.2.2)
    | (
       go_at_call 51; refine (hN _ _ _ hR6.out).mono ?_; rintro ed w7 ⟨v7, l7, e7, rfl, H7⟩; clear hR6
       have hR7 := hid H7.out.2.2)
    | (
       go_at_call 51; refine (hN _ _ _ hR7.out).mono ?_; rintro ed w8 ⟨v8, l8, e8, rfl, H8⟩; clear hR7
       have HT := hid (((((((H1.out.2.1.trans H2.out.2.1).trans H3.out.2.1).trans H4.out.2.1).trans H5.out.2.1).trans H6.out.2.1).trans H7.out.2.1).trans H8.out.2.1)
       have hbx : w8.heap[w.heap.size]? = some (.cells #[.int .i64 0, .bool false, .bool false, .int .i64 0, .int .i64 0, .int .i64 0, .int .i64 0, .int .i64 0] 28 (0, 0)) := (HT.out.block _ (Array.getElem?_eq_some_iff.1 HX.out).1 (fun e => by have e3 : w.heap.size = q := e; have := HQL.out; omega)).trans HX.out
       have d0 : w8.cell? ⟨w.heap.size, 0, none⟩ = some (.int .i64 0) := cell_heap hbx rfl
       have d1 : w8.cell? ⟨w.heap.size, 1, none⟩ = some (.bool false) := cell_heap hbx rfl
       have d2 : w8.cell? ⟨w.heap.size, 2, none⟩ = some (.bool false) := cell_heap hbx rfl
       have d3 : w8.cell? ⟨w.heap.size, 3, none⟩ = some (.int .i64 0) := cell_heap hbx rfl
       have d4 : w8.cell? ⟨w.heap.size, 4, none⟩ = some (.int .i64 0) := cell_heap hbx rfl
       have d5 : w8.cell? ⟨w.heap.size, 5, none⟩ = some (.int .i64 0) := cell_heap hbx rfl
       have d6 : w8.cell? ⟨w.heap.size, 6, none⟩ = some (.int .i64 0) := cell_heap hbx rfl
       have d7 : w8.cell? ⟨w.heap.size, 7, none⟩ = some (.int .i64 0) := cell_heap hbx rfl
       have f0 := fr_heap hbx 0
       have f1 := fr_heap hbx 1
       have f2 := fr_heap hbx 2
       have f3 := fr_heap hbx 3
       have f4 := fr_heap hbx 4
       have f5 := fr_heap hbx 5
       have f6 := fr_heap hbx 6
       have f7 := fr_heap hbx 7
       clear hbx))
  have hP : numsR (bigT 8) l e = ([(v1 : Int), (v2 : Int), (v3 : Int), (v4 : Int), (v5 : Int), (v6 : Int), (v7 : Int), (v8 : Int)], l8, e8) := by
    simp only [bigT, List.replicate, numsR, H1.out.1, H2.out.1, H3.out.1, H4.out.1, H5.out.1, H6.out.1, H7.out.1, H8.out.1]
  refine bodyPost_ret (v := .agg #[.int .i64 (v1 : Int), .bool ((v2 : Int) == 1), .bool ((v3 : Int) == 1), .int .i64 (v4 : Int), .int .i64 (v5 : Int), .int .i64 (v6 : Int), .int .i64 (v7 : Int), .int .i64 (v8 : Int)]) ?_ rfl ?_
  · rw [results_cell1 rfl]
    go_simp
  · rw [hP]
    have T1 : Turns (atP q) w w8 := (Turns.of_below HBA.out).trans HT.out
    refine ⟨rfl, ?_, ?_⟩
    · exact T1.more (G := fun k => k = w.heap.size) (turns_put (turns_put (turns_put (turns_put (turns_put (turns_put (turns_put (turns_put (Turns.refl _ _) _ _) _ _) _ _) _ _) _ _) _ _) _ _) _ _) (fun i hi => .inr (by have e3 : i = w.heap.size := hi; omega))
    · exact H8.out.2.2.turns (G := fun k => k = w.heap.size) (turns_put (turns_put (turns_put (turns_put (turns_put (turns_put (turns_put (turns_put (Turns.refl _ _) _ _) _ _) _ _) _ _) _ _) _ _) _ _) _ _) (fun e => by have e3 : q = w.heap.size := e; have := HQL.out; omega) (fun h0 a ha e => by have e3 : a.block = w.heap.size := e; have := HTh.out h0 a ha; omega)

end Go.Proofs.Ytnddhlkdemibgaa.At
