/-
  The document's Apply: an OSD more.
  Conditions: lists lie in memory.
-/
import Derived.Test.YtnddhlkdemibgaaJ09
namespace Go.Proofs.Ytnddhlkdemibgaa.At
open Go.RowKit By Fl
set_option linter.unusedVariables false
set_option linter.unusedSimpArgs false
set_option maxRecDepth 100000

theorem over_low {o a : Osd} {L : List Osd} {k : Nat} (hk : k < inAt o L) (ha : L[k]? = some a) : ¬ o.id < a.id := by
  have hov : overId o.id a = false := by
    unfold inAt at hk
    cases hq : L.findIdx? (overId o.id) with
    | none => exact idx_none hq k a ha
    | some q =>
      rw [hq] at hk
      obtain ⟨_, _, _, h4⟩ := idx_some hq
      exact h4 k a hk ha
  unfold overId at hov
  simpa using hov

theorem over_at {o a : Osd} {L : List Osd} (ha : L[inAt o L]? = some a) : o.id < a.id := by
  unfold inAt at ha
  cases hq : L.findIdx? (overId o.id) with
  | none =>
    rw [hq] at ha
    have := (List.getElem?_eq_some_iff.1 ha).1
    simp only [] at this
    omega
  | some q =>
    rw [hq] at ha
    obtain ⟨b, hb, h3, _⟩ := idx_some hq
    have := Option.some.inj (hb.symm.trans ha)
    subst this
    unfold overId at h3
    simpa using h3

def built (o : Osd) (L : List Osd) (at_ k : Nat) : List Osd := if at_ < k then L.take at_ ++ o :: (L.drop at_).take (k - at_) else L.take k

theorem built_zero (o : Osd) (L : List Osd) (at_ : Nat) : built o L at_ 0 = [] := by unfold built; simp
theorem built_low {o a : Osd} {L : List Osd} {at_ k : Nat} (hk : k < at_) (ha : L[k]? = some a) : built o L at_ (k + 1) = built o L at_ k ++ [a] := by
  unfold built
  rw [if_neg (by omega), if_neg (by omega), List.take_add_one, ha]
  rfl
theorem built_at {o a : Osd} {L : List Osd} {at_ : Nat} (ha : L[at_]? = some a) : built o L at_ (at_ + 1) = built o L at_ at_ ++ [o] ++ [a] := by
  unfold built
  rw [if_pos (by omega), if_neg (by omega), show at_ + 1 - at_ = 1 by omega, List.take_add_one, List.getElem?_drop, Nat.add_zero, ha]
  simp
theorem built_high {o a : Osd} {L : List Osd} {at_ k : Nat} (hk : at_ < k) (ha : L[k]? = some a) : built o L at_ (k + 1) = built o L at_ k ++ [a] := by
  unfold built
  rw [if_pos (by omega), if_pos hk, show k + 1 - at_ = (k - at_) + 1 by omega, List.take_add_one, List.getElem?_drop, show at_ + (k - at_) = k by omega, ha]
  simp
theorem built_end {o : Osd} {L : List Osd} {at_ n : Nat} (hn : L.length = n) (h : at_ < n) : built o L at_ n = L.take at_ ++ o :: L.drop at_ := by
  unfold built
  rw [if_pos h, List.take_of_length_le (l := L.drop at_) (by rw [List.length_drop]; omega)]
theorem built_last {o : Osd} {L : List Osd} {n : Nat} (hn : L.length = n) : built o L n n ++ [o] = L.take n ++ o :: L.drop n := by
  unfold built
  rw [if_neg (by omega), List.drop_of_length_le (by omega)]
theorem built_len {o : Osd} {L : List Osd} {at_ k n : Nat} (hn : L.length = n) (hk : k ≤ n) : (built o L at_ k).length ≤ k + 1 := by
  unfold built
  split
  · simp
    omega
  · simp
    omega

theorem push1 {W : World} {B : Nat} {R : Value} {L : List Osd} (h : Own W B 28 8 enO R L) (a : Osd) (hB : B ≤ W.heap.size) (hl : L.length ≤ 1000) :
    ∃ x' c' W', (Builtin.append_ #[24, 24] 24 #[R, .slice (some ⟨W.heap.size, 0, none⟩) 1 1]).run Try.prog (W.alloc (.cells #[.int .i64 a.id, .bool a.up, .bool a.inn, .int .i64 a.wt, .int .i64 a.life, .int .i64 a.boot, .int .i64 a.host, .int .i64 a.rack] 28)) = .ok (.slice x' (L.length + 1) c') W' ∧
      Hid (Own W' B 28 8 enO (.slice x' (L.length + 1) c') (L ++ [a]) ∧ Turns (fun k => R.ownBlock = some k) W W' ∧ ∀ g, (Value.slice x' (L.length + 1) c').ownBlock = some g → R.ownBlock = some g ∨ W.heap.size ≤ g) := by
  have bx := al W (.cells #[.int .i64 a.id, .bool a.up, .bool a.inn, .int .i64 a.wt, .int .i64 a.life, .int .i64 a.boot, .int .i64 a.host, .int .i64 a.rack] 28)
  have ob : OBox (W.alloc (.cells #[.int .i64 a.id, .bool a.up, .bool a.inn, .int .i64 a.wt, .int .i64 a.life, .int .i64 a.boot, .int .i64 a.host, .int .i64 a.rack] 28)) W.heap.size a := heap_alloc_new _ _
  obtain ⟨x', c', W', hr, H⟩ := (h.below bx).push orow (by simp; omega) ⟨W.heap.size, 0, none⟩ 1 1 [a] rfl (fun j u hj => ob.src j u (by rwa [flat_one] at hj)) (by omega)
  refine ⟨x', c', W', hr, H.out.1, (Turns.of_below bx).trans H.out.2.1, fun g hg => ?_⟩
  rcases H.out.2.2 g hg with q | q
  · exact .inl q
  · exact .inr (by rw [q]; simp)

/- The list that is built, in the box nb. -/
structure AddAt (B : Nat) (Wb wr : World) (nb : Nat) (e1 pk pm pg pd : Int) (R : Value) (Lk : List Osd) : Prop where
  blk : wr.heap[nb]? = some (.cells #[.int .i64 e1, .int .i64 pk, .int .i64 pm, .int .i64 pg, .int .i64 pd, R] 26 (0, 0))
  own : Own wr B 28 8 enO R Lk
  turns : Turns (fun k => k = nb) Wb wr
  new : ∀ g, R.ownBlock = some g → Wb.heap.size ≤ g
  lt : nb < Wb.heap.size
  big : B ≤ Wb.heap.size

section
variable {B nb : Nat} {Wb wr : World} {e1 pk pm pg pd : Int} {R : Value} {Lk : List Osd}

theorem AddAt.cell (h : AddAt B Wb wr nb e1 pk pm pg pd R Lk) {b j : Nat} {v : Value} (hb : b ≠ nb) (hv : Wb.cell? ⟨b, j, none⟩ = some v) : wr.cell? ⟨b, j, none⟩ = some v :=
  (World.cell?_of_block (a := ⟨b, j, none⟩) (h.turns.block b (cell_lt' hv) hb)).trans hv

theorem AddAt.below {wr' : World} (h : AddAt B Wb wr nb e1 pk pm pg pd R Lk) (b : Below wr.heap.size wr wr') : AddAt B Wb wr' nb e1 pk pm pg pd R Lk :=
  ⟨(b.block _ (Array.getElem?_eq_some_iff.1 h.blk).1).trans h.blk, h.own.below b, h.turns.trans (Turns.of_below b), h.new, h.lt, h.big⟩

theorem AddAt.step {W' : World} {R' : Value} {a : Osd} (h : AddAt B Wb wr nb e1 pk pm pg pd R Lk) (ho : Own W' B 28 8 enO R' (Lk ++ [a])) (ht : Turns (fun k => R.ownBlock = some k) wr W') (hn : ∀ g, R'.ownBlock = some g → R.ownBlock = some g ∨ wr.heap.size ≤ g) :
    AddAt B Wb (W'.setCell ⟨nb, 5, none⟩ R') nb e1 pk pm pg pd R' (Lk ++ [a]) := by
  have hlt := h.lt
  have hsz := h.turns.size
  have hnb : W'.heap[nb]? = some (.cells #[.int .i64 e1, .int .i64 pk, .int .i64 pm, .int .i64 pg, .int .i64 pd, R] 26 (0, 0)) :=
    (ht.block nb (by omega) (fun e => by have := h.new nb e; omega)).trans h.blk
  have hnew : ∀ g, R'.ownBlock = some g → Wb.heap.size ≤ g := fun g hg => by
    rcases hn g hg with q | q
    · exact h.new g q
    · omega
  refine ⟨heap_set hnb _, ho.turns (turns_put (Turns.refl _ _) _ _) (fun g hg e => by have := hnew g hg; omega), ?_, hnew, h.lt, h.big⟩
  exact (h.turns.more ht (fun i hi => .inr (h.new i hi))).setCell (p := ⟨nb, 5, none⟩) (.inl rfl) _

/- The box, behind an append that is not yet stored. -/
theorem AddAt.boxAt {W' : World} (h : AddAt B Wb wr nb e1 pk pm pg pd R Lk) (ht : Turns (fun k => R.ownBlock = some k) wr W') : W'.heap[nb]? = some (.cells #[.int .i64 e1, .int .i64 pk, .int .i64 pm, .int .i64 pg, .int .i64 pd, R] 26 (0, 0)) := by
  have hlt := h.lt
  have hsz := h.turns.size
  exact (ht.block nb (by omega) (fun e => by have := h.new nb e; omega)).trans h.blk

theorem AddAt.other {W' : World} (h : AddAt B Wb wr nb e1 pk pm pg pd R Lk) (ht : Turns (fun k => R.ownBlock = some k) wr W') {b j : Nat} {v : Value} (hb : b < Wb.heap.size) (hv : wr.cell? ⟨b, j, none⟩ = some v) : W'.cell? ⟨b, j, none⟩ = some v :=
  (World.cell?_of_block (a := ⟨b, j, none⟩) (ht.block b (cell_lt' hv) (fun e => by have := h.new b e; omega))).trans hv

end

end Go.Proofs.Ytnddhlkdemibgaa.At
