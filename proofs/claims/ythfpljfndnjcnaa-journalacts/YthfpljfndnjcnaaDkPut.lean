/-
  What Write of a disk does: a contract over plain numbers ('DkPlain').
  Conditions: the disk is one that New gave ('PDk'); there is such a sector; Sector bytes are written.
-/
import Derived.Test.YthfpljfndnjcnaaDkWrite
namespace Go.Proofs.Ythfpljfndnjcnaa
open Go.RowKit By Dk
set_option linter.unusedVariables false
set_option linter.unusedSimpArgs false

def wcs (a : Nat) : Array Value := (rowOf (wrV a (fun _ => 0)) 65).toArray

theorem pd_write {w w4 : World} {F : Nat → Prop} {p gs gn : Nat} {R R' : Value} {n s m Q a : Nat} {f A g : Nat → Nat} {D : Nat → Nat → Nat} {q : Nat → Nat} (h : PDk w F p gs gn R n s m f A D q) (T : Turns (fun k => R.ownBlock = some k) w w4)
    (hQ : Blk w4 Q 84 65 (wrV a g)) (hQs : w.heap.size ≤ Q) (ho : w4.ownsRow 0 64 1 R' (m + 1) (rowOf (fun i => .pointer (some ⟨q i, 0, none⟩)) m ++ [.pointer (some ⟨Q, 0, none⟩)])) (hR' : ∀ k, R'.ownBlock = some k → R.ownBlock = some k ∨ w.heap.size ≤ k) (ha : a < n) (hg : ∀ i, g i < 256) (hm : m < 1000) :
    Turns F w ((w4.setCell ⟨p, 1, none⟩ R').setCell ⟨gn, a, none⟩ (.pointer (some ⟨Q, 0, none⟩))) ∧
    Pd ((w4.setCell ⟨p, 1, none⟩ R').setCell ⟨gn, a, none⟩ (.pointer (some ⟨Q, 0, none⟩))) (grow F w ((w4.setCell ⟨p, 1, none⟩ R').setCell ⟨gn, a, none⟩ (.pointer (some ⟨Q, 0, none⟩)))) p n (m + 1) f (ext A m a) (ext D m g) := by
  have hp := h.obj.lt
  have hgs := h.safe.lt
  have hgn := h.near.lt
  have np : R.ownBlock ≠ some p := ownsRow_ne h.own h.obj (by decide)
  have ns : R.ownBlock ≠ some gs := ownsRow_ne h.own h.safe (by decide)
  have nq : ∀ i, i < m → R.ownBlock ≠ some (q i) := fun i hi => ownsRow_ne h.own (h.wr i hi) (by decide)
  have pgn : p ≠ gn := h.obj.ne h.near (by decide)
  have pgs : p ≠ gs := h.obj.ne h.safe (by decide)
  have gsn : gs ≠ gn := h.safe.ne h.near (by decide)
  have T' : Turns F w w4 := T.weak (fun k hk => h.fR k hk)
  have T5 := T'.setCell (p := ⟨p, 1, none⟩) (.inl h.fp) R'
  have T6 := T5.setCell (p := ⟨gn, a, none⟩) (.inl h.fn) (.pointer (some ⟨Q, 0, none⟩))
  have hsz := T6.size
  have keep : ∀ k, k ≠ p → k ≠ gn → ((w4.setCell ⟨p, 1, none⟩ R').setCell ⟨gn, a, none⟩ (.pointer (some ⟨Q, 0, none⟩))).heap[k]? = w4.heap[k]? := fun k h1 h2 =>
    (Below.heap_setCell _ _ _ _ h2).trans (Below.heap_setCell _ _ _ _ h1)
  have hpos : ∀ k, R'.ownBlock = some k → k ≠ p ∧ k ≠ gn := fun k hk => by
    rcases hR' k hk with h1 | h1
    · exact ⟨fun e => np (by rw [h1, e]), fun e => h.rn (by rw [h1, e])⟩
    · omega
  refine ⟨T6, gs, gn, R', s, ext q m Q, ⟨?_, ?_, ?_, ?_, fun i hi => ?_, fun i hi => ?_, h.len, fun e => (hpos _ e).2 rfl, .inl h.fp, .inl h.fs, .inl h.fn, fun i hi => ?_, fun k hk => ?_, h.lt, fun i j => ?_, fun k hk => ?_, h.n1, h.n2, by omega⟩⟩
  · refine Blk.of_heap (w := w4.setCell ⟨p, 1, none⟩ R') (((h.obj.of_heap (T.block _ hp np)).set 1 R').congr fun k hk => ?_) (Below.heap_setCell _ _ _ _ pgn)
    unfold upd obj3
    by_cases e : k = 1
    · simp [e]
    · simp [e]
  · exact (h.safe.of_heap (T.block _ hgs ns)).of_heap (keep _ (Ne.symm pgs) gsn)
  · have b4 : Blk (w4.setCell ⟨p, 1, none⟩ R') gn 64 n (nearV q A m) := (h.near.of_heap (T.block _ hgn h.rn)).of_heap (Below.heap_setCell _ _ _ _ (Ne.symm pgn))
    refine (b4.set a (.pointer (some ⟨Q, 0, none⟩))).congr fun k hk => ?_
    unfold upd nearV
    rw [last_ext]
    by_cases e : k = a
    · subst e
      simp [ext_new]
    · have e' : ¬ a = k := fun h => e h.symm
      rw [if_neg e]
      simp only [if_neg e']
      by_cases h0 : last A k m = 0
      · simp [h0]
      · have := last_le A k m
        rw [if_neg h0, if_neg h0, ext_old q m Q (by omega)]
  · have e : rowOf (fun i => Value.pointer (some ⟨ext q m Q i, 0, none⟩)) (m + 1) = rowOf (fun i => .pointer (some ⟨q i, 0, none⟩)) m ++ [.pointer (some ⟨Q, 0, none⟩)] := by
      rw [rowOf_succ, ext_new, rowOf_congr (fun k hk => by rw [ext_old q m Q hk])]
    rw [e]
    exact ownsRow_same ho (fun k hk => keep k (hpos k hk).1 (hpos k hk).2)
  · by_cases e : i < m
    · have b := h.wr i e
      rw [ext_old q m Q e, ext_old A m a e, ext_old D m g e]
      refine (b.of_heap (T.block _ b.lt (nq i e))).of_heap (keep _ (b.ne h.obj (by decide)) (b.ne h.near (by decide)))
    · obtain rfl : i = m := by omega
      rw [ext_new, ext_new, ext_new]
      exact hQ.of_heap (keep _ (by omega) (by omega))
  · by_cases e : i < m
    · rw [ext_old A m a e]; exact h.at_ i e
    · obtain rfl : i = m := by omega
      rw [ext_new]; exact ha
  · by_cases e : i < m
    · rw [ext_old q m Q e]; exact .inl (h.fq i e)
    · obtain rfl : i = m := by omega
      rw [ext_new]
      refine .inr ⟨hQs, ?_⟩
      have := hQ.lt
      simpa [World.setCell] using this
  · rcases hR' k hk with h1 | h1
    · exact .inl (h.fR k h1)
    · refine .inr ⟨h1, ?_⟩
      have := (ho.lt k hk).2
      simpa [World.setCell] using this
  · unfold ext
    split
    · exact h.ltD i j
    · exact hg j
  · rcases hk with hk | hk
    · exact Nat.lt_of_lt_of_le (h.flt k hk) hsz
    · exact hk.2

set_option maxHeartbeats 1000000 in
theorem write_yes (p n m a c : Nat) (F : Nat → Prop) (f A g : Nat → Nat) (D : Nat → Nat → Nat) (x : Option Addr) (z : Int) (hz : z = (a : Int)) (w : World) (h : Pd w F p n m f A D) (ha : a < n) (hx : RowAt w x 64 g) (hg : ∀ i, g i < 256) (hm : m < 1000) :
    Calls Try.prog 26 #[.pointer (some ⟨p, 0, none⟩), .int .i64 z, .slice x 64 c] w fun e w' => e = .returned (.int .i64 0) ∧ Turns F w w' ∧ Pd w' (grow F w w') p n (m + 1) f (ext A m a) (ext D m g) := by
  subst hz
  obtain ⟨gs, gn, R, s, q, h⟩ := h
  have hn2 := h.n2
  have hH : Calls Try.prog 43 #[.pointer (some ⟨p, 0, none⟩), .int .i64 (a : Int)] w fun e w' => e = .returned (.bool true) ∧ w' = w := has_any _ n a true w (size_any p n n _ w h.c2) (fun _ _ => rfl) (fun e => absurd ⟨by omega, by omega⟩ e)
  rcases hx with hx | ⟨b, o, rfl, hb, hc⟩
  · omega
  have b1 : Below w.heap.size w (w.alloc (.cells (wcs a) 84)) := (Below.refl _ _).alloc (Nat.le_refl _) _
  have hQ1 : Blk (w.alloc (.cells (wcs a) 84)) w.heap.size 84 65 (wrV a (fun _ => 0)) := Blk.new _ _ _ _ _ rfl
  obtain ⟨w2, hcp, hQ2, t2, s2⟩ := copy_blk (w.alloc (.cells (wcs a) 84)) w.heap.size 1 64 65 64 c b o 84 _ (fun j => .int .u8 (g j : Int)) hQ1 (by omega) (fun j hj => (b1.cell (p := ⟨b, o + j, none⟩) hb).trans (hc j hj)) (fun _ => rfl)
  have hsz2 : w2.heap.size = w.heap.size + 1 := by simpa using s2
  have h1 := h.below b1
  have bw2 : Below w.heap.size w w2 := b1.trans (t2.below (fun k hk => by omega) (by simp))
  have h2 := h.below bw2
  have b3 : Below w.heap.size w (w2.alloc (.cells #[.pointer (some ⟨w.heap.size, 0, none⟩)] 64)) := bw2.alloc bw2.size _
  have h3 := h.below b3
  obtain ⟨i0, hi, hz0, hz1, hz2⟩ := info_parts info_ptr
  obtain ⟨R', w4, hap, ho, hgr, hR'⟩ := push_gen (w2.alloc (.cells #[.pointer (some ⟨w.heap.size, 0, none⟩)] 64)) 53 64 i0 (.pointer none) 1 8 Try.underlying53 hi hz0 hz1 hz2 rfl (by decide) R m _ h3.own
    ⟨w2.heap.size, 0, none⟩ 1 1 [.pointer (some ⟨w.heap.size, 0, none⟩)] rfl (fun j u hj => by
      match j, hj with
      | 0, hj => rw [add_at]; simpa using hj
      | j + 1, hj => simp at hj) (fun u hu => by simp at hu; subst hu; rfl) (by omega) (by unfold maxLen; omega) (by omega)
  obtain ⟨x', c', hRe, _⟩ := ownsRow_form ho
  subst hRe
  have T4 : Turns (fun k => R.ownBlock = some k) w w4 := (Turns.of_below b3).grown hgr (fun k hk => .inl hk)
  have hRlt : ∀ k, R.ownBlock = some k → k < w.heap.size := fun k hk => h.flt k (h.fR k hk)
  have hQ4 : Blk w4 w.heap.size 84 65 (wrV a g) := by
    have e1 : Blk w2 w.heap.size 84 65 (wrV a g) := hQ2.congr fun k hk => by
      unfold over wrV
      by_cases e : k = 0
      · simp [e]
      · rw [if_pos ⟨by omega, by omega⟩, if_neg e]
    have e2 := e1.of_heap (w' := w2.alloc (.cells #[.pointer (some ⟨w.heap.size, 0, none⟩)] 64)) (heap_alloc_old _ _ (by omega))
    exact e2.of_heap (hgr.block _ e2.lt (fun e => by have := hRlt _ e.symm; omega))
  have hsz3 : (w2.alloc (.cells #[.pointer (some ⟨w.heap.size, 0, none⟩)] 64)).heap.size = w.heap.size + 2 := by simp [hsz2]
  have HF := hid (pd_write h T4 hQ4 (Nat.le_refl _) ho (fun k hk => by rcases hR' k hk with e | e; exact .inl e; right; omega) ha hg hm)
  have np : R.ownBlock ≠ some p := ownsRow_ne h.own h.obj (by decide)
  have o4 := h.obj.of_heap (T4.block _ h.obj.lt np)
  have n4 := h.near.of_heap (T4.block _ h.near.lt h.rn)
  have k1 := h2.c1
  have k4 := o4.cell (k := 1) (by omega)
  have f4 := o4.frozen 1
  have o5 := o4.set 1 (.slice x' (m + 1) c')
  have k5 : (w4.setCell ⟨p, 1, none⟩ (.slice x' (m + 1) c')).cell? ⟨p, 2, none⟩ = some (.slice (some ⟨gn, 0, none⟩) n n) := o5.cell (k := 2) (by omega)
  have n5 : Blk (w4.setCell ⟨p, 1, none⟩ (.slice x' (m + 1) c')) gn 64 n (nearV q A m) := n4.of_heap (Below.heap_setCell _ _ _ _ (Ne.symm (h.obj.ne h.near (by decide))))
  have k6 := n5.cell ha
  have f6 := n5.frozen a
  have hca : ∀ v, _ := fun v => cut_arr w.heap.size v
  clear h h1 h2 h3 b1 b3 bw2 hQ1 hQ2 hQ4 t2 s2 T4 ho hgr hR' hRlt hc hb np o4 n4 o5 n5 hi hz0 hz1 hz2 hsz2 hsz3 hg
  generalize nearV q A m a = V at *
  go_enter Try.func26, Try.ntmps26
  go_wp2_with (first
    | (go_at_call 43; refine hH.mono ?_; rintro e w' ⟨rfl, hw⟩; subst w'; clear hH)
    | (refine wpList_buildAs rfl _ _ rfl (wcs a) (by kernel_rfl) ?_)
    | (at_builtin; refine wpList_append_run rfl _ _ 53 rfl _ _ rfl rfl hap ?_; clear hap))
  go_ret
  exact ⟨rfl, HF.out⟩

end Go.Proofs.Ythfpljfndnjcnaa
