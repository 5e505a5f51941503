/-
  7 texts of this proof, one behind the other: DkWrite, DkPut, DkKeep, DkCrash, DkAwake, DkNobody, MxOrders.
-/
import Derived.Test.YtbbjklenpgkooaaGreatJ02
import Derived.Deep.RegionHeld3
import Derived.Laws.BitsAllLaws
import Derived.OrdersHeld
/-
  What New and Write of a disk do: contracts over plain numbers ('DkPlain').
  Conditions: Write's disk is one that New gave ('PDk'), or one of which has is known.
-/
namespace Go.Proofs.YtbbjklenpgkooaaGreat
open Go.RowKit By Dk
set_option linter.unusedVariables false
set_option linter.unusedSimpArgs false
set_option maxRecDepth 100000

theorem new_no (z : Int) (w : World) (h : z < 1 ∨ 4096 < z) :
    Calls Tryz.prog 10 #[.int .i64 z] w fun e w' => e = .returned (.tuple #[.pointer none, .int .i64 1]) ∧ w' = w := by
  by_cases h1 : z < 1
  · clear h
    go_enter Tryz.func10, Tryz.ntmps10
    go_wp2_with fail
    go_ret2
    exact ⟨rfl, rfl⟩
  · have h2 : 4096 < z := by omega
    clear h
    go_enter Tryz.func10, Tryz.ntmps10
    go_wp2_with fail
    go_ret2
    exact ⟨rfl, rfl⟩

theorem pd_new {w w1 w2 : World} {gs gn n s : Nat} (A : Nat → Nat) (D : Nat → Nat → Nat) (hD : ∀ i j, D i j < 256) (hs : s = 64 * n) (h1 : 1 ≤ n) (h2 : n ≤ 4096) (hb : Below w.heap.size w w2) (b1 : Blk w2 gs 5 s (fun _ => .int .u8 0)) (b2 : Blk w2 gn 83 n (fun _ => .pointer none)) (g1 : w.heap.size ≤ gs) (g2 : w.heap.size ≤ gn) :
    Below w.heap.size w (w2.alloc (.cells #[.slice (some ⟨gs, 0, none⟩) s s, .slice none 0 0, .slice (some ⟨gn, 0, none⟩) n n] 73)) ∧
    Pd (w2.alloc (.cells #[.slice (some ⟨gs, 0, none⟩) s s, .slice none 0 0, .slice (some ⟨gn, 0, none⟩) n n] 73)) (fun k => w.heap.size ≤ k ∧ k < w2.heap.size + 1) w2.heap.size n 0 (fun _ => 0) A D := by
  have hb3 : Below w2.heap.size w2 (w2.alloc (.cells #[.slice (some ⟨gs, 0, none⟩) s s, .slice none 0 0, .slice (some ⟨gn, 0, none⟩) n n] 73)) := (Below.refl _ _).alloc (Nat.le_refl _) _
  have l1 := b1.lt
  have l2 := b2.lt
  have hsz := hb.size
  refine ⟨hb.trans (hb3.mono hb.size), gs, gn, .slice none 0 0, s, fun _ => 0, ⟨Blk.new _ _ _ _ _ rfl, ?_, ?_, ⟨rfl, .inl ⟨rfl, rfl⟩⟩, fun i hi => by omega, fun i hi => by omega, hs, by simp [Value.ownBlock], ⟨hsz, by omega⟩, ⟨g1, by omega⟩, ⟨g2, by omega⟩, fun i hi => by omega, fun g hg => by simp [Value.ownBlock] at hg, fun _ => by omega, hD, fun k hk => by simp; omega, h1, h2, by omega⟩⟩
  · exact b1.of_heap (hb3.block _ l1)
  · exact (b2.of_heap (hb3.block _ l2)).congr fun k hk => rfl

set_option maxHeartbeats 1000000 in
set_option maxRecDepth 100000 in
theorem new_yes (n : Nat) (z : Int) (hz : z = (n : Int)) (A : Nat → Nat) (D : Nat → Nat → Nat) (hD : ∀ i j, D i j < 256) (w : World) (h1 : 1 ≤ n) (h2 : n ≤ 4096) :
    Calls Tryz.prog 10 #[.int .i64 z] w fun e w' => ∃ p, e = .returned (.tuple #[.pointer (some ⟨p, 0, none⟩), .int .i64 0]) ∧ Below w.heap.size w w' ∧ Pd w' (fun k => w.heap.size ≤ k ∧ k < w'.heap.size) p n 0 (fun _ => 0) A D := by
  subst hz
  obtain ⟨s, hs⟩ : ∃ s, s = 64 * n := ⟨_, rfl⟩
  have e1 : (n : Int) * 64 = (s : Int) := by omega
  have hs9 : s ≤ 262144 := by omega
  have hwr : IntKind.i64.wrap (s : Int) = (s : Int) := by rw [IntKind.wrap_i64]; omega
  obtain ⟨w1, m1, a1, b1, c1⟩ := make_blk w.drew s (by omega)
  obtain ⟨w2, m2, a2, b2, c2⟩ := make_ptrs w1 n h2
  obtain ⟨v1, m3, a3, b3, c3⟩ := make_ptrs w.drew n h2
  obtain ⟨v2, m4, a4, b4, c4⟩ := make_blk v1 s (by omega)
  have hp1 : Below w.heap.size w w2 := by
    have h0 : Below w.heap.size w w.drew := (Below.refl _ _).drew
    exact h0.trans (b1.trans (b2.mono (by rw [c1]; exact Nat.le_succ _)))
  have hp2 : Below w.heap.size w v2 := by
    have h0 : Below w.heap.size w w.drew := (Below.refl _ _).drew
    exact h0.trans (b3.trans (b4.mono (by rw [c3]; exact Nat.le_succ _)))
  have hd1 := pd_new (w := w) (w1 := w1) A D hD hs h1 h2 hp1 (a1.of_heap (b2.block _ a1.lt)) a2 (Nat.le_refl _) (by rw [c1]; exact Nat.le_succ _)
  have hd2 := pd_new (w := w) (w1 := w1) A D hD hs h1 h2 hp2 a4 (a3.of_heap (b4.block _ a3.lt)) (by rw [c3]; exact Nat.le_succ _) (Nat.le_refl _)
  have H1 := hid hd1
  have H2 := hid hd2
  clear a1 a2 a3 a4 b1 b2 b3 b4 hs hD hp1 hp2 hd1 hd2 c1 c2 c3 c4
  have hd : w.drew.heap.size = w.heap.size := rfl
  rw [hd] at m1 m3
  rw [hd] at H1 H2
  clear hd
  go_enter Tryz.func10, Tryz.ntmps10
  go_wp2_with fail
  go_region
  all_goals go_wp2_with fail
  · go_ret2
    refine ⟨_, rfl, H1.out.1, ?_⟩
    simpa using H1.out.2
  · go_ret2
    refine ⟨_, rfl, H2.out.1, ?_⟩
    simpa using H2.out.2

theorem write_no (v : Value) (z : Int) (x : Option Addr) (l c : Nat) (t : Bool) (w : World) (hH : Calls Tryz.prog 46 #[v, .int .i64 z] w fun e w' => e = .returned (.bool t) ∧ w' = w) (hl : t = true → l ≠ 64) :
    Calls Tryz.prog 20 #[v, .int .i64 z, .slice x l c] w fun e w' => e = .returned (.int .i64 1) ∧ w' = w := by
  cases t with
  | false =>
    clear hl
    go_enter Tryz.func20, Tryz.ntmps20
    go_wp2_with ((go_at_call 46; refine hH.mono ?_; rintro e w' ⟨rfl, hw⟩; subst w'))
    go_ret
    exact ⟨rfl, rfl⟩
  | true =>
    have hl : ((l : Int) == 64) = false := by
      have := hl rfl
      rw [beq_eq_false_iff_ne]
      omega
    go_enter Tryz.func20, Tryz.ntmps20
    go_wp2_with ((go_at_call 46; refine hH.mono ?_; rintro e w' ⟨rfl, hw⟩; subst w'))
    go_ret
    exact ⟨rfl, rfl⟩

end Go.Proofs.YtbbjklenpgkooaaGreat

/-
  What Write of a disk does: a contract over plain numbers ('DkPlain').
  Conditions: the disk is one that New gave ('PDk'); there is such a sector; Sector bytes are written.
-/
namespace Go.Proofs.YtbbjklenpgkooaaGreat
open Go.RowKit By Dk
set_option linter.unusedVariables false
set_option linter.unusedSimpArgs false
set_option maxRecDepth 100000

def wcs (a : Nat) : Array Value := (rowOf (wrV a (fun _ => 0)) 65).toArray

theorem pd_write {w w4 : World} {F : Nat → Prop} {p gs gn : Nat} {R R' : Value} {n s m Q a : Nat} {f A g : Nat → Nat} {D : Nat → Nat → Nat} {q : Nat → Nat} (h : PDk w F p gs gn R n s m f A D q) (T : Turns (fun k => R.ownBlock = some k) w w4)
    (hQ : Blk w4 Q 93 65 (wrV a g)) (hQs : w.heap.size ≤ Q) (ho : w4.ownsRow 0 83 1 R' (m + 1) (rowOf (fun i => .pointer (some ⟨q i, 0, none⟩)) m ++ [.pointer (some ⟨Q, 0, none⟩)])) (hR' : ∀ k, R'.ownBlock = some k → R.ownBlock = some k ∨ w.heap.size ≤ k) (ha : a < n) (hg : ∀ i, g i < 256) (hm : m < 5000) :
    Turns F w ((w4.setCell ⟨p, 1, none⟩ R').setCell ⟨gn, a, none⟩ (.pointer (some ⟨Q, 0, none⟩))) ∧
    Pd ((w4.setCell ⟨p, 1, none⟩ R').setCell ⟨gn, a, none⟩ (.pointer (some ⟨Q, 0, none⟩))) (grow F w ((w4.setCell ⟨p, 1, none⟩ R').setCell ⟨gn, a, none⟩ (.pointer (some ⟨Q, 0, none⟩)))) p n (m + 1) f (ext A m a) (ext D m g) := by
  have hp := h.obj.lt
  have hgs := h.safe.lt
  have hgn := h.near.lt
  have np : R.ownBlock ≠ some p := ownsRow_ne h.own h.obj (by decide)
  have ns : R.ownBlock ≠ some gs := ownsRow_ne h.own h.safe (by decide)
  have nq : ∀ i, i < m → R.ownBlock ≠ some (q i) := fun i hi => ownsRow_ne h.own (h.wr i hi) (by decide)
  have pgn : p ≠ gn := h.obj.ne h.near (by decide)
  have pgs : p ≠ gs := h.obj.ne h.safe (by decide)
  have gsn : gs ≠ gn := h.safe.ne h.near (by decide)
  have T' : Turns F w w4 := T.weak (fun k hk => h.fR k hk)
  have T5 := T'.setCell (p := ⟨p, 1, none⟩) (.inl h.fp) R'
  have T6 := T5.setCell (p := ⟨gn, a, none⟩) (.inl h.fn) (.pointer (some ⟨Q, 0, none⟩))
  have hsz := T6.size
  have keep : ∀ k, k ≠ p → k ≠ gn → ((w4.setCell ⟨p, 1, none⟩ R').setCell ⟨gn, a, none⟩ (.pointer (some ⟨Q, 0, none⟩))).heap[k]? = w4.heap[k]? := fun k h1 h2 =>
    (Below.heap_setCell _ _ _ _ h2).trans (Below.heap_setCell _ _ _ _ h1)
  have hpos : ∀ k, R'.ownBlock = some k → k ≠ p ∧ k ≠ gn := fun k hk => by
    rcases hR' k hk with h1 | h1
    · exact ⟨fun e => np (by rw [h1, e]), fun e => h.rn (by rw [h1, e])⟩
    · omega
  refine ⟨T6, gs, gn, R', s, ext q m Q, ⟨?_, ?_, ?_, ?_, fun i hi => ?_, fun i hi => ?_, h.len, fun e => (hpos _ e).2 rfl, .inl h.fp, .inl h.fs, .inl h.fn, fun i hi => ?_, fun k hk => ?_, h.lt, fun i j => ?_, fun k hk => ?_, h.n1, h.n2, by omega⟩⟩
  · refine Blk.of_heap (w := w4.setCell ⟨p, 1, none⟩ R') (((h.obj.of_heap (T.block _ hp np)).set 1 R').congr fun k hk => ?_) (Below.heap_setCell _ _ _ _ pgn)
    unfold upd obj3
    by_cases e : k = 1
    · simp [e]
    · simp [e]
  · exact (h.safe.of_heap (T.block _ hgs ns)).of_heap (keep _ (Ne.symm pgs) gsn)
  · have b4 : Blk (w4.setCell ⟨p, 1, none⟩ R') gn 83 n (nearV q A m) := (h.near.of_heap (T.block _ hgn h.rn)).of_heap (Below.heap_setCell _ _ _ _ (Ne.symm pgn))
    refine (b4.set a (.pointer (some ⟨Q, 0, none⟩))).congr fun k hk => ?_
    unfold upd nearV
    rw [last_ext]
    by_cases e : k = a
    · subst e
      simp [ext_new]
    · have e' : ¬ a = k := fun h => e h.symm
      rw [if_neg e]
      simp only [if_neg e']
      by_cases h0 : last A k m = 0
      · simp [h0]
      · have := last_le A k m
        rw [if_neg h0, if_neg h0, ext_old q m Q (by omega)]
  · have e : rowOf (fun i => Value.pointer (some ⟨ext q m Q i, 0, none⟩)) (m + 1) = rowOf (fun i => .pointer (some ⟨q i, 0, none⟩)) m ++ [.pointer (some ⟨Q, 0, none⟩)] := by
      rw [rowOf_succ, ext_new, rowOf_congr (fun k hk => by rw [ext_old q m Q hk])]
    rw [e]
    exact ownsRow_same ho (fun k hk => keep k (hpos k hk).1 (hpos k hk).2)
  · by_cases e : i < m
    · have b := h.wr i e
      rw [ext_old q m Q e, ext_old A m a e, ext_old D m g e]
      refine (b.of_heap (T.block _ b.lt (nq i e))).of_heap (keep _ (b.ne h.obj (by decide)) (b.ne h.near (by decide)))
    · obtain rfl : i = m := by omega
      rw [ext_new, ext_new, ext_new]
      exact hQ.of_heap (keep _ (by omega) (by omega))
  · by_cases e : i < m
    · rw [ext_old A m a e]; exact h.at_ i e
    · obtain rfl : i = m := by omega
      rw [ext_new]; exact ha
  · by_cases e : i < m
    · rw [ext_old q m Q e]; exact .inl (h.fq i e)
    · obtain rfl : i = m := by omega
      rw [ext_new]
      refine .inr ⟨hQs, ?_⟩
      have := hQ.lt
      simpa [World.setCell] using this
  · rcases hR' k hk with h1 | h1
    · exact .inl (h.fR k h1)
    · refine .inr ⟨h1, ?_⟩
      have := (ho.lt k hk).2
      simpa [World.setCell] using this
  · unfold ext
    split
    · exact h.ltD i j
    · exact hg j
  · rcases hk with hk | hk
    · exact Nat.lt_of_lt_of_le (h.flt k hk) hsz
    · exact hk.2

set_option maxHeartbeats 1000000 in
theorem write_yes (p n m a c : Nat) (F : Nat → Prop) (f A g : Nat → Nat) (D : Nat → Nat → Nat) (x : Option Addr) (z : Int) (hz : z = (a : Int)) (w : World) (h : Pd w F p n m f A D) (ha : a < n) (hx : RowAt w x 64 g) (hg : ∀ i, g i < 256) (hm : m < 5000) :
    Calls Tryz.prog 20 #[.pointer (some ⟨p, 0, none⟩), .int .i64 z, .slice x 64 c] w fun e w' => e = .returned (.int .i64 0) ∧ Turns F w w' ∧ Pd w' (grow F w w') p n (m + 1) f (ext A m a) (ext D m g) := by
  subst hz
  obtain ⟨gs, gn, R, s, q, h⟩ := h
  have hn2 := h.n2
  have hH : Calls Tryz.prog 46 #[.pointer (some ⟨p, 0, none⟩), .int .i64 (a : Int)] w fun e w' => e = .returned (.bool true) ∧ w' = w := has_any _ n a true w (size_any p n n _ w h.c2) (fun _ _ => rfl) (fun e => absurd ⟨by omega, by omega⟩ e)
  rcases hx with hx | ⟨b, o, rfl, hb, hc⟩
  · omega
  have b1 : Below w.heap.size w (w.alloc (.cells (wcs a) 93)) := (Below.refl _ _).alloc (Nat.le_refl _) _
  have hQ1 : Blk (w.alloc (.cells (wcs a) 93)) w.heap.size 93 65 (wrV a (fun _ => 0)) := Blk.new _ _ _ _ _ rfl
  obtain ⟨w2, hcp, hQ2, t2, s2⟩ := copy_blk (w.alloc (.cells (wcs a) 93)) w.heap.size 1 64 65 64 c b o 93 _ (fun j => .int .u8 (g j : Int)) hQ1 (by omega) (fun j hj => (b1.cell (p := ⟨b, o + j, none⟩) hb).trans (hc j hj)) (fun _ => rfl)
  have hsz2 : w2.heap.size = w.heap.size + 1 := by simpa using s2
  have h1 := h.below b1
  have bw2 : Below w.heap.size w w2 := b1.trans (t2.below (fun k hk => by omega) (by simp))
  have h2 := h.below bw2
  have b3 : Below w.heap.size w (w2.alloc (.cells #[.pointer (some ⟨w.heap.size, 0, none⟩)] 83)) := bw2.alloc bw2.size _
  have h3 := h.below b3
  obtain ⟨i0, hi, hz0, hz1, hz2⟩ := info_parts info_ptr
  obtain ⟨R', w4, hap, ho, hgr, hR'⟩ := push_gen (w2.alloc (.cells #[.pointer (some ⟨w.heap.size, 0, none⟩)] 83)) 71 83 i0 (.pointer none) 1 8 Tryz.underlying71 hi hz0 hz1 hz2 rfl (by decide) R m _ h3.own
    ⟨w2.heap.size, 0, none⟩ 1 1 [.pointer (some ⟨w.heap.size, 0, none⟩)] rfl (fun j u hj => by
      match j, hj with
      | 0, hj => rw [add_at]; simpa using hj
      | j + 1, hj => simp at hj) (fun u hu => by simp at hu; subst hu; rfl) (by omega) (by unfold maxLen; omega) (by omega)
  obtain ⟨x', c', hRe, _⟩ := ownsRow_form ho
  subst hRe
  have T4 : Turns (fun k => R.ownBlock = some k) w w4 := (Turns.of_below b3).grown hgr (fun k hk => .inl hk)
  have hRlt : ∀ k, R.ownBlock = some k → k < w.heap.size := fun k hk => h.flt k (h.fR k hk)
  have hQ4 : Blk w4 w.heap.size 93 65 (wrV a g) := by
    have e1 : Blk w2 w.heap.size 93 65 (wrV a g) := hQ2.congr fun k hk => by
      unfold over wrV
      by_cases e : k = 0
      · simp [e]
      · rw [if_pos ⟨by omega, by omega⟩, if_neg e]
    have e2 := e1.of_heap (w' := w2.alloc (.cells #[.pointer (some ⟨w.heap.size, 0, none⟩)] 83)) (heap_alloc_old _ _ (by omega))
    exact e2.of_heap (hgr.block _ e2.lt (fun e => by have := hRlt _ e.symm; omega))
  have hsz3 : (w2.alloc (.cells #[.pointer (some ⟨w.heap.size, 0, none⟩)] 83)).heap.size = w.heap.size + 2 := by simp [hsz2]
  have HF := hid (pd_write h T4 hQ4 (Nat.le_refl _) ho (fun k hk => by rcases hR' k hk with e | e; exact .inl e; right; omega) ha hg hm)
  have np : R.ownBlock ≠ some p := ownsRow_ne h.own h.obj (by decide)
  have o4 := h.obj.of_heap (T4.block _ h.obj.lt np)
  have n4 := h.near.of_heap (T4.block _ h.near.lt h.rn)
  have k1 := h2.c1
  have k4 := o4.cell (k := 1) (by omega)
  have f4 := o4.frozen 1
  have o5 := o4.set 1 (.slice x' (m + 1) c')
  have k5 : (w4.setCell ⟨p, 1, none⟩ (.slice x' (m + 1) c')).cell? ⟨p, 2, none⟩ = some (.slice (some ⟨gn, 0, none⟩) n n) := o5.cell (k := 2) (by omega)
  have n5 : Blk (w4.setCell ⟨p, 1, none⟩ (.slice x' (m + 1) c')) gn 83 n (nearV q A m) := n4.of_heap (Below.heap_setCell _ _ _ _ (Ne.symm (h.obj.ne h.near (by decide))))
  have k6 := n5.cell ha
  have f6 := n5.frozen a
  have hca : ∀ v, _ := fun v => cut_arr w.heap.size v
  clear h h1 h2 h3 b1 b3 bw2 hQ1 hQ2 hQ4 t2 s2 T4 ho hgr hR' hRlt hc hb np o4 n4 o5 n5 hi hz0 hz1 hz2 hsz2 hsz3 hg
  generalize nearV q A m a = V at *
  go_enter Tryz.func20, Tryz.ntmps20
  go_wp2_with (first
    | (go_at_call 46; refine hH.mono ?_; rintro e w' ⟨rfl, hw⟩; subst w'; clear hH)
    | (refine wpList_buildAs rfl _ _ rfl (wcs a) (by kernel_rfl) ?_)
    | (at_builtin; refine wpList_append_run rfl _ _ 71 rfl _ _ rfl rfl hap ?_; clear hap))
  go_ret
  exact ⟨rfl, HF.out⟩

end Go.Proofs.YtbbjklenpgkooaaGreat

/-
  What keep and forget of a disk do, the inner steps of Flush and Crash: contracts over plain numbers ('DkPlain').
  Conditions: the disk is one that New gave ('PDk').
-/
namespace Go.Proofs.YtbbjklenpgkooaaGreat
open Go.RowKit By Dk
set_option linter.unusedVariables false
set_option linter.unusedSimpArgs false
set_option maxRecDepth 100000

theorem put_over (f d : Nat → Nat) (a s k : Nat) (h : k < s) : over (fun i => Value.int .u8 (f i : Int)) (64 * a) 64 (fun j => .int .u8 (d j : Int)) k = .int .u8 (put f a d k : Int) := by
  unfold over put
  by_cases e : 64 * a ≤ k ∧ k < 64 * a + 64
  · rw [if_pos e, if_pos (by omega), show k - 64 * a = k % 64 by omega]
  · rw [if_neg e, if_neg (by omega)]

set_option maxHeartbeats 1000000 in
theorem keep_any (p gs gn n s m i : Nat) (F : Nat → Prop) (R : Value) (f A : Nat → Nat) (D : Nat → Nat → Nat) (q : Nat → Nat) (w : World) (h : PDk w F p gs gn R n s m f A D q) (hi : i < m) :
    Calls Tryz.prog 35 #[.pointer (some ⟨p, 0, none⟩), .pointer (some ⟨q i, 0, none⟩)] w fun e w' => e = .returned (.tuple #[]) ∧ Turns F w w' ∧ PDk w' F p gs gn R n s m (put f (A i) (D i)) A D q := by
  have hq := h.wr i hi
  have ha := h.at_ i hi
  have hlen := h.len
  have hd := h.drew
  have hsec : Calls Tryz.prog 65 #[.pointer (some ⟨p, 0, none⟩), .int .i64 (A i : Int)] w.drew fun e w' => e = .returned (.slice (some ⟨gs, 64 * A i, none⟩) 64 (s - 64 * A i)) ∧ w' = w.drew := sector_any p gs s n (A i) _ rfl w.drew hd.c0 h.len ha h.n2
  obtain ⟨w2, hcp, b2, t2, s2⟩ := copy_blk w.drew gs (64 * A i) (s - 64 * A i) s 64 64 (q i) 1 5 _ (fun j => .int .u8 (D i j : Int)) hd.safe (by omega) (fun j hj => by
    have := (hd.wr i hi).cell (k := 1 + j) (by omega)
    rw [this]
    simp [wrV, Nat.add_comm]) (fun _ => rfl)
  have qgs : q i ≠ gs := hq.ne h.safe (by decide)
  have hat : w.drew.cell? ⟨q i, 0, none⟩ = some (.int .i64 (A i : Int)) := (hd.wr i hi).cell (k := 0) (by omega)
  have hat2 : w2.cell? ⟨q i, 0, none⟩ = some (.int .i64 (A i : Int)) := ((hd.wr i hi).of_heap (t2.block _ (hd.wr i hi).lt qgs)).cell (k := 0) (by omega)
  have T : Turns F w w2 := ⟨t2.os, t2.tape, t2.output, t2.size, fun k hk hF => t2.block k hk (fun e => hF (by rw [e]; exact h.fs))⟩
  have keep : ∀ k, k < w.heap.size → k ≠ gs → w2.heap[k]? = w.heap[k]? := fun k hk hg => t2.block k hk hg
  have HF : Hid (Turns F w w2 ∧ PDk w2 F p gs gn R n s m (put f (A i) (D i)) A D q) := ⟨T,
    ⟨h.obj.of_heap (keep _ h.obj.lt (h.obj.ne h.safe (by decide))), b2.congr fun k hk => put_over f (D i) (A i) s k hk, h.near.of_heap (keep _ h.near.lt (h.near.ne h.safe (by decide))),
      ownsRow_same h.own (fun k hk => keep k (h.own.lt k hk).2 (fun e => ownsRow_ne h.own h.safe (by decide) (by rw [hk, e]))), fun j hj => (h.wr j hj).of_heap (keep _ (h.wr j hj).lt ((h.wr j hj).ne h.safe (by decide))),
      h.at_, h.len, h.rn, h.fp, h.fs, h.fn, h.fq, h.fR, fun k => by unfold put; split; exact h.ltD _ _; exact h.lt k, h.ltD, fun k hk => by rw [s2]; exact h.flt k hk, h.n1, h.n2, h.m2⟩⟩
  have hca : ∀ v, _ := fun v => cut_arr (q i) v
  generalize q i = b at *
  generalize A i = a at *
  generalize 64 * a = o at *
  generalize s - o = c at *
  clear h hq hd b2 t2 s2 T keep qgs hlen ha
  go_enter Tryz.func35, Tryz.ntmps35
  go_wp2_with fail
  refine wp_region_held_drew (S := fun v => v.cell? ⟨b, 0, none⟩ = some (.int .i64 (a : Int))) (by kernel_rfl) hat (fun hHeld => ?_)
  refine wpAnyH_take (i := 0) (v := ?_) rfl (by kernel_rfl) (by kernel_rfl) (by kernel_rfl) (fun _ _ _ h => h) (Or.inl ⟨by rfl, ?_⟩) (by assumption) ?_
  case refine_2 => (intro w hSw; (try dsimp only at hSw); go_simp; (try with_reducible rfl))
  (try simp only [Act.put, List.getElem_toArray, List.getElem_cons_succ, List.getElem_cons_zero, List.setIfInBounds_toArray, List.set_cons_zero, List.set_cons_succ])
  refine wpAnyH_take (i := 1) (v := ?_) rfl (by kernel_rfl) (by kernel_rfl) (by kernel_rfl) (fun _ _ _ h => h) (Or.inl ⟨by rfl, ?_⟩) (by assumption) ?_
  case refine_2 => (intro w hSw; (try dsimp only at hSw); go_simp; (try with_reducible rfl))
  (try simp only [Act.put, List.getElem_toArray, List.getElem_cons_succ, List.getElem_cons_zero, List.setIfInBounds_toArray, List.set_cons_zero, List.set_cons_succ])
  refine wpAnyH_take (i := 2) (v := ?_) rfl (by kernel_rfl) (by kernel_rfl) (by kernel_rfl) (fun _ _ _ h => h) (Or.inl ⟨by rfl, ?_⟩) (by assumption) ?_
  case refine_2 => (intro w hSw; (try dsimp only at hSw); go_simp; (try with_reducible rfl))
  (try simp only [Act.put, List.getElem_toArray, List.getElem_cons_succ, List.getElem_cons_zero, List.setIfInBounds_toArray, List.set_cons_zero, List.set_cons_succ])
  refine wpAnyH_take (i := 3) (v := ?_) rfl (by kernel_rfl) (by kernel_rfl) (by kernel_rfl) (fun _ _ _ h => h) (Or.inl ⟨by rfl, ?_⟩) (by assumption) ?_
  case refine_2 => (intro w hSw; (try dsimp only at hSw); go_simp; (try with_reducible rfl))
  (try simp only [Act.put, List.getElem_toArray, List.getElem_cons_succ, List.getElem_cons_zero, List.setIfInBounds_toArray, List.set_cons_zero, List.set_cons_succ])
  refine wpAnyH_take (i := 4) (v := ?_) rfl (by kernel_rfl) (by kernel_rfl) (by kernel_rfl) (fun _ _ _ h => h) (Or.inl ⟨by rfl, ?_⟩) (by assumption) ?_
  case refine_2 => (intro w hSw; (try dsimp only at hSw); go_simp; (try with_reducible rfl))
  (try simp only [Act.put, List.getElem_toArray, List.getElem_cons_succ, List.getElem_cons_zero, List.setIfInBounds_toArray, List.set_cons_zero, List.set_cons_succ])
  refine wpAnyH_take (i := 6) (v := ?_) rfl (by kernel_rfl) (by kernel_rfl) (by kernel_rfl) (fun _ _ _ h => h) (Or.inl ⟨by rfl, ?_⟩) (by assumption) ?_
  case refine_2 => (intro w hSw; (try dsimp only at hSw); go_simp; (try with_reducible rfl))
  (try simp only [Act.put, List.getElem_toArray, List.getElem_cons_succ, List.getElem_cons_zero, List.setIfInBounds_toArray, List.set_cons_zero, List.set_cons_succ])
  refine wpAnyH_take (i := 7) (v := ?_) rfl (by kernel_rfl) (by kernel_rfl) (by kernel_rfl) (fun _ _ _ h => h) (Or.inl ⟨by rfl, ?_⟩) (by assumption) ?_
  case refine_2 => (intro w hSw; (try dsimp only at hSw); go_simp; (try with_reducible rfl))
  (try simp only [Act.put, List.getElem_toArray, List.getElem_cons_succ, List.getElem_cons_zero, List.setIfInBounds_toArray, List.set_cons_zero, List.set_cons_succ])
  refine wpAnyH_take (i := 8) (v := ?_) rfl (by kernel_rfl) (by kernel_rfl) (by kernel_rfl) (fun _ _ _ h => h) (Or.inl ⟨by rfl, ?_⟩) (by assumption) ?_
  case refine_2 => (intro w hSw; (try dsimp only at hSw); go_simp; (try with_reducible rfl))
  (try simp only [Act.put, List.getElem_toArray, List.getElem_cons_succ, List.getElem_cons_zero, List.setIfInBounds_toArray, List.set_cons_zero, List.set_cons_succ])
  refine wpAnyH_take (i := 9) (v := ?_) rfl (by kernel_rfl) (by kernel_rfl) (by kernel_rfl) (fun _ _ _ h => h) (Or.inl ⟨by rfl, ?_⟩) (by assumption) ?_
  case refine_2 => (intro w hSw; (try dsimp only at hSw); go_simp; (try with_reducible rfl))
  (try simp only [Act.put, List.getElem_toArray, List.getElem_cons_succ, List.getElem_cons_zero, List.setIfInBounds_toArray, List.set_cons_zero, List.set_cons_succ])
  refine wpAnyH_ready (rs := [5]) (by kernel_rfl) (by simp) ?_
  refine AllReadyH.cons rfl (fun K hK => ?_) AllReadyH.nil
  go_simp
  refine hsec.mono ?_
  rintro e v ⟨rfl, rfl⟩
  refine hK.out _ _ hat (fun hHeld => ?_)
  clear hK K
  refine wpAnyH_ready (rs := [10]) (by kernel_rfl) (by simp) ?_
  refine AllReadyH.cons rfl (fun K hK => ?_) AllReadyH.nil
  go_simp
  refine hK.out _ _ hat2 (fun hHeld => ?_)
  clear hK K
  refine wpAnyH_done (by kernel_rfl) ?_ _
  go_wp2_with fail
  refine bodyPost_end (results_none rfl _ _ _) rfl ?_
  exact ⟨rfl, HF.out⟩

def goneV (q A : Nat → Nat) (m k : Nat) : Nat → Value := fun j => if last A j k ≠ 0 then .pointer none else nearV q A m j

theorem gone_step (q A : Nat → Nat) (m k j : Nat) : upd (goneV q A m k) (A k) (.pointer none) j = goneV q A m (k + 1) j := by
  unfold upd goneV
  rw [last]
  by_cases e : j = A k
  · subst e; simp
  · rw [if_neg e, if_neg (fun h : A k = j => e h.symm)]

theorem gone_all (q A : Nat → Nat) (m j : Nat) : goneV q A m m j = .pointer none := by
  unfold goneV nearV
  by_cases e : last A j m = 0
  · simp [e]
  · simp [e]

theorem pd_forget {w wr : World} {F : Nat → Prop} {p gs gn : Nat} {R : Value} {n s m : Nat} {f A : Nat → Nat} {D : Nat → Nat → Nat} {q : Nat → Nat} (h : PDk w F p gs gn R n s m f A D q) (T : Turns (fun k => k = gn) w wr) (hb : Blk wr gn 83 n (goneV q A m m)) :
    Turns F w (wr.setCell ⟨p, 1, none⟩ (.slice none 0 0)) ∧ Pd (wr.setCell ⟨p, 1, none⟩ (.slice none 0 0)) F p n 0 f A D := by
  have pgn : p ≠ gn := h.obj.ne h.near (by decide)
  have T' : Turns F w wr := T.weak (fun k hk => by rw [hk]; exact h.fn)
  have T2 := T'.setCell (p := ⟨p, 1, none⟩) (.inl h.fp) (.slice none 0 0)
  refine ⟨T2, gs, gn, .slice none 0 0, s, q, ⟨((h.obj.of_heap (T.block _ h.obj.lt pgn)).set 1 (.slice none 0 0)).congr fun k hk => ?_, ?_, ?_, ⟨rfl, .inl ⟨rfl, rfl⟩⟩, fun i hi => by omega, fun i hi => by omega, h.len, by simp [Value.ownBlock], h.fp, h.fs, h.fn, fun i hi => by omega, fun g hg => by simp [Value.ownBlock] at hg, h.lt, h.ltD, fun k hk => Nat.lt_of_lt_of_le (h.flt k hk) T2.size, h.n1, h.n2, by omega⟩⟩
  · unfold upd obj3
    by_cases e : k = 1
    · simp [e]
    · simp [e]
  · exact (h.safe.of_heap (T.block _ h.safe.lt (h.safe.ne h.near (by decide)))).of_heap (Below.heap_setCell _ _ _ _ (h.safe.ne h.obj (by decide)))
  · exact (hb.of_heap (Below.heap_setCell _ _ _ _ (Ne.symm pgn))).congr fun k hk => gone_all q A m k

set_option maxHeartbeats 1000000 in
theorem forget_any (p n m : Nat) (F : Nat → Prop) (f A : Nat → Nat) (D : Nat → Nat → Nat) (w : World) (h : Pd w F p n m f A D) :
    Calls Tryz.prog 36 #[.pointer (some ⟨p, 0, none⟩)] w fun e w' => e = .returned (.tuple #[]) ∧ Turns F w w' ∧ Pd w' F p n 0 f A D := by
  obtain ⟨gs, gn, R, s, q, h⟩ := h
  obtain ⟨x, c, hR, hle, hnil, hrow⟩ := ownsRow_form h.own
  subst hR
  have k1 := h.c1
  have hm2 := h.m2
  have pgn : p ≠ gn := h.obj.ne h.near (by decide)
  have H := hid h
  clear h
  go_enter Tryz.func36, Tryz.ntmps36
  go_wp2_with fail
  go_loopw [9] (fun i wr => ∃ k : Nat, k ≤ m ∧ i = .int .i64 k ∧ Hid (Turns (fun j => j = gn) w wr ∧ Blk wr gn 83 n (goneV q A m k))) (fun i _ => m - (intOf i).toNat)
  case atStart => exact ⟨0, by omega, rfl, Turns.refl _ _, H.out.near.congr fun j hj => by simp [goneV, last]⟩
  case round =>
    obtain ⟨k, hk, rfl, HR⟩ := hrel
    clear k1
    obtain ⟨T, hb⟩ := HR.out
    by_cases hlt : k < m
    · have hkm : (k : Int) < (m : Int) := by omega
      rcases hrow with h0 | ⟨g, rfl, hcells⟩
      · omega
      have hc := hcells k _ (rowOf_get _ m k hlt)
      have hgR : g < w.heap.size ∧ g ≠ gn := ⟨(H.out.own.lt g rfl).2, fun e => H.out.rn (by rw [← e]; rfl)⟩
      have c1 : wr.cell? ⟨g, 0 + k, none⟩ = some (.pointer (some ⟨q k, 0, none⟩)) := (World.cell?_of_block (a := ⟨g, 0 + k, none⟩) (T.block g hgR.1 hgR.2)).trans hc
      rw [Nat.zero_add] at c1
      have bq := (T.blk (H.out.wr k hlt) ((H.out.wr k hlt).ne H.out.near (by decide)))
      have bo := T.blk H.out.obj pgn
      have ha := H.out.at_ k hlt
      have c2 : wr.cell? ⟨p, 2, none⟩ = some (.slice (some ⟨gn, 0, none⟩) n n) := bo.cell (k := 2) (by omega)
      have c3 : wr.cell? ⟨q k, 0, none⟩ = some (.int .i64 (A k : Int)) := bq.cell (k := 0) (by omega)
      have c4 := hb.cell ha
      have f4 := hb.frozen (A k)
      have hb2 := hb.set (A k) (.pointer none)
      have d2 : (wr.setCell ⟨gn, A k, none⟩ (.pointer none)).cell? ⟨p, 2, none⟩ = some (.slice (some ⟨gn, 0, none⟩) n n) := (World.cell?_of_block (a := ⟨p, 2, none⟩) (Below.heap_setCell _ _ _ _ pgn)).trans c2
      have d3 : (wr.setCell ⟨gn, A k, none⟩ (.pointer none)).cell? ⟨q k, 0, none⟩ = some (.int .i64 (A k : Int)) := (World.cell?_of_block (a := ⟨q k, 0, none⟩) (Below.heap_setCell _ _ _ _ (bq.ne hb (by decide)))).trans c3
      have HN : Hid (Turns (fun j => j = gn) w (wr.drew.setCell ⟨gn, A k, none⟩ (.pointer none)) ∧ Blk (wr.drew.setCell ⟨gn, A k, none⟩ (.pointer none)) gn 83 n (goneV q A m (k + 1))) :=
        ⟨T.drew.setCell (p := ⟨gn, A k, none⟩) (.inl rfl) _, (Blk.set (w := wr.drew) hb (A k) (.pointer none)).congr fun j hj => gone_step q A m k j⟩
      clear T hb HR hcells hc bq bo hb2
      generalize goneV q A m k (A k) = V at *
      generalize A k = a at *
      generalize q k = b at *
      go_wp2_with fail
      refine wp_region_held_drew (S := fun v => v.cell? ⟨p, 2, none⟩ = some (.slice (some ⟨gn, 0, none⟩) n n) ∧ v.cell? ⟨b, 0, none⟩ = some (.int .i64 (a : Int))) (by kernel_rfl) ⟨c2, c3⟩ (fun hHeld => ?_)
      refine wpAnyH_take (i := 0) (v := ?_) rfl (by kernel_rfl) (by kernel_rfl) (by kernel_rfl) (fun _ _ _ h => h) (Or.inl ⟨by rfl, ?_⟩) (by assumption) ?_
      case refine_2 => (intro w hSw; (try dsimp only at hSw); go_simp; (try with_reducible rfl))
      (try simp only [Act.put, List.getElem_toArray, List.getElem_cons_succ, List.getElem_cons_zero, List.setIfInBounds_toArray, List.set_cons_zero, List.set_cons_succ])
      refine wpAnyH_take (i := 1) (v := ?_) rfl (by kernel_rfl) (by kernel_rfl) (by kernel_rfl) (fun _ _ _ h => h) (Or.inl ⟨by rfl, ?_⟩) (by assumption) ?_
      case refine_2 => (intro w hSw; (try dsimp only at hSw); go_simp; (try with_reducible rfl))
      (try simp only [Act.put, List.getElem_toArray, List.getElem_cons_succ, List.getElem_cons_zero, List.setIfInBounds_toArray, List.set_cons_zero, List.set_cons_succ])
      refine wpAnyH_take (i := 2) (v := ?_) rfl (by kernel_rfl) (by kernel_rfl) (by kernel_rfl) (fun _ _ _ h => h) (Or.inl ⟨by rfl, ?_⟩) (by assumption) ?_
      case refine_2 => (intro w hSw; (try dsimp only at hSw); go_simp; (try with_reducible rfl))
      (try simp only [Act.put, List.getElem_toArray, List.getElem_cons_succ, List.getElem_cons_zero, List.setIfInBounds_toArray, List.set_cons_zero, List.set_cons_succ])
      refine wpAnyH_take (i := 3) (v := ?_) rfl (by kernel_rfl) (by kernel_rfl) (by kernel_rfl) (fun _ _ _ h => h) (Or.inl ⟨by rfl, ?_⟩) (by assumption) ?_
      case refine_2 => (intro w hSw; (try dsimp only at hSw); go_simp; (try with_reducible rfl))
      (try simp only [Act.put, List.getElem_toArray, List.getElem_cons_succ, List.getElem_cons_zero, List.setIfInBounds_toArray, List.set_cons_zero, List.set_cons_succ])
      refine wpAnyH_take (i := 4) (v := ?_) rfl (by kernel_rfl) (by kernel_rfl) (by kernel_rfl) (fun _ _ _ h => h) (Or.inl ⟨by rfl, ?_⟩) (by assumption) ?_
      case refine_2 => (intro w hSw; (try dsimp only at hSw); go_simp; (try with_reducible rfl))
      (try simp only [Act.put, List.getElem_toArray, List.getElem_cons_succ, List.getElem_cons_zero, List.setIfInBounds_toArray, List.set_cons_zero, List.set_cons_succ])
      refine wpAnyH_take (i := 5) (v := ?_) rfl (by kernel_rfl) (by kernel_rfl) (by kernel_rfl) (fun _ _ _ h => h) (Or.inl ⟨by rfl, ?_⟩) (by assumption) ?_
      case refine_2 => (intro w hSw; (try dsimp only at hSw); go_simp; (try with_reducible rfl))
      (try simp only [Act.put, List.getElem_toArray, List.getElem_cons_succ, List.getElem_cons_zero, List.setIfInBounds_toArray, List.set_cons_zero, List.set_cons_succ])
      refine wpAnyH_take (i := 6) (v := ?_) rfl (by kernel_rfl) (by kernel_rfl) (by kernel_rfl) (fun _ _ _ h => h) (Or.inl ⟨by rfl, ?_⟩) (by assumption) ?_
      case refine_2 => (intro w hSw; (try dsimp only at hSw); go_simp; (try with_reducible rfl))
      (try simp only [Act.put, List.getElem_toArray, List.getElem_cons_succ, List.getElem_cons_zero, List.setIfInBounds_toArray, List.set_cons_zero, List.set_cons_succ])
      refine wpAnyH_take (i := 7) (v := ?_) rfl (by kernel_rfl) (by kernel_rfl) (by kernel_rfl) (fun _ _ _ h => h) (Or.inl ⟨by rfl, ?_⟩) (by assumption) ?_
      case refine_2 => (intro w hSw; (try dsimp only at hSw); go_simp; (try with_reducible rfl))
      (try simp only [Act.put, List.getElem_toArray, List.getElem_cons_succ, List.getElem_cons_zero, List.setIfInBounds_toArray, List.set_cons_zero, List.set_cons_succ])
      refine wpAnyH_take (i := 8) (v := ?_) rfl (by kernel_rfl) (by kernel_rfl) (by kernel_rfl) (fun _ _ _ h => h) (Or.inl ⟨by rfl, ?_⟩) (by assumption) ?_
      case refine_2 => (intro w hSw; (try dsimp only at hSw); go_simp; (try with_reducible rfl))
      (try simp only [Act.put, List.getElem_toArray, List.getElem_cons_succ, List.getElem_cons_zero, List.setIfInBounds_toArray, List.set_cons_zero, List.set_cons_succ])
      refine wpAnyH_ready (rs := [9]) (by kernel_rfl) (by simp) ?_
      refine AllReadyH.cons rfl (fun K hK => ?_) AllReadyH.nil
      go_simp
      refine hK.out _ _ ⟨d2, d3⟩ (fun hHeld => ?_)
      clear hK K
      refine wpAnyH_done (by kernel_rfl) ?_ _
      go_wp2_with fail
      go_roundw
      case rel => exact ⟨k + 1, by omega, by go_num, HN⟩
      case measure => simp [intOf]; omega
    · have hk2 : k = m := by omega
      subst hk2
      have bo := T.blk H.out.obj pgn
      have c5 := bo.cell (k := 1) (by omega)
      have f5 := bo.frozen 1
      have HF := hid (pd_forget H.out T hb)
      clear T hb HR bo
      generalize obj3 (.slice (some ⟨gs, 0, none⟩) s s) (.slice x k c) (.slice (some ⟨gn, 0, none⟩) n n) 1 = V at *
      go_wp2_with fail
      refine bodyPost_end (results_none rfl _ _ _) rfl ?_
      exact ⟨rfl, HF.out⟩

end Go.Proofs.YtbbjklenpgkooaaGreat

/-
  What Flush, Crash and Rot of a disk do: contracts over plain numbers ('DkPlain').
  Conditions: the disk is one that New gave ('PDk'), or it is known how many bytes there are.
-/
namespace Go.Proofs.YtbbjklenpgkooaaGreat
open Go.RowKit By Dk
set_option linter.unusedVariables false
set_option linter.unusedSimpArgs false
set_option maxRecDepth 100000

set_option maxHeartbeats 1000000 in
theorem flush_any (p n m : Nat) (F : Nat → Prop) (f A : Nat → Nat) (D : Nat → Nat → Nat) (w : World) (h : Pd w F p n m f A D) :
    Calls Tryz.prog 72 #[.pointer (some ⟨p, 0, none⟩)] w fun e w' => e = .returned (.tuple #[]) ∧ Turns F w w' ∧ Pd w' F p n 0 (kept f A D (fun _ => true) m) A D := by
  obtain ⟨gs, gn, R, s, q, h⟩ := h
  obtain ⟨x, c, hR, hle, hnil, hrow0⟩ := ownsRow_form h.own
  subst hR
  have k1 := h.c1
  have hm2 := h.m2
  have H := hid h
  clear h hrow0
  go_enter Tryz.func72, Tryz.ntmps72
  go_wp2_with fail
  go_loopw [11] (fun i wr => ∃ k : Nat, k ≤ m ∧ i = .int .i64 k ∧ Hid (Turns F w wr ∧ PDk wr F p gs gn (.slice x m c) n s m (kept f A D (fun _ => true) k) A D q)) (fun i _ => m - (intOf i).toNat)
  case atStart => exact ⟨0, by omega, rfl, Turns.refl _ _, H.out⟩
  case round =>
    obtain ⟨k, hk, rfl, HR⟩ := hrel
    clear k1 H
    obtain ⟨T, h⟩ := HR.out
    by_cases hlt : k < m
    · have hkm : (k : Int) < (m : Int) := by omega
      obtain ⟨x', c', hR, _, _, hrow⟩ := ownsRow_form h.own
      injection hR with e1 _ e3
      subst e1
      subst e3
      rcases hrow with h0 | ⟨g, rfl, hcells⟩
      · omega
      have c1 := hcells k _ (rowOf_get _ m k hlt)
      rw [Nat.zero_add] at c1
      have hkp := keep_any p gs gn n s m k F _ _ A D q wr h hlt
      have HN : ∀ v, Turns F wr v ∧ PDk v F p gs gn (.slice (some ⟨g, 0, none⟩) m c) n s m (put (kept f A D (fun _ => true) k) (A k) (D k)) A D q → Hid (Turns F w v ∧ PDk v F p gs gn (.slice (some ⟨g, 0, none⟩) m c) n s m (kept f A D (fun _ => true) (k + 1)) A D q) := fun v hv => ⟨T.trans hv.1, hv.2⟩
      clear T h HR hcells
      generalize q k = b at *
      go_wp2_with ((go_at_call 35; refine hkp.mono ?_; rintro e v ⟨rfl, hv⟩; have HV := HN v hv; clear hkp HN hv))
      go_roundw
      case rel => exact ⟨k + 1, by omega, by go_num, HV⟩
      case measure => simp [intOf]; omega
    · have hk2 : k = m := by omega
      subst hk2
      have hfg := forget_any p n k F _ A D wr ⟨_, _, _, _, _, h⟩
      have HT := hid T
      clear T h HR
      go_wp2_with ((go_at_call 36; refine hfg.mono ?_; rintro e v ⟨rfl, hv⟩; have HV := hid hv; clear hfg hv))
      go_end0
      exact ⟨rfl, HT.out.trans HV.out.1, HV.out.2⟩

def BoolsAt (w : World) (x : Option Addr) (p : Nat) (h : Nat → Bool) : Prop :=
  p = 0 ∨ ∃ b o, x = some ⟨b, o, none⟩ ∧ b < w.heap.size ∧ ∀ i, i < p → w.cell? ⟨b, o + i, none⟩ = some (.bool (h i))

theorem BoolsAt.turns {w w' : World} {x : Option Addr} {p : Nat} {h : Nat → Bool} {F : Nat → Prop} (q : BoolsAt w x p h) (t : Turns F w w') (hx : p ≠ 0 → ∀ a, x = some a → ¬ F a.block) : BoolsAt w' x p h := by
  by_cases h0 : p = 0
  · exact .inl h0
  rcases q with q | ⟨b, o, rfl, h2, h3⟩
  · exact .inl q
  · exact .inr ⟨b, o, rfl, Nat.lt_of_lt_of_le h2 t.size, fun r hr => (World.cell?_of_block (a := ⟨b, o + r, none⟩) (t.block b h2 (hx h0 _ rfl))).trans (h3 r hr)⟩

theorem BoolsAt.far {w : World} {x : Option Addr} {p : Nat} {h : Nat → Bool} {F : Nat → Prop} (q : BoolsAt w x p h) (hF : ∀ k, F k → w.heap.size ≤ k) : p ≠ 0 → ∀ a, x = some a → ¬ F a.block := by
  intro h0 a ha hf
  rcases q with q | ⟨b, o, rfl, h2, h3⟩
  · exact h0 q
  · cases ha
    have := hF _ hf
    have e : (⟨b, o, none⟩ : Addr).block = b := rfl
    omega

theorem BoolsAt.below {w w' : World} {x : Option Addr} {p : Nat} {h : Nat → Bool} (q : BoolsAt w x p h) (k : Below w.heap.size w w') : BoolsAt w' x p h := by
  rcases q with q | ⟨b, o, h1, h2, h3⟩
  · exact .inl q
  · exact .inr ⟨b, o, h1, Nat.lt_of_lt_of_le h2 k.size, fun r hr => (k.cell h2).trans (h3 r hr)⟩

def cutB (l : Nat) (h : Nat → Bool) : Nat → Bool := fun i => decide (i < l) && h i

set_option maxHeartbeats 2000000 in
theorem crash_any (p n m l lc : Nat) (F : Nat → Prop) (f A : Nat → Nat) (D : Nat → Nat → Nat) (y : Option Addr) (b : Nat → Bool) (w : World) (h : Pd w F p n m f A D) (hy : BoolsAt w y l b) (hyF : l ≠ 0 → ∀ a, y = some a → ¬ F a.block) (hl : l ≤ 140737488355328) :
    Calls Tryz.prog 12 #[.pointer (some ⟨p, 0, none⟩), .slice y l lc] w fun e w' => e = .returned (.tuple #[]) ∧ Turns F w w' ∧ Pd w' F p n 0 (kept f A D (cutB l b) m) A D := by
  obtain ⟨gs, gn, R, s, q, h⟩ := h
  obtain ⟨x, c, hR, hle, hnil, hrow0⟩ := ownsRow_form h.own
  subst hR
  have k1 := h.c1
  have hm2 := h.m2
  have H := hid h
  have HY := hid hy
  have HYF := hid hyF
  clear h hrow0 hy hyF
  go_enter Tryz.func12, Tryz.ntmps12
  go_wp2_with fail
  go_loopw [13] (fun i wr => ∃ k : Nat, k ≤ m ∧ i = .int .i64 k ∧ Hid (Turns F w wr ∧ PDk wr F p gs gn (.slice x m c) n s m (kept f A D (cutB l b) k) A D q)) (fun i _ => m - (intOf i).toNat)
  case atStart => exact ⟨0, by omega, rfl, Turns.refl _ _, H.out⟩
  case round =>
    obtain ⟨k, hk, rfl, HR⟩ := hrel
    clear k1 H
    obtain ⟨T, h⟩ := HR.out
    by_cases hlt : k < m
    · have hkm : (k : Int) < (m : Int) := by omega
      obtain ⟨x', c', hR, _, _, hrow⟩ := ownsRow_form h.own
      injection hR with e1 _ e3
      subst e1
      subst e3
      rcases hrow with h0 | ⟨g, rfl, hcells⟩
      · omega
      have c1 := hcells k _ (rowOf_get _ m k hlt)
      rw [Nat.zero_add] at c1
      have hkp := keep_any p gs gn n s m k F _ _ A D q wr h hlt
      have HN : cutB l b k = true → ∀ v, Turns F wr v ∧ PDk v F p gs gn (.slice (some ⟨g, 0, none⟩) m c) n s m (put (kept f A D (cutB l b) k) (A k) (D k)) A D q → Hid (Turns F w v ∧ PDk v F p gs gn (.slice (some ⟨g, 0, none⟩) m c) n s m (kept f A D (cutB l b) (k + 1)) A D q) := fun ht v hv => ⟨T.trans hv.1, by rw [kept, if_pos ht]; exact hv.2⟩
      have HO : cutB l b k = false → Hid (Turns F w wr ∧ PDk wr F p gs gn (.slice (some ⟨g, 0, none⟩) m c) n s m (kept f A D (cutB l b) (k + 1)) A D q) := fun ht => ⟨T, by rw [kept, if_neg (by rw [ht]; decide)]; exact h⟩
      have hyr := HY.out.turns T HYF.out
      clear T h HR hcells HY
      generalize q k = qb at *
      by_cases hkl : k < l
      · rcases hyr with h0 | ⟨yb, yo, rfl, _, hyc⟩
        · omega
        have c2 := hyc k hkl
        have hkl' : (k : Int) < (l : Int) := by omega
        cases hbk : b k with
        | true =>
          rw [hbk] at c2
          have HN2 := HN (by simp [cutB, hkl, hbk])
          clear HN HO hyc hbk
          go_wp2_with ((go_at_call 35; refine hkp.mono ?_; rintro e v ⟨rfl, hv⟩; have HV := HN2 v hv; clear hkp HN2 hv))
          go_roundw
          case rel => exact ⟨k + 1, by omega, by go_num, HV⟩
          case measure => simp [intOf]; omega
        | false =>
          rw [hbk] at c2
          have HO2 := HO (by simp [cutB, hbk])
          clear HN HO hyc hbk hkp
          go_wp2_with fail
          go_roundw
          case rel => exact ⟨k + 1, by omega, by go_num, HO2⟩
          case measure => simp [intOf]; omega
      · have HO2 := HO (by simp [cutB, hkl])
        have hkl' : (l : Int) ≤ (k : Int) := by omega
        clear HN HO hkp hyr
        go_wp2_with fail
        go_roundw
        case rel => exact ⟨k + 1, by omega, by go_num, HO2⟩
        case measure => simp [intOf]; omega
    · have hk2 : k = m := by omega
      subst hk2
      have hfg := forget_any p n k F _ A D wr ⟨_, _, _, _, _, h⟩
      have HT := hid T
      clear T h HR
      go_wp2_with ((go_at_call 36; refine hfg.mono ?_; rintro e v ⟨rfl, hv⟩; have HV := hid hv; clear hfg hv))
      go_end0
      exact ⟨rfl, HT.out.trans HV.out.1, HV.out.2⟩

def rotF (f : Nat → Nat) (a y : Nat) : Nat → Nat := fun k => if k = a then f k ^^^ y else f k

theorem xor_lt8 {a b : Nat} (ha : a < 256) (hb : b < 256) : a ^^^ b < 256 := Nat.xor_lt_two_pow (n := 8) ha hb

end Go.Proofs.YtbbjklenpgkooaaGreat

/-
  A disk in use: contracts that carry what lies below along; the statements' own check that what was flushed is safe.
  Conditions: none.
-/
namespace Go.Proofs.YtbbjklenpgkooaaGreat
open Go.RowKit By Dk
set_option linter.unusedVariables false
set_option linter.unusedSimpArgs false
set_option maxRecDepth 100000

structure Dsk (B : Nat) (w0 w : World) (F : Nat → Prop) (p n m : Nat) (f A : Nat → Nat) (D : Nat → Nat → Nat) : Prop where
  bel : Below B w0 w
  size : B ≤ w.heap.size
  foot : ∀ k, F k → B ≤ k
  pd : Pd w F p n m f A D

section
variable {B : Nat} {w0 w : World} {F : Nat → Prop} {p n m : Nat} {f A : Nat → Nat} {D : Nat → Nat → Nat}

theorem Dsk.below {w' : World} (h : Dsk B w0 w F p n m f A D) (t : Below w.heap.size w w') : Dsk B w0 w' F p n m f A D :=
  ⟨h.bel.trans (t.mono h.size), Nat.le_trans h.size t.size, h.foot, h.pd.below t⟩

theorem Dsk.turns {w' : World} {G : Nat → Prop} (h : Dsk B w0 w F p n m f A D) (t : Turns G w w') (hG : ∀ k, G k → B ≤ k) (hd : ∀ k, F k → ¬ G k) : Dsk B w0 w' F p n m f A D :=
  ⟨h.bel.trans (t.below hG h.size), Nat.le_trans h.size t.size, h.foot, h.pd.turns t hd⟩

theorem Dsk.drewN (h : Dsk B w0 w F p n m f A D) (k : Nat) : Dsk B w0 (w.drewN k) F p n m f A D := ⟨⟨h.bel.os, h.bel.tape, h.bel.output, h.bel.size, h.bel.block⟩, h.size, h.foot, h.pd.drewN k⟩
theorem Dsk.drew (h : Dsk B w0 w F p n m f A D) : Dsk B w0 w.drew F p n m f A D := h.drewN 1

theorem Pd.flt (h : Pd w F p n m f A D) : ∀ k, F k → k < w.heap.size := by
  obtain ⟨gs, gn, R, s, q, h⟩ := h
  exact h.flt

theorem Pd.lt (h : Pd w F p n m f A D) : ∀ i, f i < 256 := by
  obtain ⟨gs, gn, R, s, q, h⟩ := h
  exact h.lt

theorem Pd.ltD (h : Pd w F p n m f A D) : ∀ i j, D i j < 256 := by
  obtain ⟨gs, gn, R, s, q, h⟩ := h
  exact h.ltD

end

theorem dnew (n : Nat) (z : Int) (hz : z = (n : Int)) (w : World) (h1 : 1 ≤ n) (h2 : n ≤ 4096) :
    Calls Tryz.prog 10 #[.int .i64 z] w fun e w' => ∃ p F, e = .returned (.tuple #[.pointer (some ⟨p, 0, none⟩), .int .i64 0]) ∧ Dsk w.heap.size w w' F p n 0 (fun _ => 0) (fun _ => 0) (fun _ _ => 0) :=
  (new_yes n z hz _ _ (fun _ _ => by omega) w h1 h2).mono fun e w' ⟨p, he, hb, hd⟩ => ⟨p, _, he, hb, hb.size, fun k hk => hk.1, hd⟩

theorem dwrite (B p n m a c : Nat) (F : Nat → Prop) (f A g : Nat → Nat) (D : Nat → Nat → Nat) (x : Option Addr) (z : Int) (hz : z = (a : Int)) (w0 w : World) (h : Dsk B w0 w F p n m f A D) (ha : a < n) (hx : RowAt w x 64 g) (hg : ∀ i, g i < 256) (hm : m < 5000) :
    Calls Tryz.prog 20 #[.pointer (some ⟨p, 0, none⟩), .int .i64 z, .slice x 64 c] w fun e w' => e = .returned (.int .i64 0) ∧ Turns F w w' ∧ Dsk B w0 w' (grow F w w') p n (m + 1) f (ext A m a) (ext D m g) :=
  (write_yes p n m a c F f A g D x z hz w h.pd ha hx hg hm).mono fun e w' ⟨he, ht, hd⟩ => ⟨he, ht, h.bel.trans (ht.below h.foot h.size), Nat.le_trans h.size ht.size, fun k hk => by
    rcases hk with hk | hk
    · exact h.foot k hk
    · exact Nat.le_trans h.size hk.1, hd⟩

theorem dflush (B p n m : Nat) (F : Nat → Prop) (f A : Nat → Nat) (D : Nat → Nat → Nat) (w0 w : World) (h : Dsk B w0 w F p n m f A D) :
    Calls Tryz.prog 72 #[.pointer (some ⟨p, 0, none⟩)] w fun e w' => e = .returned (.tuple #[]) ∧ Turns F w w' ∧ Dsk B w0 w' F p n 0 (kept f A D (fun _ => true) m) A D :=
  (flush_any p n m F f A D w h.pd).mono fun e w' ⟨he, ht, hd⟩ => ⟨he, ht, h.bel.trans (ht.below h.foot h.size), Nat.le_trans h.size ht.size, h.foot, hd⟩

theorem dcrash (B p n m l lc : Nat) (F : Nat → Prop) (f A : Nat → Nat) (D : Nat → Nat → Nat) (y : Option Addr) (b : Nat → Bool) (w0 w : World) (h : Dsk B w0 w F p n m f A D) (hy : BoolsAt w y l b) (hyF : l ≠ 0 → ∀ a, y = some a → ¬ F a.block) (hl : l ≤ 140737488355328) :
    Calls Tryz.prog 12 #[.pointer (some ⟨p, 0, none⟩), .slice y l lc] w fun e w' => e = .returned (.tuple #[]) ∧ Turns F w w' ∧ Dsk B w0 w' F p n 0 (kept f A D (cutB l b) m) A D :=
  (crash_any p n m l lc F f A D y b w h.pd hy hyF hl).mono fun e w' ⟨he, ht, hd⟩ => ⟨he, ht, h.bel.trans (ht.below h.foot h.size), Nat.le_trans h.size ht.size, h.foot, hd⟩

theorem dread (B p n m a : Nat) (F : Nat → Prop) (f A : Nat → Nat) (D : Nat → Nat → Nat) (z : Int) (hz : z = (a : Int)) (w0 w : World) (h : Dsk B w0 w F p n m f A D) (ha : a < n) :
    Calls Tryz.prog 79 #[.pointer (some ⟨p, 0, none⟩), .int .i64 z] w fun e w' => e = .returned (.tuple #[.slice (some ⟨w.heap.size, 0, none⟩) 64 64, .int .i64 0]) ∧ Below w.heap.size w w' ∧ Dsk B w0 w' F p n m f A D ∧ Blk w' w.heap.size 5 64 (fun i => .int .u8 (now f A D a m i : Int)) :=
  (read_yes p n m a F f A D z hz w h.pd ha).mono fun e w' ⟨he, hb, hk⟩ => ⟨he, hb, h.below hb, hk⟩

def g7 : Nat → Nat := fun i => if i = 3 then 7 else 0

theorem g7_lt (i : Nat) : g7 i < 256 := by unfold g7; split <;> omega

end Go.Proofs.YtbbjklenpgkooaaGreat

/-
  A disk that nobody made: nil, and the zero one: what its calls tell.
  Conditions: none.
-/
namespace Go.Proofs.YtbbjklenpgkooaaGreat
open Go.RowKit By Dk
set_option linter.unusedVariables false
set_option linter.unusedSimpArgs false
set_option maxRecDepth 100000

theorem nflush (w : World) : Calls Tryz.prog 72 #[.pointer none] w fun e w' => e = .returned (.tuple #[]) ∧ w' = w := by
  go_enter Tryz.func72, Tryz.ntmps72
  go_wp2_with fail
  refine bodyPost_ret (results_none rfl _ _ _) rfl ?_
  exact ⟨rfl, rfl⟩

theorem ncrash (x : Option Addr) (l c : Nat) (w : World) : Calls Tryz.prog 12 #[.pointer none, .slice x l c] w fun e w' => e = .returned (.tuple #[]) ∧ w' = w := by
  go_enter Tryz.func12, Tryz.ntmps12
  go_wp2_with fail
  refine bodyPost_ret (results_none rfl _ _ _) rfl ?_
  exact ⟨rfl, rfl⟩

theorem nhas (z : Int) (w : World) : Calls Tryz.prog 46 #[.pointer none, .int .i64 z] w fun e w' => e = .returned (.bool false) ∧ w' = w := has_any _ 0 z false w (size_nil w) (fun h1 h2 => by omega) (fun _ => rfl)

theorem nread (z : Int) (w : World) : Calls Tryz.prog 79 #[.pointer none, .int .i64 z] w fun e w' => e = .returned (.tuple #[.slice none 0 0, .int .i64 1]) ∧ w' = w := read_no _ z w (nhas z w)

theorem nwrite (z : Int) (x : Option Addr) (l c : Nat) (w : World) : Calls Tryz.prog 20 #[.pointer none, .int .i64 z, .slice x l c] w fun e w' => e = .returned (.int .i64 1) ∧ w' = w := write_no _ z x l c false w (nhas z w) (fun h => by cases h)

/- The zero disk at block p. -/
def Zero (w : World) (p : Nat) : Prop := Blk w p 73 3 (fun _ => .slice none 0 0)

theorem Zero.cell {w : World} {p k : Nat} (h : Zero w p) (hk : k < 3) : w.cell? ⟨p, k, none⟩ = some (.slice none 0 0) := Blk.cell h hk

theorem Zero.set {w : World} {p : Nat} (h : Zero w p) : Zero (w.setCell ⟨p, 1, none⟩ (.slice none 0 0)) p := (Blk.set h 1 (.slice none 0 0)).congr fun k hk => by unfold upd; split <;> rfl

theorem zforget (p : Nat) (w : World) (h : Zero w p) : Calls Tryz.prog 36 #[.pointer (some ⟨p, 0, none⟩)] w fun e w' => e = .returned (.tuple #[]) ∧ Turns (fun k => k = p) w w' ∧ Zero w' p := by
  have c1 := h.cell (k := 1) (by omega)
  have f1 := Blk.frozen h 1
  have HF : Hid (Turns (fun k => k = p) w (w.setCell ⟨p, 1, none⟩ (.slice none 0 0)) ∧ Zero (w.setCell ⟨p, 1, none⟩ (.slice none 0 0)) p) := ⟨(Turns.refl (fun k => k = p) w).setCell (p := ⟨p, 1, none⟩) (.inl rfl) _, h.set⟩
  clear h
  go_enter Tryz.func36, Tryz.ntmps36
  go_wp2_with fail
  refine wp_loop_rounds 1 ?_
  rw [rounds_succ]
  go_wp2_with fail
  go_end0
  exact ⟨rfl, HF.out⟩

theorem zflush (p : Nat) (w : World) (h : Zero w p) : Calls Tryz.prog 72 #[.pointer (some ⟨p, 0, none⟩)] w fun e w' => e = .returned (.tuple #[]) ∧ Turns (fun k => k = p) w w' ∧ Zero w' p := by
  have c1 := h.cell (k := 1) (by omega)
  have hfg := zforget p w h
  clear h
  go_enter Tryz.func72, Tryz.ntmps72
  go_wp2_with fail
  refine wp_loop_rounds 1 ?_
  rw [rounds_succ]
  go_wp2_with ((go_at_call 36; refine hfg.mono ?_; rintro e v ⟨rfl, hv⟩; have HV := hid hv; clear hfg hv))
  go_end0
  exact ⟨rfl, HV.out⟩

theorem zcrash (p l c : Nat) (x : Option Addr) (w : World) (h : Zero w p) : Calls Tryz.prog 12 #[.pointer (some ⟨p, 0, none⟩), .slice x l c] w fun e w' => e = .returned (.tuple #[]) ∧ Turns (fun k => k = p) w w' ∧ Zero w' p := by
  have c1 := h.cell (k := 1) (by omega)
  have hfg := zforget p w h
  clear h
  go_enter Tryz.func12, Tryz.ntmps12
  go_wp2_with fail
  refine wp_loop_rounds 1 ?_
  rw [rounds_succ]
  go_wp2_with ((go_at_call 36; refine hfg.mono ?_; rintro e v ⟨rfl, hv⟩; have HV := hid hv; clear hfg hv))
  go_end0
  exact ⟨rfl, HV.out⟩

theorem zhas (p : Nat) (z : Int) (w : World) (h : Zero w p) : Calls Tryz.prog 46 #[.pointer (some ⟨p, 0, none⟩), .int .i64 z] w fun e w' => e = .returned (.bool false) ∧ w' = w := has_any _ 0 z false w (size_any p 0 0 none w (h.cell (k := 2) (by omega))) (fun h1 h2 => by omega) (fun _ => rfl)

end Go.Proofs.YtbbjklenpgkooaaGreat

/-
  A statement that Go may carry out in more than one order, whose last step, a store, waits for all others: what is read ahead of it may be read first, though the store writes there.
  Conditions: none.
-/
namespace Go.Proofs.YtbbjklenpgkooaaGreat
open Go
set_option linter.unusedVariables false

section
variable {P : Program} {ops : Array Oper} {Q : Exit → Act → World → Prop} {md : Region.Mode} {S : World → Prop} {l : Nat}

def wpAnyL (P : Program) (md : Region.Mode) (ops : Array Oper) (Q : Exit → Act → World → Prop) (S : World → Prop) (l : Nat) : Nat → Array Bool → Act → World → Prop
  | 0, listed, a, w => Region.ready md ops listed = [] ∧ Q .normal a w
  | fuel + 1, listed, a, w =>
    (Region.ready md ops listed = [] → Q .normal a w) ∧
    ∀ i ∈ Region.ready md ops listed, wpOp P ops Q i (fun a' w' => (i ≠ l → S w') ∧ wpAnyL P md ops Q S l fuel (listed.setIfInBounds i true) a' w') a w

theorem wpAny_of_last : ∀ (fuel : Nat) (listed : Array Bool) (a : Act) (w : World), wpAnyL P md ops Q S l fuel listed a w → wpAny P md ops Q fuel listed a w
  | 0, _, _, _, h => h
  | fuel + 1, _, _, _, h => ⟨h.1, fun i hi => wpOp_mono (fun a' w' h' => wpAny_of_last fuel _ a' w' h'.2) (h.2 i hi)⟩

def waits (md : Region.Mode) (ops : Array Oper) (l i : Nat) : Bool :=
  match ops[l]? with
  | some o => o.after.toList.any fun e => Region.binds md e && e.on == i
  | none => false

theorem waits_spec {i : Nat} (h : waits md ops l i = true) {o : Oper} (ho : ops[l]? = some o) : ∃ e ∈ o.after, Region.binds md e = true ∧ e.on = i := by
  unfold waits at h
  rw [ho] at h
  obtain ⟨e, he, hb⟩ := List.any_eq_true.1 h
  simp only [Bool.and_eq_true, beq_iff_eq] at hb
  exact ⟨e, by simpa using he, hb.1, hb.2⟩

theorem wpAnyL_first {i : Nat} {oi : Oper} {v : Value} (hi : ops[i]? = some oi) (hsel : ∀ (j : Nat) (o : Oper) cs b, ops[j]? = some o → o.op ≠ .select cs b)
    (hQ : ∀ c a w, Q (.panic c) (a.put oi.dst v) w → Q (.panic c) a w) (hwait : waits md ops l i = true) :
    ∀ (fuel : Nat) (listed : Array Bool) (a : Act) (w : World),
      (∀ j oj, ops[j]? = some oj → j ≠ i → listed.getD j true = false → (∀ e ∈ oj.after, Region.binds md e = true → e.on ≠ i) → oi.apart ops oj = true) →
      i ∈ Region.ready md ops listed → YieldsIf P ops S oi v a → S w →
      wpAnyL P md ops Q S l fuel (listed.setIfInBounds i true) (a.put oi.dst v) w → wpAnyL P md ops Q S l (fuel + 1) listed a w := by
  intro fuel
  induction fuel with
  | zero =>
    intro listed a w _ hr hy hS H
    refine ⟨fun h => (by rw [h] at hr; cases hr), fun j hj => ?_⟩
    by_cases hji : j = i
    · subst hji; exact hy.wpOp hi hS ⟨fun _ => hS, H⟩
    · have := ready_mono hj hji
      rw [H.1] at this
      cases this
  | succ fuel ih =>
    intro listed a w hfree hr hy hS H
    refine ⟨fun h => (by rw [h] at hr; cases hr), fun j hj => ?_⟩
    by_cases hji : j = i
    · subst hji; exact hy.wpOp hi hS ⟨fun _ => hS, H⟩
    · have h1 := H.2 j (ready_mono hj hji)
      obtain ⟨hjun, oj, hoj, hall⟩ := mem_ready.1 hj
      have hnot : ∀ e ∈ oj.after, Region.binds md e = true → e.on ≠ i := fun e he hb heq => by
        have h1 := hall e he hb
        have h0 := (mem_ready.1 hr).1
        rw [heq] at h1
        rcases Nat.lt_or_ge i listed.size with h' | h'
        · simp [h'] at h0 h1; rw [h0] at h1; cases h1
        · simp [Array.getElem?_eq_none h'] at h1
      have hjl : j ≠ l := fun e => by
        subst e
        obtain ⟨x, hx, hb, hon⟩ := waits_spec hwait hoj
        exact hnot x hx hb hon
      have h2 := wpOp_putIf hoj (hfree j oj hoj hji hjun hnot) (fun cs b => hsel i oi cs b hi) (fun cs b => hsel j oj cs b hoj) hQ hy h1
      have hfree' : ∀ k ok, ops[k]? = some ok → k ≠ i → (listed.setIfInBounds j true).getD k true = false →
          (∀ e ∈ ok.after, Region.binds md e = true → e.on ≠ i) → oi.apart ops ok = true := fun k ok hk hki hun hno => by
        refine hfree k ok hk hki ?_ hno
        by_cases hjk : j = k
        · subst hjk; exact hjun
        · rw [getD_set_ne true hjk] at hun; exact hun
      refine wpOp_mono (fun a' w' h3 => ⟨fun _ => h3.2.1 hjl, ih (listed.setIfInBounds j true) a' w' hfree' (ready_mono hr (Ne.symm hji)) h3.1 (h3.2.1 hjl) ?_⟩) h2
      rw [Array.setIfInBounds_comm _ _ hji]
      exact h3.2.2

theorem wpAnyL_take {i : Nat} {oi : Oper} {v : Value} {fuel : Nat} {listed : Array Bool} {a : Act} {w : World} (hi : ops[i]? = some oi)
    (hs : Region.noSelect ops = true) (hf : Region.free md ops listed i = true) (hr : (Region.ready md ops listed).contains i = true) (hwait : waits md ops l i = true)
    (hQ : ∀ c a w, Q (.panic c) (a.put oi.dst v) w → Q (.panic c) a w) (hS : S w) (hy : YieldsIf P ops S oi v a)
    (h : wpAnyL P md ops Q S l fuel (listed.setIfInBounds i true) (a.put oi.dst v) w) : wpAnyL P md ops Q S l (fuel + 1) listed a w :=
  wpAnyL_first hi (Region.noSelect_spec hs) hQ hwait fuel listed a w (Region.free_spec hi hf) (by simpa using hr) hy hS h

/- One alone may come up. -/
theorem wpAnyL_one {i : Nat} {o : Oper} {fuel : Nat} {listed : Array Bool} {a : Act} {w : World} (hr : Region.ready md ops listed = [i]) (ho : ops[i]? = some o)
    (h : ∀ K' : Act → World → Prop, Shut (∀ a w, (i ≠ l → S w) → wpAnyL P md ops Q S l fuel (listed.setIfInBounds i true) a w → K' a w) → if Region.wanted o (yielded ops a.tmps) = true then Oper.wp P o a w K' Q else K' (a.put o.dst undef) w) :
    wpAnyL P md ops Q S l (fuel + 1) listed a w :=
  ⟨fun h0 => (by rw [hr] at h0; cases h0), fun j hj => by
    rw [hr] at hj
    have e : j = i := by simpa using hj
    subst e
    exact wpOp_step ho (fun K' hK => h K' (fun a w hS hW => hK a w ⟨hS, hW⟩))⟩

theorem wpAnyL_done {listed : Array Bool} {a : Act} {w : World} (hr : Region.ready md ops listed = []) (h : Q .normal a w) : ∀ fuel, wpAnyL P md ops Q S l fuel listed a w
  | 0 => ⟨hr, h⟩
  | _ + 1 => ⟨fun _ => h, by rw [hr]; simp⟩

theorem wp_region_last {id : Nat} {a : Act} {w : World} (S : World → Prop) (l : Nat) (hm : P.follows .mixedOrders = true) (hS : S w.drew)
    (h : S w.drew → wpAnyL P .any ops Q S l ops.size (Array.replicate ops.size false) a w.drew) : (Code.region id ops true).wp P Q a w :=
  wp_region_any hm (wpAny_of_last _ _ _ _ (h hS))

end

end Go.Proofs.YtbbjklenpgkooaaGreat
