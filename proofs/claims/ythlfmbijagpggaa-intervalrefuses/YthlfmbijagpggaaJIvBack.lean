/-
  2 texts of this proof, one behind the other: IvBack, IvBackS.
-/
import Derived.Test.YthlfmbijagpggaaJIvRange
import Derived.Test.YthlfmbijagpggaaJPlLives
import Derived.Test.YthlfmbijagpggaaJIvEqual
/-
  Package interval: backward: which intervals it hands over, the last one first.
  Conditions: the row of maps lies in memory, and nobody writes it.
-/
namespace Go.Proofs.Ythlfmbijagpggaa.Iv
open Go.RowKit By Fl At Cr Pl
set_option linter.unusedVariables false
set_option linter.unusedSimpArgs false
set_option maxRecDepth 100000

theorem back_make (x : Option Addr) (n c : Nat) (pg : Int) (w : World) : Calls Try.prog 14 #[.slice x n c, .int .i64 pg] w fun e w' => e = .returned (.func (.func 18) #[] #[.pointer (some ⟨w.heap.size, 0, none⟩), .pointer (some ⟨w.heap.size + 1, 0, none⟩)]) ∧ w' = (w.alloc (.cells #[.slice x n c] 22)).alloc (.cells #[.int .i64 pg] 3) := by
  go_enter Try.func14, Try.ntmps14
  go_wp2_with fail
  go_ret
  exact ⟨rfl, rfl⟩

def OkS (T : List Span) (X Z : Nat → Prop) (i : Nat) (a : Array Value) (W : World) : Prop := ∃ v : SpV, T[i]? = some v.s ∧ a = #[vS v] ∧ SpAt W v ∧ ∀ k, blks v k → Z k ∧ ¬ X k

theorem okS_abd (T : List Span) : OkAbd (OkS T) := fun X Z X' Z' i x A B ⟨v, h1, h2, h3, h4⟩ t hX hZ => ⟨v, h1, h2, h3.turns t (fun k hk e => e (h4 k hk).1), fun k hk => ⟨hZ k (h4 k hk).1, fun e => by
  rcases hX k e with e | e
  · exact (h4 k hk).2 e
  · exact e (h4 k hk).1⟩⟩

def Xo (X Xi : Nat → Prop) (xb : Nat) : Nat → Prop := fun k => X k ∨ k = xb ∨ Xi k
def Zo (Z Zi : Nat → Prop) (yb xb : Nat) (v : SpV) : Nat → Prop := fun k => Z k ∨ k = yb ∨ k = xb ∨ blks v k ∨ Zi k

/- Between two rounds. -/
structure BI (J : (Nat → Prop) → (Nat → Prop) → Nat → World → Prop) (X Z Rd : Nat → Prop) (w : World) (T : List Span) (L : List Mp) (pg : Int) (yb xb l q : Nat) (Xi Zi : Nat → Prop) (i : Nat) (W : World) (v : SpV) (j : Nat) : Prop where
  inv : J (Xo X Xi xb) (Zo Z Zi yb xb v) j W
  zlt : ∀ k, Z k → k < W.heap.size
  box : SBox W xb v
  spa : SpAt W v
  bls : ∀ k, blks v k → ¬ X k ∧ k ≠ xb ∧ ¬ Xi k
  lst : T = T.take j ++ bk v.s (moms (L.take (q - i)) pg).reverse
  trn : Turns (fun k => ¬ Rd k) w W
  yld : W.cell? ⟨yb, 0, none⟩ = some (.func (.yield l) #[] #[])
  nyb : ¬ Xi yb
  nxb : ¬ Xi xb
  nzb : ¬ Zi xb
  nrd : ∀ k, Rd k → ¬ Xi k

theorem bi_abd {J : (Nat → Prop) → (Nat → Prop) → Nat → World → Prop} {X Z Rd : Nat → Prop} {w : World} {T : List Span} {L : List Mp} {pg : Int} {yb xb l q : Nat} (hJ : Abd J) (hXZ : ∀ k, X k → Z k) (hRZ : ∀ k, Rd k → Z k) : Abd (fun Xi Zi i W => ∃ v j, BI J X Z Rd w T L pg yb xb l q Xi Zi i W v j) := by
  rintro Xi Zi Xi' Zi' i A B ⟨v, j, h⟩ t hX hZ hs hlt
  have syb : yb < A.heap.size := cell_lt' h.yld
  have sxb : xb < A.heap.size := h.box.lt
  have nX : ∀ k, k < A.heap.size → ¬ Xi k → ¬ Xi' k := fun k hk hn e => by
    rcases hX k e with e | e
    · exact hn e
    · omega
  refine ⟨v, j, ?_, fun k hk => Nat.lt_of_lt_of_le (h.zlt k hk) t.size, h.box.turns t h.nxb, h.spa.turns t (fun k hk => (h.bls k hk).2.2), fun k hk => ⟨(h.bls k hk).1, (h.bls k hk).2.1, nX k (h.spa.lt hk) (h.bls k hk).2.2⟩, h.lst, h.trn.trans (t.weak fun k hk e => h.nrd k e hk),
    (World.cell?_of_block (a := ⟨yb, 0, none⟩) (t.block yb syb h.nyb)).trans h.yld, nX yb syb h.nyb, nX xb sxb h.nxb, fun e => ?_, fun k hk => nX k (h.zlt k (hRZ k hk)) (h.nrd k hk)⟩
  · refine hJ _ _ _ _ j A B h.inv (t.weak fun k hk => .inr (.inr hk)) (fun k hk => ?_) (fun k hk => ?_) (fun k hk => ?_) (fun k hk => ?_)
    · rcases hk with hk | hk | hk
      · exact .inl (.inl hk)
      · exact .inl (.inr (.inl hk))
      · rcases hX k hk with e | e
        · exact .inl (.inr (.inr e))
        · exact .inr e
    · rcases hk with hk | hk | hk | hk | hk
      · exact .inl (.inl hk)
      · exact .inl (.inr (.inl hk))
      · exact .inl (.inr (.inr (.inl hk)))
      · exact .inl (.inr (.inr (.inr (.inl hk))))
      · rcases hZ k hk with e | e
        · exact .inl (.inr (.inr (.inr (.inr e))))
        · exact .inr e
    · rcases hk with hk | hk | hk
      · exact .inl (hXZ k hk)
      · exact .inr (.inr (.inl hk))
      · exact .inr (.inr (.inr (.inr (hs k hk))))
    · have z := t.size
      rcases hk with hk | rfl | rfl | hk | hk
      · exact Nat.lt_of_lt_of_le (h.zlt k hk) z
      · omega
      · omega
      · exact Nat.lt_of_lt_of_le (h.spa.lt hk) z
      · exact hlt k hk
  · rcases hZ xb e with e | e
    · exact h.nzb e
    · omega

def BX (Jx : (Nat → Prop) → (Nat → Prop) → Nat → World → Prop) (X Z : Nat → Prop) (T : List Span) (c : Code) (Xi Zi : Nat → Prop) (i : Nat) (W : World) : Prop :=
  c = .ret ∧ ∃ j, j ≤ T.length ∧ Jx (fun k => X k ∨ Xi k) (fun k => Z k ∨ Zi k) j W ∧ ∀ k, Z k → k < W.heap.size

theorem bx_abd {Jx : (Nat → Prop) → (Nat → Prop) → Nat → World → Prop} {X Z : Nat → Prop} {T : List Span} (hJ : Abd Jx) (hXZ : ∀ k, X k → Z k) (c : Code) : Abd (BX Jx X Z T c) := by
  rintro Xi Zi Xi' Zi' i A B ⟨hc, j, hj, h, hz⟩ t hX hZ hs hlt
  refine ⟨hc, j, hj, hJ _ _ _ _ j A B h (t.weak fun k hk => .inr hk) (fun k hk => ?_) (fun k hk => ?_) (fun k hk => ?_) (fun k hk => ?_), fun k hk => Nat.lt_of_lt_of_le (hz k hk) t.size⟩
  · rcases hk with hk | hk
    · exact .inl (.inl hk)
    · rcases hX k hk with e | e
      · exact .inl (.inr e)
      · exact .inr e
  · rcases hk with hk | hk
    · exact .inl (.inl hk)
    · rcases hZ k hk with e | e
      · exact .inl (.inr e)
      · exact .inr e
  · rcases hk with hk | hk
    · exact .inl (hXZ k hk)
    · exact .inr (hs k hk)
  · rcases hk with hk | hk
    · exact Nat.lt_of_lt_of_le (hz k hk) t.size
    · exact hlt k hk

theorem split_get {T r : List Span} {s : Span} {j : Nat} (h : T = T.take j ++ s :: r) : T[j]? = some s ∧ T.take (j + 1) = T.take j ++ [s] ∧ T = T.take (j + 1) ++ r ∧ j + 1 ≤ T.length := by
  have hl : (T.take j).length = j := by
    rw [List.length_take]
    have := congrArg List.length h
    rw [List.length_append, List.length_take, List.length_cons] at this
    omega
  have h1 : T[j]? = some s := by
    rw [h, List.getElem?_append_right (by omega), hl, Nat.sub_self]
    rfl
  have h2 : T.take (j + 1) = T.take j ++ [s] := by
    rw [List.take_add_one, h1]
    rfl
  refine ⟨h1, h2, ?_, ?_⟩
  · rw [h2, List.append_assoc]
    exact h
  · have := (List.getElem?_eq_some_iff.1 h1).1
    omega

theorem rest_next {L : List Mp} {pg : Int} {q i jj : Nat} {m : Mp} (hj : i + jj + 1 = q) (hm : L[jj]? = some m) : (moms (L.take (q - i)) pg).reverse = mom m pg :: (moms (L.take (q - (i + 1))) pg).reverse := by
  have e : q - i = jj + 1 := by omega
  have e2 : q - (i + 1) = jj := by omega
  rw [e, e2, List.take_add_one, hm]
  unfold moms
  simp

theorem round_any {n m l l0 : Nat} {f : FuncId} {tmps : Array Value} {assign body : Code} {w : World} {R : Ending → World → Prop} (h : RoundIn Fence.wide n Try.prog l f tmps assign body w R) : RoundIn (Fence.wide.inRound l0) m Try.prog l f tmps assign body w R :=
  ⟨h.1, fun c cs _ => h.2 c cs (room_wide _)⟩

end Go.Proofs.Ythlfmbijagpggaa.Iv

/-
  Package interval: backward: what one round leaves.
  Conditions: none.
-/
namespace Go.Proofs.Ythlfmbijagpggaa.Iv
open Go.RowKit By Fl At Cr Pl
set_option linter.unusedVariables false
set_option linter.unusedSimpArgs false
set_option maxRecDepth 100000

section
variable {J Jx : (Nat → Prop) → (Nat → Prop) → Nat → World → Prop} {X Z Rd Xi Zi : Nat → Prop} {w W2 w5 W6 : World} {T : List Span} {L : List Mp} {pg : Int} {yb xb l q i j jj ab : Nat} {v v2 : SpV} {m : Mp}

def Z5 (Z Zi : Nat → Prop) (yb xb ab : Nat) (v v2 : SpV) : Nat → Prop := fun k => Zo Z Zi yb xb v k ∨ k = ab ∨ blks v2 k

theorem BI.fit (h : BI J X Z Rd w T L pg yb xb l q Xi Zi i W2 v j) (hf : Fit Xi Zi W2) (hXZ : ∀ k, X k → Z k) : Fit (Xo X Xi xb) (Zo Z Zi yb xb v) W2 := ⟨fun k hk => by
  rcases hk with hk | hk | hk
  · exact .inl (hXZ k hk)
  · exact .inr (.inr (.inl hk))
  · exact .inr (.inr (.inr (.inr (hf.sub k hk)))), fun k hk => by
  have syb : yb < W2.heap.size := cell_lt' h.yld
  have sxb := h.box.lt
  rcases hk with hk | rfl | rfl | hk | hk
  · exact h.zlt k hk
  · exact syb
  · exact sxb
  · exact h.spa.lt hk
  · exact hf.lt k hk⟩

theorem bi_like (hJ : Abd J) (hXZ : ∀ k, X k → Z k) (hRZ : ∀ k, Rd k → Z k) (hxb : ¬ Z xb) (h : BI J X Z Rd w T L pg yb xb l q Xi Zi i W2 v j) (hyx : yb ≠ xb) (hf : Fit Xi Zi W2) (hb : Below W2.heap.size W2 w5) (hj : i + jj + 1 = q) (hm : L[jj]? = some m) (hl : lik (mom m pg) v.s = true) :
    Turns (fun k => ¬ Zi k) W2 (w5.setCell ⟨xb, 0, none⟩ (.int .i64 m.ep)) ∧ ∃ v j, BI J X Z Rd w T L pg yb xb l q Xi Zi (i + 1) (w5.setCell ⟨xb, 0, none⟩ (.int .i64 m.ep)) v j := by
  have t : Turns (fun k => k = xb) W2 (w5.setCell ⟨xb, 0, none⟩ (.int .i64 m.ep)) := (Turns.of_below hb).trans (turns_put (Turns.refl _ w5) 0 _)
  have sxb := h.box.lt
  have syb : yb < W2.heap.size := cell_lt' h.yld
  refine ⟨t.weak fun k hk e => h.nzb (hk ▸ e), ⟨⟨m.ep, v.s.til, v.s.ac, v.s.lv, v.s.bt⟩, v.x1, v.n1, v.c1, v.x2, v.n2, v.c2, v.x3, v.n3, v.c3⟩, j, ?_, fun k hk => Nat.lt_of_lt_of_le (h.zlt k hk) t.size, ?_, ?_, h.bls, ?_, ?_, ?_, h.nyb, h.nxb, h.nzb, h.nrd⟩
  · have hff := h.fit hf hXZ
    exact hJ _ _ _ _ j W2 _ h.inv (t.weak fun k hk => .inr (.inl hk)) (fun k hk => .inl hk) (fun k hk => .inl hk) hff.sub (fun k hk => Nat.lt_of_lt_of_le (hff.lt k hk) t.size)
  · have hbx : w5.heap[xb]? = some (.cells (cS v) 25 (0, 0)) := (hb.block xb sxb).trans h.box
    exact (heap_set hbx _).trans rfl
  · have := h.spa.turns t (fun k hk => (h.bls k hk).2.1)
    exact ⟨this.a, this.l, this.b, this.sm⟩
  · have hlst := h.lst
    rw [rest_next hj hm] at hlst
    unfold bk at hlst
    rw [if_pos hl] at hlst
    exact hlst
  · exact h.trn.trans (t.weak fun k hk e => hxb (hk ▸ hRZ _ e))
  · exact (World.cell?_of_block (a := ⟨yb, 0, none⟩) (t.block yb syb hyx)).trans h.yld

theorem bi_yield (hJ : Abd J) (hXZ : ∀ k, X k → Z k) (h : BI J X Z Rd w T L pg yb xb l q Xi Zi i W2 v j) (hf : Fit Xi Zi W2) (hb : Below W2.heap.size W2 w5) (hv2 : SpAt w5 v2) (hn2 : ∀ k, blks v2 k → W2.heap.size ≤ k) (ha1 : W2.heap.size ≤ ab) (ha2 : ab < w5.heap.size) {r : List Span} (hT : T = T.take j ++ v.s :: r) :
    Fit (Xo X Xi xb) (Z5 Z Zi yb xb ab v v2) w5 ∧ J (Xo X Xi xb) (Z5 Z Zi yb xb ab v v2) j w5 ∧ OkS T (Xo X Xi xb) (Z5 Z Zi yb xb ab v v2) j #[vS v] w5 := by
  have hff := h.fit hf hXZ
  have hz := hb.size
  have hfit : Fit (Xo X Xi xb) (Z5 Z Zi yb xb ab v v2) w5 := ⟨fun k hk => .inl (hff.sub k hk), fun k hk => by
    rcases hk with hk | rfl | hk
    · exact Nat.lt_of_lt_of_le (hff.lt k hk) hz
    · exact ha2
    · exact hv2.lt hk⟩
  refine ⟨hfit, hJ _ _ _ _ j W2 w5 h.inv (Turns.of_below hb) (fun k hk => .inl hk) (fun k hk => ?_) hfit.sub hfit.lt, v, (split_get hT).1, rfl, h.spa.below hb, fun k hk => ⟨.inl (.inr (.inr (.inr (.inl hk)))), fun e => ?_⟩⟩
  · rcases hk with hk | rfl | hk
    · exact .inl hk
    · exact .inr ha1
    · exact .inr (hn2 k hk)
  · obtain ⟨h1, h2, h3⟩ := h.bls k hk
    rcases e with e | e | e
    · exact h1 e
    · exact h2 e
    · exact h3 e

theorem bi_unlike (hJ : Abd J) (hXZ : ∀ k, X k → Z k) (hRZ : ∀ k, Rd k → Z k) (hxb : ¬ Z xb) (h : BI J X Z Rd w T L pg yb xb l q Xi Zi i W2 v j) (hyx : yb ≠ xb) (hf : Fit Xi Zi W2) (hb : Below W2.heap.size W2 w5) (hv2 : SpAt w5 v2) (hn2 : ∀ k, blks v2 k → W2.heap.size ≤ k) (ha1 : W2.heap.size ≤ ab) (ha2 : ab < w5.heap.size)
    (hj : i + jj + 1 = q) (hm : L[jj]? = some m) (hs2 : v2.s = mom m pg) (hl : lik (mom m pg) v.s = false) (t6 : Turns (fun k => ¬ Z5 Z Zi yb xb ab v v2 k) w5 W6) (hJ6 : J (Xo X Xi xb) (Z5 Z Zi yb xb ab v v2) (j + 1) W6) :
    Turns (fun k => ¬ Zi k) W2 (put6 W6 xb v2) ∧ BI J X Z Rd w T L pg yb xb l q Xi Zi (i + 1) (put6 W6 xb v2) v2 (j + 1) := by
  have sxb := h.box.lt
  have syb : yb < W2.heap.size := cell_lt' h.yld
  have hz := hb.size
  have hff := h.fit hf hXZ
  have tp := turns_put6 W6 xb v2
  have t5 : Turns (fun k => ¬ Zi k) W2 W6 := (Turns.of_below hb).trans (t6.weak fun k hk e => hk (.inl (.inr (.inr (.inr (.inr e))))))
  have t56 : Turns (fun k => k = xb ∨ ¬ Z5 Z Zi yb xb ab v v2 k) w5 (put6 W6 xb v2) := (t6.weak fun k hk => .inr hk).trans (tp.weak fun k hk => .inl hk)
  have hx6 : W6.heap[xb]? = some (.cells (cS v) 25 (0, 0)) := (t6.block xb (by omega) (fun e => e (.inl (.inr (.inr (.inl rfl)))))).trans ((hb.block xb sxb).trans h.box)
  have hne : ∀ k, blks v2 k → k ≠ xb := fun k hk e => by have := hn2 k hk; omega
  have hlst := h.lst
  rw [rest_next hj hm] at hlst
  unfold bk at hlst
  rw [hl, if_neg (by simp)] at hlst
  obtain ⟨s1, s2, s3, s4⟩ := split_get hlst
  refine ⟨t5.trans (tp.weak fun k hk e => h.nzb (hk ▸ e)), ?_, fun k hk => ?_, put6_box hx6 rfl v2, ?_, fun k hk => ⟨fun e => ?_, hne k hk, fun e => ?_⟩, ?_, ?_, ?_, h.nyb, h.nxb, h.nzb, h.nrd⟩
  · refine hJ _ _ _ _ (j + 1) W6 _ hJ6 (tp.weak fun k hk => .inr (.inl hk)) (fun k hk => .inl hk) (fun k hk => .inl ?_) (fun k hk => ?_) (fun k hk => ?_)
    · rcases hk with hk | hk | hk | hk | hk
      · exact .inl (.inl hk)
      · exact .inl (.inr (.inl hk))
      · exact .inl (.inr (.inr (.inl hk)))
      · exact .inr (.inr hk)
      · exact .inl (.inr (.inr (.inr (.inr hk))))
    · rcases hk with hk | hk | hk
      · exact .inl (hXZ k hk)
      · exact .inr (.inr (.inl hk))
      · exact .inr (.inr (.inr (.inr (hf.sub k hk))))
    · have z6 := t6.size
      have zp := tp.size
      rcases hk with hk | rfl | rfl | hk | hk
      · have := h.zlt k hk; omega
      · omega
      · omega
      · have := hv2.lt hk; omega
      · have := hf.lt k hk; omega
  · have z6 := t6.size
    have zp := tp.size
    have := h.zlt k hk
    omega
  · refine hv2.turns t56 (fun k hk e => ?_)
    rcases e with e | e
    · exact hne k hk e
    · exact e (.inr (.inr hk))
  · have := h.zlt k (hXZ k e)
    have := hn2 k hk
    omega
  · have := hf.lt k (hf.sub k e)
    have := hn2 k hk
    omega
  · rw [hs2]
    exact s3
  · refine (h.trn.trans (Turns.of_below hb)).trans (t56.weak fun k hk e => ?_)
    rcases hk with hk | hk
    · exact hxb (hk ▸ hRZ _ e)
    · exact hk (.inl (.inl (hRZ _ e)))
  · refine (World.cell?_of_block (a := ⟨yb, 0, none⟩) (t56.block yb (by omega) (fun e => ?_))).trans ((World.cell?_of_block (a := ⟨yb, 0, none⟩) (hb.block yb syb)).trans h.yld)
    rcases e with e | e
    · exact hyx e
    · exact e (.inl (.inr (.inl rfl)))

theorem bx_stop (hJx : Abd Jx) (hXZ : ∀ k, X k → Z k) (h : BI J X Z Rd w T L pg yb xb l q Xi Zi i W2 v j) (hf : Fit Xi Zi W2) (hb : Below W2.heap.size W2 w5) (hj1 : j + 1 ≤ T.length) {ZZ : Nat → Prop} (hZZ : ∀ k, Z k ∨ Zi k → ZZ k) (t6 : Turns (fun k => ¬ ZZ k) w5 W6) (hJ6 : Jx (Xo X Xi xb) ZZ (j + 1) W6) :
    Turns (fun k => ¬ Zi k) W2 W6 ∧ BX Jx X Z T .ret Xi Zi (i + 1) W6 := by
  have hz := hb.size
  have z6 := t6.size
  refine ⟨(Turns.of_below hb).trans (t6.weak fun k hk e => hk (hZZ k (.inr e))), rfl, j + 1, hj1, hJx _ _ _ _ (j + 1) W6 W6 hJ6 (Turns.refl _ _) (fun k hk => ?_) (fun k hk => .inl (hZZ k hk)) (fun k hk => ?_) (fun k hk => ?_), fun k hk => ?_⟩
  · rcases hk with hk | hk
    · exact .inl (.inl hk)
    · exact .inl (.inr (.inr hk))
  · rcases hk with hk | hk
    · exact .inl (hXZ k hk)
    · exact .inr (hf.sub k hk)
  · rcases hk with hk | hk
    · have := h.zlt k hk; omega
    · have := hf.lt k hk; omega
  · have := h.zlt k hk
    omega

end

end Go.Proofs.Ythlfmbijagpggaa.Iv
