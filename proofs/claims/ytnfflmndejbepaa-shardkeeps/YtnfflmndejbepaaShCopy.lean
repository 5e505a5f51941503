/-
  A shard copied: copiedShard.
  Conditions: the shard lies in memory.
-/
import Derived.Test.YtnfflmndejbepaaShOwn
import Derived.Test.YtnfflmndejbepaaShSame
import Derived.Test.YtnfflmndejbepaaJMxOrders
import Derived.Deep.Cut
namespace Go.Proofs.Ytnfflmndejbepaa.Sh
set_option linter.unusedSectionVars false
variable [Inhabited DZ]
open Go.RowKit By Fl
set_option linter.unusedVariables false
set_option linter.unusedSimpArgs false
set_option maxRecDepth 100000

theorem set_same' {α : Type} {l : List α} {i : Nat} {v : α} (h : l[i]? = some v) : l.set i v = l := by
  apply List.ext_getElem?
  intro j
  rw [List.getElem?_set]
  split
  · rename_i e
    subst e
    rw [h]
    have := (List.getElem?_eq_some_iff.1 h).1
    simp [this]
  · rfl

theorem flat_setI : ∀ (L : List IV) (i : Nat) (a : IV), flat enI (L.set i a) = ((((flat enI L).set (i * 4) (.string a.nm)).set (i * 4 + 1) (.int .i64 a.ch.sz)).set (i * 4 + 2) (.slice a.ch.x a.ch.n a.ch.c)).set (i * 4 + 3) (.int .u32 a.ch.sum)
  | [], i, a => by simp [flat]
  | b :: L, 0, a => by simp [flat_cons, enI]
  | b :: L, i + 1, a => by
    rw [List.set_cons_succ, flat_cons, flat_cons, flat_setI L i a, show (i + 1) * 4 = i * 4 + 1 + 1 + 1 + 1 by omega]
    simp [List.set_cons_succ, enI]

theorem flat_setU : ∀ (L : List UV) (i : Nat) (a : UV), flat enU (L.set i a) = ((((((flat enU L).set (i * 6) (.int .i64 a.seq)).set (i * 6 + 1) (.string a.nm)).set (i * 6 + 2) (.bool a.has)).set (i * 6 + 3) (.int .i64 a.was.sz)).set (i * 6 + 4) (.slice a.was.x a.was.n a.was.c)).set (i * 6 + 5) (.int .u32 a.was.sum)
  | [], i, a => by simp [flat]
  | b :: L, 0, a => by simp [flat_cons, enU]
  | b :: L, i + 1, a => by
    rw [List.set_cons_succ, flat_cons, flat_cons, flat_setU L i a, show (i + 1) * 6 = i * 6 + 1 + 1 + 1 + 1 + 1 + 1 by omega]
    simp [List.set_cons_succ, enU]

theorem turns_put {a : Nat} {w w' : World} (t : Turns (fun k => k = a) w w') (j : Nat) (v : Value) : Turns (fun k => k = a) w (w'.setCell ⟨a, j, none⟩ v) := t.setCell (p := ⟨a, j, none⟩) (.inl rfl) v

def put3 (w : World) (g o : Nat) (c : CV) : World := ((w.setCell ⟨g, o, none⟩ (.int .i64 c.sz)).setCell ⟨g, o + 1, none⟩ (.slice c.x c.n c.c)).setCell ⟨g, o + 2, none⟩ (.int .u32 c.sum)
theorem turns_put3 (w : World) (g o : Nat) (c : CV) : Turns (fun k => k = g) w (put3 w g o c) :=
  turns_put (turns_put (turns_put (Turns.refl _ w) _ _) _ _) _ _

theorem Own.setC {w : World} {B g n c k : Nat} {L : List IV} {a : IV} (h : Own w B 79 4 enI (.slice (some ⟨g, 0, none⟩) n c) L) (hk : L[k]? = some a) (ch : CV) : Own (put3 w g (k * 4 + 1) ch) B 79 4 enI (.slice (some ⟨g, 0, none⟩) n c) (L.set k ⟨a.nm, ch⟩) := by
  have hL := h.heap.1
  have h0 := flat_get (enc := enI) (sz := 4) (fun _ => rfl) L k a hk 0 (by omega)
  rw [Nat.add_zero] at h0
  unfold Own at h ⊢
  rw [List.length_set, flat_setI, set_same' (v := Value.string a.nm) h0]
  rw [hL] at h ⊢
  exact own_setCell (own_setCell (own_setCell h _ _) _ _) _ _

theorem Own.setW {w : World} {B g n c k : Nat} {L : List UV} {a : UV} (h : Own w B 89 6 enU (.slice (some ⟨g, 0, none⟩) n c) L) (hk : L[k]? = some a) (ch : CV) : Own (put3 w g (k * 6 + 3) ch) B 89 6 enU (.slice (some ⟨g, 0, none⟩) n c) (L.set k ⟨a.seq, a.nm, a.has, ch⟩) := by
  have hL := h.heap.1
  have h0 := flat_get (enc := enU) (sz := 6) (fun _ => rfl) L k a hk 0 (by omega)
  have h1 := flat_get (enc := enU) (sz := 6) (fun _ => rfl) L k a hk 1 (by omega)
  have h2 := flat_get (enc := enU) (sz := 6) (fun _ => rfl) L k a hk 2 (by omega)
  rw [Nat.add_zero] at h0
  unfold Own at h ⊢
  rw [List.length_set, flat_setU, set_same' (v := Value.int .i64 a.seq) h0, set_same' (v := Value.string a.nm) h1, set_same' (v := Value.bool a.has) h2]
  rw [hL] at h ⊢
  exact own_setCell (own_setCell (own_setCell h _ _) _ _) _ _

/- A copy that is under way: its items' chunks copied as far as k, its Undos' as far as m. -/
structure CpSt (w wr : World) (v : SV) (y1 : Option Addr) (c1 : Nat) (y2 : Option Addr) (c2 : Nat) (y3 : Option Addr) (c3 : Nat) (L : List IV) (M : List UV) (k m : Nat) : Prop where
  bel : Below w.heap.size w wr
  lt : w.heap.size + 2 ≤ wr.heap.size
  box : wr.heap[w.heap.size]? = some (.cells #[.int .i64 v.pl, .int .i64 v.si, .slice y1 v.n1 c1, .slice y2 v.n2 c2, .slice y3 v.n3 c3] 26 (0, 0))
  res : wr.heap[w.heap.size + 1]? = some (.cells #[.int .i64 0, .int .i64 0, .slice none 0 0, .slice none 0 0, .slice none 0 0] 26 (0, 0))
  oi : Own wr 0 79 4 enI (.slice y1 v.n1 c1) L
  oe : Own wr 0 67 7 enE (.slice y2 v.n2 c2) v.E
  ou : Own wr 0 89 6 enU (.slice y3 v.n3 c3) M
  gi : ∀ g, (Value.slice y1 v.n1 c1).ownBlock = some g → New w wr g
  ge : ∀ g, (Value.slice y2 v.n2 c2).ownBlock = some g → New w wr g
  gu : ∀ g, (Value.slice y3 v.n3 c3).ownBlock = some g → New w wr g
  mi : L.map pI = v.I.map pI
  mu : M.map pU = v.U.map pU
  di : ∀ i a, i < k → L[i]? = some a → IAt wr (Nb (New w wr) wr) a
  du : ∀ i a, i < m → M[i]? = some a → UAt wr (Nb (New w wr) wr) a
  ri : ∀ i, k ≤ i → L[i]? = v.I[i]?
  ru : ∀ i, m ≤ i → M[i]? = v.U[i]?

theorem New.mono {w a b : World} (h : a.heap.size ≤ b.heap.size) {k : Nat} (hk : New w a k) : New w b k := ⟨hk.1, Nat.lt_of_lt_of_le hk.2 h⟩

section
variable {w wr wz : World} {v : SV} {y1 y2 y3 : Option Addr} {c1 c2 c3 k m : Nat} {L : List IV} {M : List UV}

/- What turns one of its lists alone turns none of its bytes. -/
theorem nb_keeps {G : Nat → Prop} (hs : wr.heap.size ≤ wz.heap.size) (t : Keeps (Nb (New w wr) wr) wr wz) : ∀ b, Nb (New w wr) wr b → Nb (New w wz) wz b := fun b hb => ⟨hb.1.mono hs, hb.2.of_heap (t.block b hb hb.2.lt)⟩

theorem CpSt.below (h : CpSt w wr v y1 c1 y2 c2 y3 c3 L M k m) (b : Below wr.heap.size wr wz) : CpSt w wz v y1 c1 y2 c2 y3 c3 L M k m := by
  have hs := b.size
  have kb : Keeps (Nb (New w wr) wr) wr wz := .below b
  have hl := h.lt
  exact ⟨on h.bel b, by omega, (b.block _ (by omega)).trans h.box, (b.block _ (by omega)).trans h.res, h.oi.below b, h.oe.below b, h.ou.below b, fun g hg => (h.gi g hg).mono hs, fun g hg => (h.ge g hg).mono hs, fun g hg => (h.gu g hg).mono hs, h.mi, h.mu,
    fun i a hi ha => ((h.di i a hi ha).keeps kb).weak (nb_keeps (G := fun _ => True) hs kb), fun i a hi ha => ((h.du i a hi ha).keeps kb).weak (nb_keeps (G := fun _ => True) hs kb), h.ri, h.ru⟩

theorem own_ne {α β : Type} {w : World} {B B' : Nat} {e e' : TypeId} {sz sz' : Nat} {en : α → List Value} {en' : β → List Value} {R R' : Value} {L : List α} {K : List β} (h : Own w B e sz en R L) (h' : Own w B' e' sz' en' R' K) (ne : e ≠ e') {g g' : Nat} (hg : R.ownBlock = some g) (hg' : R'.ownBlock = some g') : g ≠ g' := fun q => by
  subst q
  exact ne ((h.tb hg).2.same (h'.tb hg').2)

theorem own_nb {α : Type} {w : World} {B : Nat} {e : TypeId} {sz : Nat} {en : α → List Value} {R : Value} {L : List α} (h : Own w B e sz en R L) (ne : e ≠ 5) {g : Nat} (hg : R.ownBlock = some g) {G : Nat → Prop} {b : Nat} (hb : Nb G w b) : b ≠ g := fun q => by
  subst q
  exact ne ((h.tb hg).2.same hb.2)

theorem box_ne {α : Type} {w : World} {B : Nat} {e : TypeId} {sz : Nat} {en : α → List Value} {R : Value} {L : List α} (h : Own w B e sz en R L) {p : Nat} {cs : Array Value} {t : TypeId} (hp : w.heap[p]? = some (.cells cs t (0, 0))) (ne : e ≠ t) {g : Nat} (hg : R.ownBlock = some g) : p ≠ g := fun q => by
  subst q
  exact ne ((h.tb hg).2.same ⟨_, _, hp⟩)

/- An item's chunk is copied. -/
theorem CpSt.setI {g : Nat} {a : IV} {ch : CV} (h : CpSt w wr v (some ⟨g, 0, none⟩) c1 y2 c2 y3 c3 L M k m) (hk : L[k]? = some a) (hc : CAt wr (Nb (New w wr) wr) ch) (hn : a.nm.size ≤ 1048576) (he : pC ch = pC a.ch) :
    CpSt w (put3 wr g (k * 4 + 1) ch) v (some ⟨g, 0, none⟩) c1 y2 c2 y3 c3 (L.set k ⟨a.nm, ch⟩) M (k + 1) m := by
  have t := turns_put3 wr g (k * 4 + 1) ch
  have hs := t.size
  have gg : (Value.slice (some ⟨g, 0, none⟩) v.n1 c1).ownBlock = some g := rfl
  have kb : Keeps (Nb (New w wr) wr) wr (put3 wr g (k * 4 + 1) ch) := .turns t fun b hb => own_nb h.oi (by decide) gg hb
  have hg := h.gi g gg
  have hb1 := box_ne h.oi h.box (by decide) gg
  have hb2 := box_ne h.oi h.res (by decide) gg
  have hlt := h.lt
  refine ⟨h.bel.trans (t.below (fun q hq => by rw [hq]; exact hg.1) h.bel.size), by omega, (t.block _ (by omega) hb1).trans h.box, (t.block _ (by omega) hb2).trans h.res, Own.setC h.oi hk ch, h.oe.turns t (fun q hq e => (own_ne h.oi h.oe (by decide) gg hq) e.symm), h.ou.turns t (fun q hq e => (own_ne h.oi h.ou (by decide) gg hq) e.symm),
    fun q hq => (h.gi q hq).mono hs, fun q hq => (h.ge q hq).mono hs, fun q hq => (h.gu q hq).mono hs, ?_, h.mu, fun i x hi hx => ?_, fun i x hi hx => ((h.du i x hi hx).keeps kb).weak (nb_keeps (G := fun _ => True) hs kb), fun i hi => ?_, h.ru⟩
  · rw [← h.mi, List.map_set]
    have e2 : pI ⟨a.nm, ch⟩ = pI a := by unfold pI; rw [he]
    rw [e2]
    exact set_same' (by simp [hk])
  · by_cases e : i = k
    · subst e
      have hil : i < L.length := (List.getElem?_eq_some_iff.1 hk).1
      rw [List.getElem?_set, if_pos rfl, if_pos hil] at hx
      injection hx with hx
      subst hx
      exact ⟨hn, (SlF.keeps hc kb).weak (nb_keeps (G := fun _ => True) hs kb)⟩
    · rw [List.getElem?_set, if_neg (Ne.symm e)] at hx
      exact ((h.di i x (by omega) hx).keeps kb).weak (nb_keeps (G := fun _ => True) hs kb)
  · rw [List.getElem?_set, if_neg (by omega)]
    exact h.ri i (by omega)

/- An Undo's. -/
theorem CpSt.setU {g : Nat} {a : UV} {ch : CV} (h : CpSt w wr v y1 c1 y2 c2 (some ⟨g, 0, none⟩) c3 L M k m) (hk : M[m]? = some a) (hc : CAt wr (Nb (New w wr) wr) ch) (hn : a.nm.size ≤ 1048576) (he : pC ch = pC a.was) :
    CpSt w (put3 wr g (m * 6 + 3) ch) v y1 c1 y2 c2 (some ⟨g, 0, none⟩) c3 L (M.set m ⟨a.seq, a.nm, a.has, ch⟩) k (m + 1) := by
  have t := turns_put3 wr g (m * 6 + 3) ch
  have hs := t.size
  have gg : (Value.slice (some ⟨g, 0, none⟩) v.n3 c3).ownBlock = some g := rfl
  have kb : Keeps (Nb (New w wr) wr) wr (put3 wr g (m * 6 + 3) ch) := .turns t fun b hb => own_nb h.ou (by decide) gg hb
  have hg := h.gu g gg
  have hb1 := box_ne h.ou h.box (by decide) gg
  have hb2 := box_ne h.ou h.res (by decide) gg
  have hlt := h.lt
  refine ⟨h.bel.trans (t.below (fun q hq => by rw [hq]; exact hg.1) h.bel.size), by omega, (t.block _ (by omega) hb1).trans h.box, (t.block _ (by omega) hb2).trans h.res, h.oi.turns t (fun q hq e => (own_ne h.ou h.oi (by decide) gg hq) e.symm), h.oe.turns t (fun q hq e => (own_ne h.ou h.oe (by decide) gg hq) e.symm), Own.setW h.ou hk ch,
    fun q hq => (h.gi q hq).mono hs, fun q hq => (h.ge q hq).mono hs, fun q hq => (h.gu q hq).mono hs, h.mi, ?_, fun i x hi hx => ((h.di i x hi hx).keeps kb).weak (nb_keeps (G := fun _ => True) hs kb), fun i x hi hx => ?_, h.ri, fun i hi => ?_⟩
  · rw [← h.mu, List.map_set]
    have e2 : pU ⟨a.seq, a.nm, a.has, ch⟩ = pU a := by unfold pU; rw [he]
    rw [e2]
    exact set_same' (by simp [hk])
  · by_cases e : i = m
    · subst e
      have hil : i < M.length := (List.getElem?_eq_some_iff.1 hk).1
      rw [List.getElem?_set, if_pos rfl, if_pos hil] at hx
      injection hx with hx
      subst hx
      exact ⟨hn, (SlF.keeps hc kb).weak (nb_keeps (G := fun _ => True) hs kb)⟩
    · rw [List.getElem?_set, if_neg (Ne.symm e)] at hx
      exact ((h.du i x (by omega) hx).keeps kb).weak (nb_keeps (G := fun _ => True) hs kb)
  · rw [List.getElem?_set, if_neg (by omega)]
    exact h.ru i (by omega)

/- All copied. -/
theorem CpSt.done (h : CpSt w wr v y1 c1 y2 c2 y3 c3 L M v.n1 v.n3) {F : Nat → Prop} (hv : SAt w F v) : OwS wr (New w wr) ⟨v.pl, v.si, y1, v.n1, c1, L, y2, v.n2, c2, v.E, y3, v.n3, c3, M⟩ ∧ pS ⟨v.pl, v.si, y1, v.n1, c1, L, y2, v.n2, c2, v.E, y3, v.n3, c3, M⟩ = pS v := by
  have h1 := congrArg List.length h.mi
  have h2 := congrArg List.length h.mu
  simp only [List.length_map] at h1 h2
  have l1 := hv.i.len
  have l3 := hv.u.len
  have s1 := hv.i.small
  have s2 := hv.e.small
  have s3 := hv.u.small
  have l2 := hv.e.len
  refine ⟨⟨h.oi, h.oe, h.ou, h.gi, h.ge, h.gu, fun a ha => ?_, fun a ha => hv.e.each a ha, fun a ha => ?_, by show L.length ≤ _; omega, by show v.E.length ≤ _; omega, by show M.length ≤ _; omega⟩, ?_⟩
  · obtain ⟨i, hi⟩ := List.mem_iff_getElem?.1 ha
    exact h.di i a (by have : i < L.length := (List.getElem?_eq_some_iff.1 hi).1; omega) hi
  · obtain ⟨i, hi⟩ := List.mem_iff_getElem?.1 ha
    exact h.du i a (by have : i < M.length := (List.getElem?_eq_some_iff.1 hi).1; omega) hi
  · unfold pS
    rw [h.mi, h.mu]
end

def zBox : Array Value := #[.int .i64 0, .int .i64 0, .slice none 0 0, .slice none 0 0, .slice none 0 0]

/- Three copies of lists, laid one behind the other, and told to the box. -/
theorem CpSt.start {w w1 wa wb wc : World} {F : Nat → Prop} {v : SV} {y1 y2 y3 : Option Addr} {c1 c2 c3 : Nat} (hv : SAt w F v) (h1 : Below w.heap.size w w1) (hl : w1.heap.size = w.heap.size + 2) (hbox : w1.heap[w.heap.size]? = some (.cells (SCells v) 26 (0, 0))) (hres : w1.heap[w.heap.size + 1]? = some (.cells zBox 26 (0, 0)))
    (ha : Cloned w1 79 4 enI y1 v.n1 c1 v.I wa) (hb : Cloned wa 67 7 enE y2 v.n2 c2 v.E wb) (hc : Cloned wb 89 6 enU y3 v.n3 c3 v.U wc) :
    CpSt w (((wc.setCell ⟨w.heap.size, 2, none⟩ (.slice y1 v.n1 c1)).setCell ⟨w.heap.size, 3, none⟩ (.slice y2 v.n2 c2)).setCell ⟨w.heap.size, 4, none⟩ (.slice y3 v.n3 c3)) v y1 c1 y2 c2 y3 c3 v.I v.U 0 0 := by
  have sa := ha.2.1.size
  have sb := hb.2.1.size
  have sc := hc.2.1.size
  have t : Turns (fun k => k = w.heap.size) wc (((wc.setCell ⟨w.heap.size, 2, none⟩ (.slice y1 v.n1 c1)).setCell ⟨w.heap.size, 3, none⟩ (.slice y2 v.n2 c2)).setCell ⟨w.heap.size, 4, none⟩ (.slice y3 v.n3 c3)) :=
    turns_put (turns_put (turns_put (Turns.refl _ wc) _ _) _ _) _ _
  have hsz : wc.heap.size = (((wc.setCell ⟨w.heap.size, 2, none⟩ (.slice y1 v.n1 c1)).setCell ⟨w.heap.size, 3, none⟩ (.slice y2 v.n2 c2)).setCell ⟨w.heap.size, 4, none⟩ (.slice y3 v.n3 c3)).heap.size := by simp [World.setCell]
  have bc : Below w1.heap.size w1 wc := on (on ha.2.1 hb.2.1) hc.2.1
  have hbx : wc.heap[w.heap.size]? = some (.cells (SCells v) 26 (0, 0)) := (bc.block _ (by omega)).trans hbox
  have oi : Own wc 0 79 4 enI (.slice y1 v.n1 c1) v.I := (ha.1.below hb.2.1).below hc.2.1
  have oe : Own wc 0 67 7 enE (.slice y2 v.n2 c2) v.E := hb.1.below hc.2.1
  have ni : ∀ g, (Value.slice y1 v.n1 c1).ownBlock = some g → w1.heap.size ≤ g ∧ g < wc.heap.size := fun g hg => ⟨(ha.2.2 g hg).1, by have := (ha.2.2 g hg).2; omega⟩
  have ne : ∀ g, (Value.slice y2 v.n2 c2).ownBlock = some g → w1.heap.size ≤ g ∧ g < wc.heap.size := fun g hg => ⟨by have := (hb.2.2 g hg).1; omega, by have := (hb.2.2 g hg).2; omega⟩
  have nu : ∀ g, (Value.slice y3 v.n3 c3).ownBlock = some g → w1.heap.size ≤ g ∧ g < wc.heap.size := fun g hg => ⟨by have := (hc.2.2 g hg).1; omega, (hc.2.2 g hg).2⟩
  refine ⟨(on h1 bc).trans (t.below (fun q hq => by rw [hq]; exact Nat.le_refl _) (by omega)), by omega, ?_, ?_, oi.turns t (fun g hg e => by have := ni g hg; omega), oe.turns t (fun g hg e => by have := ne g hg; omega), hc.1.turns t (fun g hg e => by have := nu g hg; omega),
    fun g hg => ⟨by have := ni g hg; omega, by have := ni g hg; omega⟩, fun g hg => ⟨by have := ne g hg; omega, by have := ne g hg; omega⟩, fun g hg => ⟨by have := nu g hg; omega, by have := nu g hg; omega⟩, rfl, rfl, fun i a hi => by omega, fun i a hi => by omega, fun _ _ => rfl, fun _ _ => rfl⟩
  · have := heap_set (heap_set (heap_set hbx (j := 2) (.slice y1 v.n1 c1)) (j := 3) (.slice y2 v.n2 c2)) (j := 4) (.slice y3 v.n3 c3)
    rw [this]
    simp [SCells]
  · exact (t.block _ (by omega) (by omega)).trans ((bc.block _ (by omega)).trans hres)

set_option maxHeartbeats 6400000 in
theorem copiedShard_any {w : World} {F : Nat → Prop} {v : SV} (h : SAt w F v) : Calls Try.prog 39 #[vS v] w fun e w' => ∃ v', e = .returned (vS v') ∧ Hid (OwS w' (New w w') v' ∧ pS v' = pS v ∧ Below w.heap.size w w') := by
  obtain ⟨w1, hw1⟩ : ∃ w1, w1 = (w.alloc (.cells (SCells v) 26)).alloc (.cells zBox 26) := ⟨_, rfl⟩
  have bb : Below w.heap.size w w1 := by rw [hw1]; exact on (al _ _) (al _ _)
  have hsz : w1.heap.size = w.heap.size + 2 := by rw [hw1]; simp
  have g0 : w1.heap[w.heap.size]? = some (.cells (SCells v) 26 (0, 0)) := by
    rw [hw1]
    exact ((al (w.alloc (.cells (SCells v) 26)) _).block w.heap.size (by simp)).trans (heap_alloc_new w _)
  have g1 : w1.heap[w.heap.size + 1]? = some (.cells zBox 26 (0, 0)) := by
    rw [hw1]
    have := heap_alloc_new (w.alloc (.cells (SCells v) 26)) (.cells zBox 26)
    simpa using this
  have HB := hid bb
  have HSz := hid hsz
  have HG0 := hid g0
  have HV := hid h
  have HSt := hid (fun (wD wa wb wc : World) (y1 y2 y3 : Option Addr) (c1 c2 c3 : Nat) (hD : wD.heap = w1.heap) (bD : Below w1.heap.size w1 wD) ha hb hc => CpSt.start (w1 := wD) (wa := wa) (wb := wb) (wc := wc) (y1 := y1) (y2 := y2) (y3 := y3) (c1 := c1) (c2 := c2) (c3 := c3) h (on bb bD) (by rw [hD]; exact hsz) (by rw [hD]; exact g0) (by rw [hD]; exact g1) ha hb hc)
  have HC1 := hid (fun W (hW : Below w1.heap.size w1 W) => cloneI_any (Is.below h.i (on bb hW)))
  have HC2 := hid (fun W (hW : Below w1.heap.size w1 W) => cloneE_any (Es.below h.e (on bb hW)))
  have HC3 := hid (fun W (hW : Below w1.heap.size w1 W) => cloneU_any (Us.below h.u (on bb hW)))
  have sm1 := h.i.small
  have sm3 := h.u.small
  have HLen : Hid (v.I.length = v.n1 ∧ v.U.length = v.n3) := ⟨h.i.len, h.u.len⟩
  clear h bb hsz g0 g1
  obtain ⟨pl, si, x1, n1, c1, I, x2, n2, c2, E, x3, n3, c3, U⟩ := v
  unfold SCells zBox at hw1
  unfold vS
  dsimp only at *
  have k0 : w1.cell? ⟨w.heap.size, 2, none⟩ = some (.slice x1 n1 c1) := by rw [hw1]; go_simp
  have k1 : w1.cell? ⟨w.heap.size, 3, none⟩ = some (.slice x2 n2 c2) := by rw [hw1]; go_simp
  have k2 : w1.cell? ⟨w.heap.size, 4, none⟩ = some (.slice x3 n3 c3) := by rw [hw1]; go_simp
  have HK := hid (And.intro k0 (And.intro k1 k2))
  have HW := hid hw1
  clear k0 k1 k2 hw1
  go_enter Try.func39, Try.ntmps39
  go_upto_region 1 with (fail)
  rw [← HW.out]
  refine wp_region_tail (fun v => v.cell? ⟨w.heap.size, 2, none⟩ = some (.slice x1 n1 c1) ∧ v.cell? ⟨w.heap.size, 3, none⟩ = some (.slice x2 n2 c2) ∧ v.cell? ⟨w.heap.size, 4, none⟩ = some (.slice x3 n3 c3)) [10, 11, 12, 13, 14] (by kernel_rfl) HK.out (fun hS => ?_)
  have bD : Below w1.heap.size w1 w1.drew := (Below.refl _ _).drew
  have hD : w1.drew.heap = w1.heap := rfl
  generalize w1.drew = wD at *
  refine By.tk 0 ?_
  refine By.tk 1 ?_
  refine By.tk 3 ?_
  refine By.tk 4 ?_
  refine By.tk 6 ?_
  refine By.tk 7 ?_
  refine wpAnyT_one (i := 2) (by kernel_rfl) rfl (fun K hK => ?_)
  go_simp
  refine (HC1.out wD bD).mono ?_
  rintro e wa ⟨y1, d1, rfl, H1⟩
  have bA := H1.out.2.1
  have SA := (⟨keep bA hS.1, keep bA hS.2.1, keep bA hS.2.2⟩ : _ ∧ _ ∧ _)
  refine hK.out _ _ (fun _ => SA) ?_
  clear hK K
  refine By.tk 9 ?_
  refine wpAnyT_one (i := 5) (by kernel_rfl) rfl (fun K hK => ?_)
  go_simp
  refine (HC2.out wa (on bD bA)).mono ?_
  rintro e wb ⟨y2, d2, rfl, H2⟩
  have bB := H2.out.2.1
  have SB := (⟨keep bB SA.1, keep bB SA.2.1, keep bB SA.2.2⟩ : _ ∧ _ ∧ _)
  refine hK.out _ _ (fun _ => SB) ?_
  clear hK K
  refine wpAnyT_one (i := 8) (by kernel_rfl) rfl (fun K hK => ?_)
  go_simp
  refine (HC3.out wb (on (on bD bA) bB)).mono ?_
  rintro e wc ⟨y3, d3, rfl, H3⟩
  have bC := H3.out.2.1
  have SC := (⟨keep bC SB.1, keep bC SB.2.1, keep bC SB.2.2⟩ : _ ∧ _ ∧ _)
  refine hK.out _ _ (fun _ => SC) ?_
  clear hK K
  have HS := hid (HSt.out wD wa wb wc y1 y2 y3 d1 d2 d3 hD bD H1.out H2.out H3.out)
  have q2 := SC.1
  have q3 := SC.2.1
  have q4 := SC.2.2
  have HBC := hid (on (on bD bA) (on bB bC))
  obtain ⟨pb, hpb⟩ : ∃ pb, wc.heap[w.heap.size]? = some (.cells pb 26 (0, 0)) := ⟨_, ((HBC.out.block w.heap.size (by have := HSz.out; omega)).trans HG0.out)⟩
  have f2 := fr_heap hpb 2
  have f3 := fr_heap hpb 3
  have f4 := fr_heap hpb 4
  clear SA SB SC hS hD H1 H2 H3 HSt HC1 HC2 HC3 bA bB bC bD hpb
  refine wpAnyT_one (i := 10) (by kernel_rfl) rfl (fun K hK => ?_)
  go_simp
  refine hK.out _ _ (fun h => absurd (by decide) h) ?_
  clear hK K
  refine wpAnyT_one (i := 11) (by kernel_rfl) rfl (fun K hK => ?_)
  go_simp
  refine hK.out _ _ (fun h => absurd (by decide) h) ?_
  clear hK K
  refine wpAnyT_one (i := 12) (by kernel_rfl) rfl (fun K hK => ?_)
  go_simp
  refine hK.out _ _ (fun h => absurd (by decide) h) ?_
  clear hK K
  refine wpAnyT_one (i := 13) (by kernel_rfl) rfl (fun K hK => ?_)
  go_simp
  refine hK.out _ _ (fun h => absurd (by decide) h) ?_
  clear hK K
  refine wpAnyT_one (i := 14) (by kernel_rfl) rfl (fun K hK => ?_)
  go_simp
  refine hK.out _ _ (fun h => absurd (by decide) h) ?_
  clear hK K
  refine wpAnyT_done (by kernel_rfl) ?_ _
  obtain ⟨wS, hwS⟩ : ∃ wS, wS = ((wc.setCell ⟨w.heap.size, 2, none⟩ (.slice y1 n1 d1)).setCell ⟨w.heap.size, 3, none⟩ (.slice y2 n2 d2)).setCell ⟨w.heap.size, 4, none⟩ (.slice y3 n3 d3) := ⟨_, rfl⟩
  (try dsimp only at HS)
  rw [← hwS] at HS ⊢
  clear q2 q3 q4 f2 f3 f4 hwS HBC
  have z2 : wS.cell? ⟨w.heap.size, 2, none⟩ = some (.slice y1 n1 d1) := cell_heap HS.out.box rfl
  go_wp2_with fail
  go_loopw [22] (fun i wr => ∃ k : Nat, k ≤ n1 ∧ i = .int .i64 k ∧ Hid (∃ L, CpSt w wr ⟨pl, si, x1, n1, c1, I, x2, n2, c2, E, x3, n3, c3, U⟩ y1 d1 y2 d2 y3 d3 L U k 0)) (fun i _ => n1 - (intOf i).toNat)
  case atStart => exact ⟨0, by omega, rfl, _, HS.out⟩
  case round =>
    clear HS z2
    obtain ⟨k, hk, rfl, HR⟩ := hrel
    by_cases hlt : k < n1
    · have hkn : (k : Int) < (n1 : Int) := by omega
      obtain ⟨L, st⟩ := HR.out
      have hLl : L.length = n1 := by have := congrArg List.length st.mi; simp only [List.length_map] at this; have := HLen.out.1; omega
      have hne : L ≠ [] := fun e => by rw [e] at hLl; simp at hLl; omega
      obtain ⟨g, c', hR, hle, hcm, _, hgl⟩ := st.oi.there hne
      injection hR with e1 e2 e3
      subst e1 e3
      obtain ⟨a, ha⟩ : ∃ a, I[k]? = some a := ⟨I[k]'(by have := HLen.out.1; omega), List.getElem?_eq_getElem _⟩
      have hLk : L[k]? = some a := (st.ri k (Nat.le_refl _)).trans ha
      have A1 := hid (HV.out.i.each a (List.mem_of_getElem? ha))
      have k0 := st.oi.cell irow.len hLk (j := 0) (v := .string a.nm) rfl
      rw [Nat.add_zero] at k0
      have k1 := st.oi.cell irow.len hLk (j := 1) (v := .int .i64 a.ch.sz) rfl
      have k2 := st.oi.cell irow.len hLk (j := 2) (v := .slice a.ch.x a.ch.n a.ch.c) rfl
      have k3 := st.oi.cell irow.len hLk (j := 3) (v := .int .u32 a.ch.sum) rfl
      have bx := cell_heap st.box (j := 2) rfl
      (try dsimp only at bx)
      obtain ⟨w2, hw2⟩ : ∃ w2, w2 = wr.alloc (.cells #[.string a.nm, .int .i64 a.ch.sz, .slice a.ch.x a.ch.n a.ch.c, .int .u32 a.ch.sum] 79) := ⟨_, rfl⟩
      have b2 : Below wr.heap.size wr w2 := by rw [hw2]; exact al _ _
      have ST := hid st
      have HL := hid hLk
      have HB2 := hid b2
      have hC := fun W (hW : Below wr.heap.size wr W) => copiedChunk_any (w := W) (CAt.below (w := w) A1.out.2 (on st.bel hW))
      obtain ⟨nm, sz, x, m, cc, dat, sum⟩ := a
      have HK := hid (⟨keep b2 bx, by rw [hw2]; go_simp, by rw [hw2]; go_simp, by rw [hw2]; go_simp⟩ : w2.cell? ⟨w.heap.size, 2, none⟩ = some (.slice (some ⟨g, 0, none⟩) n1 d1) ∧ w2.cell? ⟨wr.heap.size, 1, none⟩ = some (.int .i64 sz) ∧ w2.cell? ⟨wr.heap.size, 2, none⟩ = some (.slice x m cc) ∧ w2.cell? ⟨wr.heap.size, 3, none⟩ = some (.int .u32 sum))
      unfold vC at hC
      dsimp only at k0 k1 k2 k3 hw2 hC
      have HW2 := hid hw2
      have HC := hid hC
      clear st bx b2 hw2 ha hLk hne hcm hgl hle HR hC
      go_wp2_with fail
      rw [← HW2.out]
      clear k0 k1 k2 k3
      refine wp_region_tail (fun v => v.cell? ⟨w.heap.size, 2, none⟩ = some (.slice (some ⟨g, 0, none⟩) n1 d1) ∧ v.cell? ⟨wr.heap.size, 1, none⟩ = some (.int .i64 sz) ∧ v.cell? ⟨wr.heap.size, 2, none⟩ = some (.slice x m cc) ∧ v.cell? ⟨wr.heap.size, 3, none⟩ = some (.int .u32 sum)) [6, 7, 8] (by kernel_rfl) HK.out (fun hS => ?_)
      have bD : Below wr.heap.size wr w2.drew := on HB2.out (Below.refl _ _).drew
      generalize w2.drew = wD at *
      refine By.tk 0 ?_
      refine By.tk 1 ?_
      refine By.tk 2 ?_
      refine By.tk 3 ?_
      refine By.tk 4 ?_
      refine wpAnyT_one (i := 5) (by kernel_rfl) rfl (fun K hK => ?_)
      go_simp
      refine (HC.out wD bD).mono ?_
      rintro e w3 ⟨y, cy, rfl, H3⟩
      have b3 := H3.out.2
      have S3 := (⟨keep b3 hS.1, keep b3 hS.2.1, keep b3 hS.2.2.1, keep b3 hS.2.2.2⟩ : w3.cell? ⟨w.heap.size, 2, none⟩ = some (.slice (some ⟨g, 0, none⟩) n1 d1) ∧ w3.cell? ⟨wr.heap.size, 1, none⟩ = some (.int .i64 sz) ∧ w3.cell? ⟨wr.heap.size, 2, none⟩ = some (.slice x m cc) ∧ w3.cell? ⟨wr.heap.size, 3, none⟩ = some (.int .u32 sum))
      refine hK.out _ _ (fun _ => S3) ?_
      clear hK K
      have st3 := ST.out.below (on bD b3)
      have e1 := st3.oi.cell irow.len HL.out (j := 1) (v := .int .i64 sz) rfl
      have e2 := st3.oi.cell irow.len HL.out (j := 2) (v := .slice x m cc) rfl
      have e3 := st3.oi.cell irow.len HL.out (j := 3) (v := .int .u32 sum) rfl
      have f1 := st3.oi.frozen (k := k * 4 + 1)
      have f2 := st3.oi.frozen (k := k * 4 + 2)
      have f3 := st3.oi.frozen (k := k * 4 + 3)
      have HN := hid (st3.setI (ch := ⟨sz, y, m, cy, dat, sum⟩) HL.out ((CAt.weak H3.out.1) fun b hb => ⟨⟨by have := hb.1.1; have := bD.size; have := ST.out.bel.size; omega, hb.1.2⟩, hb.2⟩) A1.out.1 rfl)
      clear hS S3 bD b3 HC H3 st3
      refine wpAnyT_one (i := 6) (by kernel_rfl) rfl (fun K hK => ?_)
      go_simp
      refine hK.out _ _ (fun h => absurd (by decide) h) ?_
      clear hK K
      refine wpAnyT_one (i := 7) (by kernel_rfl) rfl (fun K hK => ?_)
      go_simp
      refine hK.out _ _ (fun h => absurd (by decide) h) ?_
      clear hK K
      refine wpAnyT_one (i := 8) (by kernel_rfl) rfl (fun K hK => ?_)
      go_simp
      refine hK.out _ _ (fun h => absurd (by decide) h) ?_
      clear hK K
      refine wpAnyT_done (by kernel_rfl) ?_ _
      clear e1 e2 e3 f1 f2 f3
      go_wp2_with fail
      go_roundw
      case rel => exact ⟨k + 1, by omega, by go_num, _, HN.out⟩
      case measure => simp [intOf]; omega
    · have hk2 : n1 = k := by omega
      subst hk2
      obtain ⟨L0, st⟩ := HR.out
      have HS := hid st
      have z2 : wr.cell? ⟨w.heap.size, 4, none⟩ = some (.slice y3 n3 d3) := cell_heap st.box rfl
      clear hlt st HR
      go_wp2_with fail
      go_loopw [39] (fun i wr => ∃ k : Nat, k ≤ n3 ∧ i = .int .i64 k ∧ Hid (∃ M, CpSt w wr ⟨pl, si, x1, n1, c1, I, x2, n2, c2, E, x3, n3, c3, U⟩ y1 d1 y2 d2 y3 d3 L0 M n1 k)) (fun i _ => n3 - (intOf i).toNat)
      case atStart => exact ⟨0, by omega, rfl, _, HS.out⟩
      case round =>
        clear HS z2
        obtain ⟨k, hk, rfl, HR⟩ := hrel
        by_cases hlt : k < n3
        · have hkn : (k : Int) < (n3 : Int) := by omega
          obtain ⟨M, st⟩ := HR.out
          have hLl : M.length = n3 := by have := congrArg List.length st.mu; simp only [List.length_map] at this; have := HLen.out.2; omega
          have hne : M ≠ [] := fun e => by rw [e] at hLl; simp at hLl; omega
          obtain ⟨g, c', hR, hle, hcm, _, hgl⟩ := st.ou.there hne
          injection hR with e1 e2 e3
          subst e1 e3
          obtain ⟨a, ha⟩ : ∃ a, U[k]? = some a := ⟨U[k]'(by have := HLen.out.2; omega), List.getElem?_eq_getElem _⟩
          have hLk : M[k]? = some a := (st.ru k (Nat.le_refl _)).trans ha
          have A1 := hid (HV.out.u.each a (List.mem_of_getElem? ha))
          have k0 := st.ou.cell urow.len hLk (j := 0) (v := .int .i64 a.seq) rfl
          rw [Nat.add_zero] at k0
          have k1 := st.ou.cell urow.len hLk (j := 1) (v := .string a.nm) rfl
          have k2 := st.ou.cell urow.len hLk (j := 2) (v := .bool a.has) rfl
          have k3 := st.ou.cell urow.len hLk (j := 3) (v := .int .i64 a.was.sz) rfl
          have k4 := st.ou.cell urow.len hLk (j := 4) (v := .slice a.was.x a.was.n a.was.c) rfl
          have k5 := st.ou.cell urow.len hLk (j := 5) (v := .int .u32 a.was.sum) rfl
          have bx := cell_heap st.box (j := 4) rfl
          (try dsimp only at bx)
          obtain ⟨w2, hw2⟩ : ∃ w2, w2 = wr.alloc (.cells #[.int .i64 a.seq, .string a.nm, .bool a.has, .int .i64 a.was.sz, .slice a.was.x a.was.n a.was.c, .int .u32 a.was.sum] 89) := ⟨_, rfl⟩
          have b2 : Below wr.heap.size wr w2 := by rw [hw2]; exact al _ _
          have ST := hid st
          have HL := hid hLk
          have HB2 := hid b2
          have hC := fun W (hW : Below wr.heap.size wr W) => copiedChunk_any (w := W) (CAt.below (w := w) A1.out.2 (on st.bel hW))
          obtain ⟨sq, nm, ha, sz, x, m, cc, dat, sum⟩ := a
          have HK := hid (⟨keep b2 bx, by rw [hw2]; go_simp, by rw [hw2]; go_simp, by rw [hw2]; go_simp⟩ : w2.cell? ⟨w.heap.size, 4, none⟩ = some (.slice (some ⟨g, 0, none⟩) n3 d3) ∧ w2.cell? ⟨wr.heap.size, 3, none⟩ = some (.int .i64 sz) ∧ w2.cell? ⟨wr.heap.size, 4, none⟩ = some (.slice x m cc) ∧ w2.cell? ⟨wr.heap.size, 5, none⟩ = some (.int .u32 sum))
          unfold vC at hC
          dsimp only at k0 k1 k2 k3 k4 k5 hw2 hC
          have HW2 := hid hw2
          have HC := hid hC
          clear st bx b2 hw2 ha hLk hne hcm hgl hle HR hC
          go_wp2_with fail
          rw [← HW2.out]
          clear k0 k1 k2 k3 k4 k5
          refine wp_region_tail (fun v => v.cell? ⟨w.heap.size, 4, none⟩ = some (.slice (some ⟨g, 0, none⟩) n3 d3) ∧ v.cell? ⟨wr.heap.size, 3, none⟩ = some (.int .i64 sz) ∧ v.cell? ⟨wr.heap.size, 4, none⟩ = some (.slice x m cc) ∧ v.cell? ⟨wr.heap.size, 5, none⟩ = some (.int .u32 sum)) [6, 7, 8] (by kernel_rfl) HK.out (fun hS => ?_)
          have bD : Below wr.heap.size wr w2.drew := on HB2.out (Below.refl _ _).drew
          generalize w2.drew = wD at *
          refine By.tk 0 ?_
          refine By.tk 1 ?_
          refine By.tk 2 ?_
          refine By.tk 3 ?_
          refine By.tk 4 ?_
          refine wpAnyT_one (i := 5) (by kernel_rfl) rfl (fun K hK => ?_)
          go_simp
          refine (HC.out wD bD).mono ?_
          rintro e w3 ⟨y, cy, rfl, H3⟩
          have b3 := H3.out.2
          have S3 := (⟨keep b3 hS.1, keep b3 hS.2.1, keep b3 hS.2.2.1, keep b3 hS.2.2.2⟩ : w3.cell? ⟨w.heap.size, 4, none⟩ = some (.slice (some ⟨g, 0, none⟩) n3 d3) ∧ w3.cell? ⟨wr.heap.size, 3, none⟩ = some (.int .i64 sz) ∧ w3.cell? ⟨wr.heap.size, 4, none⟩ = some (.slice x m cc) ∧ w3.cell? ⟨wr.heap.size, 5, none⟩ = some (.int .u32 sum))
          refine hK.out _ _ (fun _ => S3) ?_
          clear hK K
          have st3 := ST.out.below (on bD b3)
          have e1 := st3.ou.cell urow.len HL.out (j := 3) (v := .int .i64 sz) rfl
          have e2 := st3.ou.cell urow.len HL.out (j := 4) (v := .slice x m cc) rfl
          have e3 := st3.ou.cell urow.len HL.out (j := 5) (v := .int .u32 sum) rfl
          have f1 := st3.ou.frozen (k := k * 6 + 3)
          have f2 := st3.ou.frozen (k := k * 6 + 4)
          have f3 := st3.ou.frozen (k := k * 6 + 5)
          have HN := hid (st3.setU (ch := ⟨sz, y, m, cy, dat, sum⟩) HL.out ((CAt.weak H3.out.1) fun b hb => ⟨⟨by have := hb.1.1; have := bD.size; have := ST.out.bel.size; omega, hb.1.2⟩, hb.2⟩) A1.out.1 rfl)
          clear hS S3 bD b3 HC H3 st3
          refine wpAnyT_one (i := 6) (by kernel_rfl) rfl (fun K hK => ?_)
          go_simp
          refine hK.out _ _ (fun h => absurd (by decide) h) ?_
          clear hK K
          refine wpAnyT_one (i := 7) (by kernel_rfl) rfl (fun K hK => ?_)
          go_simp
          refine hK.out _ _ (fun h => absurd (by decide) h) ?_
          clear hK K
          refine wpAnyT_one (i := 8) (by kernel_rfl) rfl (fun K hK => ?_)
          go_simp
          refine hK.out _ _ (fun h => absurd (by decide) h) ?_
          clear hK K
          refine wpAnyT_done (by kernel_rfl) ?_ _
          clear e1 e2 e3 f1 f2 f3
          go_wp2_with fail
          go_roundw
          case rel => exact ⟨k + 1, by omega, by go_num, _, HN.out⟩
          case measure => simp [intOf]; omega
        · have hk3 : n3 = k := by omega
          subst hk3
          obtain ⟨M, st⟩ := HR.out
          have HD := hid (st.done HV.out)
          have hl2 := st.lt
          have c0 := cell_heap st.box (j := 0) rfl
          have c1 := cell_heap st.box (j := 1) rfl
          have c2 := cell_heap st.box (j := 2) rfl
          have c3 := cell_heap st.box (j := 3) rfl
          have c4 := cell_heap st.box (j := 4) rfl
          have r0 := cell_heap st.res (j := 0) rfl
          have r1 := cell_heap st.res (j := 1) rfl
          have r2 := cell_heap st.res (j := 2) rfl
          have r3 := cell_heap st.res (j := 3) rfl
          have r4 := cell_heap st.res (j := 4) rfl
          have f0 := fr_heap st.res 0
          have f1 := fr_heap st.res 1
          have f2 := fr_heap st.res 2
          have f3 := fr_heap st.res 3
          have f4 := fr_heap st.res 4
          have HX := hid st
          (try dsimp only at c0 c1 c2 c3 c4)
          clear hlt st HR
          go_wp2_with fail
          refine bodyPost_ret (v := vS ⟨pl, si, y1, n1, d1, L0, y2, n2, d2, E, y3, n3, d3, M⟩) ?_ rfl ?_
          · rw [results_cell1 rfl]
            unfold vS
            go_simp
          · have hT : ∀ W, Turns (fun k => k = w.heap.size + 1 ∨ k = w.heap.size + 1) wr W → Hid (OwS W (New w W) ⟨pl, si, y1, n1, d1, L0, y2, n2, d2, E, y3, n3, d3, M⟩ ∧ pS ⟨pl, si, y1, n1, d1, L0, y2, n2, d2, E, y3, n3, d3, M⟩ = pS ⟨pl, si, x1, n1, _, I, x2, n2, _, E, x3, n3, _, U⟩ ∧ Below w.heap.size w W) := fun W t => by
              refine hid ⟨?_, HD.out.2, HX.out.bel.trans (t.below (fun q hq => by rcases hq with hq | hq <;> omega) HX.out.bel.size)⟩
              have hne : ∀ {α : Type} {e : TypeId} {sz : Nat} {en : α → List Value} {R : Value} {K : List α}, Own wr 0 e sz en R K → e ≠ 26 → ∀ q, R.ownBlock = some q → ¬ (q = w.heap.size + 1 ∨ q = w.heap.size + 1) := fun ho ne q hq e => box_ne ho HX.out.res ne hq (by rcases e with e | e <;> exact e.symm)
              have kb : Keeps (Nb (New w wr) wr) wr W := .turns t fun b hb e => by
                rcases e with e | e
                all_goals
                  rw [e] at hb
                  have := hb.2.same ⟨_, _, HX.out.res⟩
                  revert this
                  decide
              have o := HD.out.1
              exact ⟨o.oi.turns t (hne o.oi (by decide)), o.oe.turns t (hne o.oe (by decide)), o.ou.turns t (hne o.ou (by decide)), fun q hq => (o.gi q hq).mono t.size, fun q hq => (o.ge q hq).mono t.size, fun q hq => (o.gu q hq).mono t.size,
                fun a ha => ((o.ci a ha).keeps kb).weak (nb_keeps (G := fun _ => True) t.size kb), fun a ha => o.ce a ha, fun a ha => ((o.cu a ha).keeps kb).weak (nb_keeps (G := fun _ => True) t.size kb), o.li, o.le, o.lu⟩
            refine ⟨⟨pl, si, y1, n1, d1, L0, y2, n2, d2, E, y3, n3, d3, M⟩, rfl, hT _ ?_⟩
            repeat (first | exact Turns.refl _ _ | refine Turns.two ?_ (by first | exact .inl rfl | exact .inr rfl) _)

end Go.Proofs.Ytnfflmndejbepaa.Sh
