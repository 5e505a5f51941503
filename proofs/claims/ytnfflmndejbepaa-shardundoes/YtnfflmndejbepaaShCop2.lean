/-
  A holder copied: copied.
  Conditions: the holder lies in memory.
-/
import Derived.Test.YtnfflmndejbepaaShCopy
import Derived.Test.YtnfflmndejbepaaShMay4
namespace Go.Proofs.Ytnfflmndejbepaa.Sh
set_option linter.unusedSectionVars false
variable [Inhabited DZ]
open Go.RowKit By Fl
set_option linter.unusedVariables false
set_option linter.unusedSimpArgs false
set_option maxRecDepth 100000

/- A holder of one's own: its shards apart from one another, and from the list that holds them. -/
structure OwH (w : World) (G0 Gl : Nat → Prop) (GN : Nat → Nat → Prop) (v : HV) : Prop where
  now : OwS w G0 v.now
  own : Own w 0 26 5 enS (.slice v.x v.n v.c) v.N
  gl : ∀ g, (Value.slice v.x v.n v.c).ownBlock = some g → Gl g
  nx : ∀ i s, v.N[i]? = some s → OwS w (GN i) s
  d0 : ∀ q, G0 q → ¬ Gl q
  d1 : ∀ i q, GN i q → ¬ G0 q ∧ ¬ Gl q
  d2 : ∀ i j q, i ≠ j → GN i q → ¬ GN j q
  ln : v.N.length ≤ 100000000

def AllG (G0 Gl : Nat → Prop) (GN : Nat → Nat → Prop) (q : Nat) : Prop := G0 q ∨ Gl q ∨ ∃ i, GN i q

section
variable {w w' : World} {G0 Gl : Nat → Prop} {GN : Nat → Nat → Prop} {v : HV}
theorem OwH.keeps (h : OwH w G0 Gl GN v) (k : Keeps (AllG G0 Gl GN) w w') : OwH w' G0 Gl GN v :=
  ⟨h.now.keeps (k.weak fun q hq => .inl hq), h.own.same fun g hg => k.block g (.inr (.inl (h.gl g hg))) (World.ownsRow.lt h.own g hg).2, h.gl, fun i s hs => (h.nx i s hs).keeps (k.weak fun q hq => .inr (.inr ⟨i, hq⟩)), h.d0, h.d1, h.d2, h.ln⟩
theorem OwH.below (h : OwH w G0 Gl GN v) (k : Below w.heap.size w w') : OwH w' G0 Gl GN v := h.keeps (.below k)
theorem OwH.toH (h : OwH w G0 Gl GN v) : HAt w (fun _ => True) v :=
  ⟨h.now.toS.weak fun _ _ => trivial, own_lis srow h.own h.ln (fun _ _ => trivial) fun a ha => by
    obtain ⟨i, hi⟩ := List.mem_iff_getElem?.1 ha
    exact (h.nx i a hi).toS.weak fun _ _ => trivial⟩
end

def zHBox : Array Value := #[.int .i64 0, .int .i64 0, .int .i64 0, .slice none 0 0, .slice none 0 0, .slice none 0 0, .slice none 0 0]

theorem flat_setS : ∀ (L : List SV) (i : Nat) (a : SV), flat enS (L.set i a) = (((((flat enS L).set (i * 5) (.int .i64 a.pl)).set (i * 5 + 1) (.int .i64 a.si)).set (i * 5 + 2) (.slice a.x1 a.n1 a.c1)).set (i * 5 + 3) (.slice a.x2 a.n2 a.c2)).set (i * 5 + 4) (.slice a.x3 a.n3 a.c3)
  | [], i, a => by simp [flat]
  | b :: L, 0, a => by simp [flat_cons, enS]
  | b :: L, i + 1, a => by
    rw [List.set_cons_succ, flat_cons, flat_cons, flat_setS L i a, show (i + 1) * 5 = i * 5 + 1 + 1 + 1 + 1 + 1 by omega]
    simp [List.set_cons_succ, enS]

def put5 (w : World) (g o : Nat) (a : SV) : World := ((((w.setCell ⟨g, o, none⟩ (.int .i64 a.pl)).setCell ⟨g, o + 1, none⟩ (.int .i64 a.si)).setCell ⟨g, o + 2, none⟩ (.slice a.x1 a.n1 a.c1)).setCell ⟨g, o + 3, none⟩ (.slice a.x2 a.n2 a.c2)).setCell ⟨g, o + 4, none⟩ (.slice a.x3 a.n3 a.c3)
theorem turns_put5 (w : World) (g o : Nat) (a : SV) : Turns (fun k => k = g) w (put5 w g o a) := turns_put (turns_put (turns_put (turns_put (turns_put (Turns.refl _ w) _ _) _ _) _ _) _ _) _ _

theorem Own.setS {w : World} {B g n c : Nat} {L : List SV} (h : Own w B 26 5 enS (.slice (some ⟨g, 0, none⟩) n c) L) (k : Nat) (a : SV) : Own (put5 w g (k * 5) a) B 26 5 enS (.slice (some ⟨g, 0, none⟩) n c) (L.set k a) := by
  have hL := h.heap.1
  unfold Own at h ⊢
  rw [List.length_set, flat_setS]
  rw [hL] at h ⊢
  exact own_setCell (own_setCell (own_setCell (own_setCell (own_setCell h _ _) _ _) _ _) _ _) _ _

def upG (GN : Nat → Nat → Prop) (k : Nat) (G : Nat → Prop) : Nat → Nat → Prop := fun i => if i = k then G else GN i
theorem upG_same (GN : Nat → Nat → Prop) (k : Nat) (G : Nat → Prop) : upG GN k G k = G := if_pos rfl
theorem upG_ne (GN : Nat → Nat → Prop) {k i : Nat} (G : Nat → Prop) (h : i ≠ k) : upG GN k G i = GN i := if_neg h
theorem upG_or {GN : Nat → Nat → Prop} {k i q : Nat} {G : Nat → Prop} (h : upG GN k G i q) : (i = k ∧ G q) ∨ (i ≠ k ∧ GN i q) := by
  unfold upG at h
  split at h
  · exact .inl ⟨by assumption, h⟩
  · exact .inr ⟨by assumption, h⟩

/- A copy that is under way: as far as the k-th one that stands by. -/
structure CpH (w wr : World) (v : HV) (u : SV) (y : Option Addr) (c : Nat) (L : List SV) (k lo hi : Nat) (G0 : Nat → Prop) (GN : Nat → Nat → Prop) : Prop where
  bel : Below w.heap.size w wr
  lt : w.heap.size + 2 ≤ lo ∧ lo ≤ hi ∧ hi ≤ wr.heap.size
  box : wr.heap[w.heap.size]? = some (.cells #[.int .i64 v.fe, .int .i64 u.pl, .int .i64 u.si, .slice u.x1 u.n1 u.c1, .slice u.x2 u.n2 u.c2, .slice u.x3 u.n3 u.c3, .slice y v.n c] 29 (0, 0))
  res : wr.heap[w.heap.size + 1]? = some (.cells zHBox 29 (0, 0))
  now : OwS wr G0 u
  ps : pS u = pS v.now
  own : Own wr 0 26 5 enS (.slice y v.n c) L
  g0 : ∀ q, G0 q → w.heap.size + 2 ≤ q ∧ q < lo
  gl : ∀ g, (Value.slice y v.n c).ownBlock = some g → lo ≤ g ∧ g < hi
  nx : ∀ i s, i < k → L[i]? = some s → OwS wr (GN i) s
  gn : ∀ i q, GN i q → hi ≤ q ∧ q < wr.heap.size
  d2 : ∀ i j q, i ≠ j → GN i q → ¬ GN j q
  ml : L.map pS = v.N.map pS
  ri : ∀ i, k ≤ i → L[i]? = v.N[i]?
  gk : ∀ i q, GN i q → i < k

section
variable {w wr wz : World} {v : HV} {u : SV} {y : Option Addr} {c k lo hi : Nat} {L : List SV} {G0 : Nat → Prop} {GN : Nat → Nat → Prop}
theorem CpH.below (h : CpH w wr v u y c L k lo hi G0 GN) (b : Below wr.heap.size wr wz) : CpH w wz v u y c L k lo hi G0 GN := by
  have hs := b.size
  have hl := h.lt
  exact ⟨on h.bel b, by omega, (b.block _ (by omega)).trans h.box, (b.block _ (by omega)).trans h.res, h.now.below b, h.ps, h.own.below b, h.g0, h.gl, fun i s hi hs => (h.nx i s hi hs).below b, fun i q hq => by have := h.gn i q hq; omega, h.d2, h.ml, h.ri, h.gk⟩

theorem CpH.step {g : Nat} {a s' : SV} {wD : World} (h : CpH w wr v u (some ⟨g, 0, none⟩) c L k lo hi G0 GN) (ha : L[k]? = some a) (hb : Below wr.heap.size wr wD) (hb2 : Below wD.heap.size wD wz) (hs : OwS wz (New wD wz) s') (hp : pS s' = pS a) :
    ∃ GN', CpH w (put5 wz g (k * 5) s') v u (some ⟨g, 0, none⟩) c (L.set k s') (k + 1) lo hi G0 GN' := by
  have z := (h.below hb).below hb2
  have t := turns_put5 wz g (k * 5) s'
  have gg : (Value.slice (some ⟨g, 0, none⟩) v.n c).ownBlock = some g := rfl
  have hg := h.gl g gg
  have hl := h.lt
  have hs1 := hb.size
  have hs2 := hb2.size
  have hs3 := t.size
  have kN : ∀ i, Keeps (GN i) wz (put5 wz g (k * 5) s') := fun i => .turns t fun q hq e => by have := h.gn i q hq; omega
  refine ⟨upG GN k (New wD wz), z.bel.trans (t.below (fun q hq => by omega) z.bel.size), by omega, (t.block _ (by omega) (by omega)).trans z.box, (t.block _ (by omega) (by omega)).trans z.res, z.now.keeps (.turns t fun q hq e => by have := h.g0 q hq; omega), z.ps, Own.setS z.own k s', z.g0, z.gl, fun i s hi hsi => ?_, fun i q hq => ?_, fun i j q hij hq hq2 => ?_, ?_, fun i hi => ?_, fun i q hq => ?_⟩
  · by_cases e : i = k
    · subst e
      have hil : i < L.length := (List.getElem?_eq_some_iff.1 ha).1
      rw [List.getElem?_set, if_pos rfl, if_pos hil] at hsi
      injection hsi with hsi
      subst hsi
      rw [upG_same]
      exact hs.keeps (.turns t fun q hq e => by have := hq.1; omega)
    · rw [List.getElem?_set, if_neg (Ne.symm e)] at hsi
      rw [upG_ne _ _ e]
      exact (z.nx i s (by omega) hsi).keeps (kN i)
  · rcases upG_or hq with ⟨_, hq⟩ | ⟨_, hq⟩
    · have := hq.1; have := hq.2; omega
    · have := h.gn i q hq; omega
  · rcases upG_or hq with ⟨_, hq⟩ | ⟨_, hq⟩ <;> rcases upG_or hq2 with ⟨_, hq2⟩ | ⟨_, hq2⟩
    · omega
    · have := h.gn j q hq2; have := hq.1; omega
    · have := h.gn i q hq; have := hq2.1; omega
    · exact h.d2 i j q hij hq hq2
  · rw [List.map_set, hp, ← h.ml]
    exact set_same' (by simp [ha])
  · rw [List.getElem?_set, if_neg (by omega)]
    exact h.ri i (by omega)
  · rcases upG_or hq with ⟨_, hq⟩ | ⟨_, hq⟩
    · omega
    · have := h.gk i q hq; omega

theorem CpH.done (h : CpH w wr v u y c L v.n lo hi G0 GN) (hl : v.N.length = v.n) (hsm : v.n ≤ 100000000) : OwH wr G0 (fun q => lo ≤ q ∧ q < hi) GN ⟨v.fe, u, y, v.n, c, L⟩ ∧ pH ⟨v.fe, u, y, v.n, c, L⟩ = pH v ∧ (∀ q, AllG G0 (fun q => lo ≤ q ∧ q < hi) GN q → w.heap.size + 2 ≤ q ∧ q < wr.heap.size) := by
  have hll := congrArg List.length h.ml
  simp only [List.length_map] at hll
  have := h.lt
  refine ⟨⟨h.now, h.own, h.gl, fun i s hs => h.nx i s (by have : i < L.length := (List.getElem?_eq_some_iff.1 hs).1; omega) hs, fun q hq e => by have := h.g0 q hq; omega, fun i q hq => ⟨fun e => by have := h.gn i q hq; have := h.g0 q e; omega, fun e => by have := h.gn i q hq; omega⟩, h.d2, by show L.length ≤ _; omega⟩, ?_, fun q hq => ?_⟩
  · unfold pH
    rw [h.ml, h.ps]
  · rcases hq with hq | hq | ⟨i, hq⟩
    · have := h.g0 q hq; omega
    · omega
    · have := h.gn i q hq; omega
end

/- The shard copied and told to the box; the list copied. -/
theorem CpH.start {w w1 wa wb : World} {F : Nat → Prop} {v : HV} {u : SV} {y : Option Addr} {c : Nat} (h1 : Below w.heap.size w w1) (hl : w1.heap.size = w.heap.size + 2) (hbox : w1.heap[w.heap.size]? = some (.cells (HCells v) 29 (0, 0))) (hres : w1.heap[w.heap.size + 1]? = some (.cells zHBox 29 (0, 0)))
    (hu : OwS wa (New w1 wa) u) (hp : pS u = pS v.now) (ha : Below w1.heap.size w1 wa) (hc : Cloned (put5 wa w.heap.size 1 u) 26 5 enS y v.n c v.N wb) :
    CpH w (wb.setCell ⟨w.heap.size, 6, none⟩ (.slice y v.n c)) v u y c v.N 0 wa.heap.size wb.heap.size (New w1 wa) (fun _ _ => False) := by
  have sa := ha.size
  have ta := turns_put5 wa w.heap.size 1 u
  have za : (put5 wa w.heap.size 1 u).heap.size = wa.heap.size := by simp [put5, World.setCell]
  have sb := hc.2.1.size
  rw [za] at sb
  have t : Turns (fun k => k = w.heap.size) wb (wb.setCell ⟨w.heap.size, 6, none⟩ (.slice y v.n c)) := turns_put (Turns.refl _ wb) _ _
  have zb : (wb.setCell ⟨w.heap.size, 6, none⟩ (.slice y v.n c)).heap.size = wb.heap.size := by simp [World.setCell]
  have hbx : wa.heap[w.heap.size]? = some (.cells (HCells v) 29 (0, 0)) := (ha.block _ (by omega)).trans hbox
  have hby := heap_set (heap_set (heap_set (heap_set (heap_set hbx (j := 1) (.int .i64 u.pl)) (j := 2) (.int .i64 u.si)) (j := 3) (.slice u.x1 u.n1 u.c1)) (j := 4) (.slice u.x2 u.n2 u.c2)) (j := 5) (.slice u.x3 u.n3 u.c3)
  have bw : Below w.heap.size wa (put5 wa w.heap.size 1 u) := ta.below (fun q hq => by omega) (by omega)
  have kN : Keeps (New w1 wa) wa (put5 wa w.heap.size 1 u) := .turns ta fun q hq e => by have := hq.1; omega
  have gl : ∀ g, (Value.slice y v.n c).ownBlock = some g → wa.heap.size ≤ g ∧ g < wb.heap.size := fun g hg => by have := hc.2.2 g hg; exact ⟨by have := this.1; omega, this.2⟩
  refine ⟨((on h1 ha).trans bw).trans ((hc.2.1.mono (by omega)).trans (t.below (fun q hq => by omega) (by omega))), by omega, ?_, ?_, ((hu.keeps kN).below hc.2.1).keeps (.turns t fun q hq e => by have := hq.1; omega), hp, hc.1.turns t (fun g hg e => by have := gl g hg; omega), fun q hq => ⟨by have := hq.1; omega, hq.2⟩, gl, fun i s hi => by omega, fun i q hq => hq.elim, fun i j q _ hq => hq.elim, rfl, fun _ _ => rfl, fun i q hq => hq.elim⟩
  · have hbz : wb.heap[w.heap.size]? = _ := (hc.2.1.block _ (by omega)).trans hby
    have := heap_set hbz (j := 6) (.slice y v.n c)
    rw [this]
    simp [HCells]
  · exact (t.block _ (by omega) (by omega)).trans ((hc.2.1.block _ (by omega)).trans ((ta.block _ (by omega) (by omega)).trans ((ha.block _ (by omega)).trans hres)))

set_option maxHeartbeats 6400000 in
theorem copied_any {w : World} {F : Nat → Prop} {v : HV} (h : HAt w F v) : Calls Try.prog 56 #[vH v] w fun e w' => ∃ v', e = .returned (vH v') ∧ Hid (∃ G0 Gl GN, OwH w' G0 Gl GN v' ∧ pH v' = pH v ∧ Below w.heap.size w w' ∧ ∀ q, AllG G0 Gl GN q → New w w' q) := by
  obtain ⟨w1, hw1⟩ : ∃ w1, w1 = (w.alloc (.cells (HCells v) 29)).alloc (.cells zHBox 29) := ⟨_, rfl⟩
  have bb : Below w.heap.size w w1 := by rw [hw1]; exact on (al _ _) (al _ _)
  have hsz : w1.heap.size = w.heap.size + 2 := by rw [hw1]; simp
  have g0 : w1.heap[w.heap.size]? = some (.cells (HCells v) 29 (0, 0)) := by
    rw [hw1]
    exact ((al (w.alloc (.cells (HCells v) 29)) _).block w.heap.size (by simp)).trans (heap_alloc_new w _)
  have g1 : w1.heap[w.heap.size + 1]? = some (.cells zHBox 29 (0, 0)) := by
    rw [hw1]
    have := heap_alloc_new (w.alloc (.cells (HCells v) 29)) (.cells zHBox 29)
    simpa using this
  have HB := hid bb
  have HSz := hid hsz
  have HG0 := hid g0
  have HV := hid h
  have HSt := hid (fun (wa wb : World) (u : SV) (y : Option Addr) (c : Nat) hu hp ha hc => CpH.start (w1 := w1) (wa := wa) (wb := wb) (u := u) (y := y) (c := c) (F := F) bb hsz g0 g1 hu hp ha hc)
  have hC1 := copiedShard_any (h.s.below bb)
  have sm := h.n.small
  have HLen := hid h.n.len
  clear h bb hsz g0 g1
  obtain ⟨fe, ⟨pl, si, x1, n1, c1, I, x2, n2, c2, E, x3, n3, c3, U⟩, x, n, c, N⟩ := v
  unfold HCells zHBox at hw1
  unfold vS at hC1
  unfold vH
  dsimp only at *
  have HC1 := hid hC1
  have HW := hid hw1
  rw [hw1] at hC1
  clear hw1
  go_enter Try.func56, Try.ntmps56
  go_upto_region 2 with (go_at_call 39; refine hC1.mono ?_; rintro e wa ⟨u, rfl, H1⟩; rw [← HW.out] at H1; obtain ⟨ul, us, va, ka, ea, uI, vb, kb, eb, uE, vc, kc, ec, uU⟩ := u; dsimp only; have ba := H1.out.2.2; have hbx := (ba.block w.heap.size (by have := HSz.out; omega)).trans HG0.out; have p1 := cell_heap hbx (j := 1) rfl; have p2 := cell_heap hbx (j := 2) rfl; have p3 := cell_heap hbx (j := 3) rfl; have p4 := cell_heap hbx (j := 4) rfl; have p5 := cell_heap hbx (j := 5) rfl; have p6 := cell_heap hbx (j := 6) rfl; have f1 := fr_heap hbx 1; have f2 := fr_heap hbx 2; have f3 := fr_heap hbx 3; have f4 := fr_heap hbx 4; have f5 := fr_heap hbx 5; have f6 := fr_heap hbx 6; have HBX := hid hbx; clear hC1 ba hbx)
  have e5 : ((((wa.setCell ⟨w.heap.size, 1, none⟩ (.int .i64 ul)).setCell ⟨w.heap.size, 2, none⟩ (.int .i64 us)).setCell ⟨w.heap.size, 3, none⟩ (.slice va ka ea)).setCell ⟨w.heap.size, 4, none⟩ (.slice vb kb eb)).setCell ⟨w.heap.size, 5, none⟩ (.slice vc kc ec) = put5 wa w.heap.size 1 ⟨ul, us, va, ka, ea, uI, vb, kb, eb, uE, vc, kc, ec, uU⟩ := rfl
  rw [e5]
  have hbp := heap_set (heap_set (heap_set (heap_set (heap_set HBX.out (j := 1) (.int .i64 ul)) (j := 2) (.int .i64 us)) (j := 3) (.slice va ka ea)) (j := 4) (.slice vb kb eb)) (j := 5) (.slice vc kc ec)
  rw [e5] at hbp
  have q6 := cell_heap hbp (j := 6) (v := .slice x n c) rfl
  have bq : Below w.heap.size w (put5 wa w.heap.size 1 ⟨ul, us, va, ka, ea, uI, vb, kb, eb, uE, vc, kc, ec, uU⟩) := (on HB.out H1.out.2.2).trans ((turns_put5 wa w.heap.size 1 ⟨ul, us, va, ka, ea, uI, vb, kb, eb, uE, vc, kc, ec, uU⟩).below (fun q hq => by omega) (by have := H1.out.2.2.size; have := HSz.out; omega))
  have hC2 := cloneS_any (Ss.below HV.out.n bq)
  have hlp := lt_heap hbp
  have HP := hid (And.intro hbp hlp)
  generalize hwq : put5 wa w.heap.size 1 ⟨ul, us, va, ka, ea, uI, vb, kb, eb, uE, vc, kc, ec, uU⟩ = wq at *
  have HWQ := hid hwq
  clear e5 p1 p2 p3 p4 p5 p6 f1 f2 f3 f4 f5 f6 hbp hwq bq hlp
  go_wp2_with (go_at_call 81; refine hC2.mono ?_; rintro e wb ⟨y, cy, rfl, H2⟩; have hbc := (H2.out.2.1.block _ HP.out.2).trans HP.out.1; have r6 := cell_heap hbc (j := 6) (v := .slice x n c) rfl; have fr := fr_heap hbc 6; clear hC2 hbc)
  obtain ⟨wS, hwS⟩ : ∃ wS, wS = wb.setCell ⟨w.heap.size, 6, none⟩ (.slice y n cy) := ⟨_, rfl⟩
  have HS := hid (HSt.out wa wb ⟨ul, us, va, ka, ea, uI, vb, kb, eb, uE, vc, kc, ec, uU⟩ y cy H1.out.1 H1.out.2.1 H1.out.2.2 (by rw [HWQ.out]; exact H2.out))
  (try dsimp only at HS)
  rw [← hwS] at HS ⊢
  obtain ⟨lo, hlo⟩ : ∃ z, z = wa.heap.size := ⟨_, rfl⟩
  obtain ⟨hi, hhi⟩ : ∃ z, z = wb.heap.size := ⟨_, rfl⟩
  obtain ⟨G0, hG0⟩ : ∃ G, G = New w1 wa := ⟨_, rfl⟩
  rw [← hlo, ← hhi, ← hG0] at HS
  clear r6 fr hwS q6 HWQ HP H1 H2 HSt HC1 HBX hlo hhi hG0 HG0
  go_loopw [16] (fun i wr => ∃ k : Nat, k ≤ n ∧ i = .int .i64 k ∧ Hid (∃ L GN, CpH w wr ⟨fe, ⟨pl, si, x1, n1, c1, I, x2, n2, c2, E, x3, n3, c3, U⟩, x, n, c, N⟩ ⟨ul, us, va, ka, ea, uI, vb, kb, eb, uE, vc, kc, ec, uU⟩ y cy L k lo hi G0 GN)) (fun i _ => n - (intOf i).toNat)
  case atStart => exact ⟨0, by omega, rfl, _, _, HS.out⟩
  case round =>
    clear HS
    obtain ⟨k, hk, rfl, HR⟩ := hrel
    by_cases hlt : k < n
    · have hkn : (k : Int) < (n : Int) := by omega
      obtain ⟨L, GN, st⟩ := HR.out
      have hLl : L.length = n := by have := congrArg List.length st.ml; simp only [List.length_map] at this; have := HLen.out; omega
      have hne : L ≠ [] := fun e => by rw [e] at hLl; simp at hLl; omega
      obtain ⟨g, c', hR, hle, hcm, _, hgl⟩ := st.own.there hne
      injection hR with e1 e2 e3
      subst e1 e3
      obtain ⟨a, ha⟩ : ∃ a, N[k]? = some a := ⟨N[k]'(by have := HLen.out; omega), List.getElem?_eq_getElem _⟩
      have hLk : L[k]? = some a := (st.ri k (Nat.le_refl _)).trans ha
      have A1 := hid (HV.out.n.each a (List.mem_of_getElem? ha))
      have k0 := st.own.cell srow.len hLk (j := 0) (v := .int .i64 a.pl) rfl
      rw [Nat.add_zero] at k0
      have k1 := st.own.cell srow.len hLk (j := 1) (v := .int .i64 a.si) rfl
      have k2 := st.own.cell srow.len hLk (j := 2) (v := .slice a.x1 a.n1 a.c1) rfl
      have k3 := st.own.cell srow.len hLk (j := 3) (v := .slice a.x2 a.n2 a.c2) rfl
      have k4 := st.own.cell srow.len hLk (j := 4) (v := .slice a.x3 a.n3 a.c3) rfl
      have bx := cell_heap st.box (j := 6) rfl
      (try dsimp only at bx)
      obtain ⟨w2, hw2⟩ : ∃ w2, w2 = wr.alloc (.cells #[.int .i64 a.pl, .int .i64 a.si, .slice a.x1 a.n1 a.c1, .slice a.x2 a.n2 a.c2, .slice a.x3 a.n3 a.c3] 26) := ⟨_, rfl⟩
      have b2 : Below wr.heap.size wr w2 := by rw [hw2]; exact al _ _
      have ST := hid st
      have HL := hid hLk
      have HB2 := hid b2
      have hC := fun W (hW : Below wr.heap.size wr W) => copiedShard_any (w := W) (SAt.below (w := w) A1.out (on st.bel hW))
      obtain ⟨pl', si', z1, m1, d1, sI, z2, m2, d2, sE, z3, m3, d3, sU⟩ := a
      have HK := hid (⟨keep b2 bx, by rw [hw2]; go_simp, by rw [hw2]; go_simp, by rw [hw2]; go_simp, by rw [hw2]; go_simp, by rw [hw2]; go_simp⟩ : w2.cell? ⟨w.heap.size, 6, none⟩ = some (.slice (some ⟨g, 0, none⟩) n cy) ∧ w2.cell? ⟨wr.heap.size, 0, none⟩ = some (.int .i64 pl') ∧ w2.cell? ⟨wr.heap.size, 1, none⟩ = some (.int .i64 si') ∧ w2.cell? ⟨wr.heap.size, 2, none⟩ = some (.slice z1 m1 d1) ∧ w2.cell? ⟨wr.heap.size, 3, none⟩ = some (.slice z2 m2 d2) ∧ w2.cell? ⟨wr.heap.size, 4, none⟩ = some (.slice z3 m3 d3))
      unfold vS at hC
      dsimp only at k0 k1 k2 k3 k4 hw2 hC
      have HW2 := hid hw2
      have HC := hid hC
      clear st bx b2 hw2 ha hLk hne hcm hgl hle HR hC
      go_wp2_with fail
      rw [← HW2.out]
      clear k0 k1 k2 k3 k4
      refine wp_region_tail (fun v => v.cell? ⟨w.heap.size, 6, none⟩ = some (.slice (some ⟨g, 0, none⟩) n cy) ∧ v.cell? ⟨wr.heap.size, 0, none⟩ = some (.int .i64 pl') ∧ v.cell? ⟨wr.heap.size, 1, none⟩ = some (.int .i64 si') ∧ v.cell? ⟨wr.heap.size, 2, none⟩ = some (.slice z1 m1 d1) ∧ v.cell? ⟨wr.heap.size, 3, none⟩ = some (.slice z2 m2 d2) ∧ v.cell? ⟨wr.heap.size, 4, none⟩ = some (.slice z3 m3 d3)) [5, 6] (by kernel_rfl) HK.out (fun hS => ?_)
      have bD : Below wr.heap.size wr w2.drew := on HB2.out (Below.refl _ _).drew
      generalize w2.drew = wD at *
      refine By.tk 0 ?_
      refine By.tk 1 ?_
      refine By.tk 2 ?_
      refine By.tk 3 ?_
      refine wpAnyT_one (i := 4) (by kernel_rfl) rfl (fun K hK => ?_)
      go_simp
      refine (HC.out wD bD).mono ?_
      rintro e w3 ⟨s', rfl, H3⟩
      have b3 := H3.out.2.2
      have S3 := (⟨keep b3 hS.1, keep b3 hS.2.1, keep b3 hS.2.2.1, keep b3 hS.2.2.2.1, keep b3 hS.2.2.2.2.1, keep b3 hS.2.2.2.2.2⟩ : w3.cell? ⟨w.heap.size, 6, none⟩ = some (.slice (some ⟨g, 0, none⟩) n cy) ∧ w3.cell? ⟨wr.heap.size, 0, none⟩ = some (.int .i64 pl') ∧ w3.cell? ⟨wr.heap.size, 1, none⟩ = some (.int .i64 si') ∧ w3.cell? ⟨wr.heap.size, 2, none⟩ = some (.slice z1 m1 d1) ∧ w3.cell? ⟨wr.heap.size, 3, none⟩ = some (.slice z2 m2 d2) ∧ w3.cell? ⟨wr.heap.size, 4, none⟩ = some (.slice z3 m3 d3))
      refine hK.out _ _ (fun _ => S3) ?_
      clear hK K
      have st3 := ST.out.below (on bD b3)
      have e0 := st3.own.cell srow.len HL.out (j := 0) (v := .int .i64 pl') rfl
      rw [Nat.add_zero] at e0
      have e1 := st3.own.cell srow.len HL.out (j := 1) (v := .int .i64 si') rfl
      have e2 := st3.own.cell srow.len HL.out (j := 2) (v := .slice z1 m1 d1) rfl
      have e3 := st3.own.cell srow.len HL.out (j := 3) (v := .slice z2 m2 d2) rfl
      have e4 := st3.own.cell srow.len HL.out (j := 4) (v := .slice z3 m3 d3) rfl
      have f0 := st3.own.frozen (k := k * 5)
      have f1 := st3.own.frozen (k := k * 5 + 1)
      have f2 := st3.own.frozen (k := k * 5 + 2)
      have f3 := st3.own.frozen (k := k * 5 + 3)
      have f4 := st3.own.frozen (k := k * 5 + 4)
      have HN := hid (ST.out.step HL.out bD b3 H3.out.1 H3.out.2.1)
      obtain ⟨tl, ts, t1, j1, h1, tI, t2, j2, h2, tE, t3, j3, h3, tU⟩ := s'
      clear hS S3 bD b3 HC H3 st3
      refine wpAnyT_one (i := 5) (by kernel_rfl) rfl (fun K hK => ?_)
      go_simp
      refine hK.out _ _ (fun h => absurd (by decide) h) ?_
      clear hK K
      refine wpAnyT_one (i := 6) (by kernel_rfl) rfl (fun K hK => ?_)
      go_simp
      refine hK.out _ _ (fun h => absurd (by decide) h) ?_
      clear hK K
      refine wpAnyT_done (by kernel_rfl) ?_ _
      clear e0 e1 e2 e3 e4 f0 f1 f2 f3 f4
      go_wp2_with fail
      go_roundw
      case rel => exact ⟨k + 1, by omega, by go_num, _, HN.out⟩
      case measure => simp [intOf]; omega
    · have hk2 : n = k := by omega
      subst hk2
      obtain ⟨L, GN, st⟩ := HR.out
      have HD := hid (st.done HLen.out sm)
      have cx0 := cell_heap st.box (j := 0) rfl
      have cx1 := cell_heap st.box (j := 1) rfl
      have cx2 := cell_heap st.box (j := 2) rfl
      have cx3 := cell_heap st.box (j := 3) rfl
      have cx4 := cell_heap st.box (j := 4) rfl
      have cx5 := cell_heap st.box (j := 5) rfl
      have cx6 := cell_heap st.box (j := 6) rfl
      have r0 := cell_heap st.res (j := 0) rfl
      have r1 := cell_heap st.res (j := 1) rfl
      have r2 := cell_heap st.res (j := 2) rfl
      have r3 := cell_heap st.res (j := 3) rfl
      have r4 := cell_heap st.res (j := 4) rfl
      have r5 := cell_heap st.res (j := 5) rfl
      have r6 := cell_heap st.res (j := 6) rfl
      have f0 := fr_heap st.res 0
      have f1 := fr_heap st.res 1
      have f2 := fr_heap st.res 2
      have f3 := fr_heap st.res 3
      have f4 := fr_heap st.res 4
      have f5 := fr_heap st.res 5
      have f6 := fr_heap st.res 6
      have HX := hid st
      (try dsimp only at cx0 cx1 cx2 cx3 cx4 cx5 cx6)
      clear hlt st HR
      go_wp2_with fail
      refine bodyPost_ret (v := vH ⟨fe, ⟨ul, us, va, ka, ea, uI, vb, kb, eb, uE, vc, kc, ec, uU⟩, y, n, cy, L⟩) ?_ rfl ?_
      · rw [results_cell1 rfl]
        unfold vH
        go_simp
      · have hT : ∀ W, Turns (fun k => k = w.heap.size + 1 ∨ k = w.heap.size + 1) wr W → Hid (∃ G0 Gl GN, OwH W G0 Gl GN ⟨fe, ⟨ul, us, va, ka, ea, uI, vb, kb, eb, uE, vc, kc, ec, uU⟩, y, n, cy, L⟩ ∧ pH ⟨fe, ⟨ul, us, va, ka, ea, uI, vb, kb, eb, uE, vc, kc, ec, uU⟩, y, n, cy, L⟩ = pH ⟨fe, ⟨pl, si, x1, n1, c1, I, x2, n2, c2, E, x3, n3, c3, U⟩, x, n, c, N⟩ ∧ Below w.heap.size w W ∧ ∀ q, AllG G0 Gl GN q → New w W q) := fun W t => by
          have hl := HX.out.lt
          refine hid ⟨_, _, _, HD.out.1.keeps (.turns t fun q hq e => by have := HD.out.2.2 q hq; rcases e with e | e <;> omega), HD.out.2.1, HX.out.bel.trans (t.below (fun q hq => by rcases hq with hq | hq <;> omega) (by omega)), fun q hq => ?_⟩
          have := HD.out.2.2 q hq
          have := t.size
          exact ⟨by omega, by omega⟩
        refine ⟨⟨fe, ⟨ul, us, va, ka, ea, uI, vb, kb, eb, uE, vc, kc, ec, uU⟩, y, n, cy, L⟩, rfl, hT _ ?_⟩
        repeat (first | (with_reducible refine Turns.two ?_ (by first | exact .inl rfl | exact .inr rfl) _) | with_reducible exact Turns.refl _ _)

end Go.Proofs.Ytnfflmndejbepaa.Sh
