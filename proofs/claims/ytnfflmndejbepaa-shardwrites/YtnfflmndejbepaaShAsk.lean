/-
  Ask.
  Conditions: the holder lies in memory.
-/
import Derived.Test.YtnfflmndejbepaaShCop2
namespace Go.Proofs.Ytnfflmndejbepaa.Sh
set_option linter.unusedSectionVars false
variable [Inhabited DZ]
open Go.RowKit By Fl
set_option linter.unusedVariables false
set_option linter.unusedSimpArgs false
set_option maxRecDepth 100000

theorem results_cell2 {fn : Func} {p q : Tmp} {ty : TypeId} (h : fn.results = #[.cell p ty, .tmp q]) (tmps : Array Value) (P : Program) (w : World) :
    (results fn tmps).run P w = ((asAddr (tmps.getD p undef)).run P w).andThen fun a w₁ => ((loadVar ty a).run P w₁).andThen fun v w₂ => .ok (.tuple #[v, tmps.getD q undef]) w₂ := by
  simp only [results, h]
  simp [Sem.run_bind, Result.andThen]

def zHV : HV := ⟨0, zSV, none, 0, 0, []⟩
theorem zHV_is : pH zHV = zH := rfl
theorem zHV_own (w : World) : OwH w (fun _ => False) (fun _ => False) (fun _ _ => False) zHV :=
  ⟨⟨Own.nil w 0 _ _ _, Own.nil w 0 _ _ _, Own.nil w 0 _ _ _, (fun g hg => by cases hg), (fun g hg => by cases hg), (fun g hg => by cases hg), (fun a ha => by cases ha), (fun a ha => by cases ha), (fun a ha => by cases ha), Nat.zero_le _, Nat.zero_le _, Nat.zero_le _⟩, Own.nil w 0 _ _ _, (fun g hg => by cases hg), (fun i s hs => by simp [zHV] at hs), fun q hq => hq.elim, fun i q hq => hq.elim, fun i j q _ hq => hq.elim, Nat.zero_le _⟩

def put7 (w : World) (g : Nat) (v : HV) : World := ((((((w.setCell ⟨g, 0, none⟩ (.int .i64 v.fe)).setCell ⟨g, 1, none⟩ (.int .i64 v.now.pl)).setCell ⟨g, 2, none⟩ (.int .i64 v.now.si)).setCell ⟨g, 3, none⟩ (.slice v.now.x1 v.now.n1 v.now.c1)).setCell ⟨g, 4, none⟩ (.slice v.now.x2 v.now.n2 v.now.c2)).setCell ⟨g, 5, none⟩ (.slice v.now.x3 v.now.n3 v.now.c3)).setCell ⟨g, 6, none⟩ (.slice v.x v.n v.c)
theorem turns_put7 (w : World) (g : Nat) (v : HV) : Turns (fun k => k = g) w (put7 w g v) := turns_put (turns_put (turns_put (turns_put (turns_put (turns_put (turns_put (Turns.refl _ w) _ _) _ _) _ _) _ _) _ _) _ _) _ _
theorem put7_box {w : World} {g : Nat} {cs : Array Value} {t : TypeId} (h : w.heap[g]? = some (.cells cs t (0, 0))) (hs : cs.size = 7) (v : HV) : (put7 w g v).heap[g]? = some (.cells (HCells v) t (0, 0)) := by
  unfold put7 HCells
  refine (heap_set (heap_set (heap_set (heap_set (heap_set (heap_set (heap_set h _) _) _) _) _) _) _).trans ?_
  obtain ⟨l⟩ := cs
  match l, hs with
  | [a0, a1, a2, a3, a4, a5, a6], _ => simp

/- A holder that a call tells, with a number. -/
def Tells (w : World) (H : Hld) (z : Int) (e : Ending) (w' : World) : Prop := ∃ v', e = .returned (.tuple #[vH v', .int .i64 z]) ∧ Hid (∃ G0 Gl GN, OwH w' G0 Gl GN v' ∧ pH v' = H ∧ Below w.heap.size w w' ∧ ∀ q, AllG G0 Gl GN q → New w w' q)

def askP (H : Hld) (since : Int) : Hld × Int := if bz (okH H) then (if decide (1 ≤ since ∧ since ≤ 1048576) then (if since < H.fe then (H, 7) else (⟨since, H.now, H.nx⟩, 0)) else (H, 1)) else (zH, 1)

/- Two boxes laid; what lies behind them. -/
theorem two_boxes (w : World) (A B : Array Value) (t : TypeId) : Below w.heap.size w ((w.alloc (.cells A t)).alloc (.cells B t)) ∧ ((w.alloc (.cells A t)).alloc (.cells B t)).heap.size = w.heap.size + 2 ∧
    ((w.alloc (.cells A t)).alloc (.cells B t)).heap[w.heap.size]? = some (.cells A t (0, 0)) ∧ ((w.alloc (.cells A t)).alloc (.cells B t)).heap[w.heap.size + 1]? = some (.cells B t (0, 0)) := by
  refine ⟨on (al _ _) (al _ _), by simp, ((al (w.alloc (.cells A t)) _).block w.heap.size (by simp)).trans (heap_alloc_new w _), ?_⟩
  have := heap_alloc_new (w.alloc (.cells A t)) (.cells B t)
  simpa using this

/- What was told to two boxes turns nothing of a holder of one's own that came behind them. -/
theorem own_kept {w w1 wc W : World} {G0 Gl : Nat → Prop} {GN : Nat → Nat → Prop} {v : HV} (h1 : Below w.heap.size w w1) (hl : w1.heap.size = w.heap.size + 2) (h : OwH wc G0 Gl GN v) (hb : Below w1.heap.size w1 wc) (hq : ∀ q, AllG G0 Gl GN q → New w1 wc q) (t : Turns (fun k => k = w.heap.size ∨ k = w.heap.size + 1) wc W) :
    OwH W G0 Gl GN v ∧ Below w.heap.size w W ∧ ∀ q, AllG G0 Gl GN q → New w W q := by
  have s1 := hb.size
  have s2 := t.size
  refine ⟨h.keeps (.turns t fun q hg e => by have := (hq q hg).1; rcases e with e | e <;> omega), (on h1 hb).trans (t.below (fun q e => by rcases e with e | e <;> omega) (by omega)), fun q hg => ?_⟩
  have := hq q hg
  exact ⟨by have := this.1; omega, by have := this.2; omega⟩

theorem OwH.fence {w : World} {G0 Gl : Nat → Prop} {GN : Nat → Nat → Prop} {v : HV} (h : OwH w G0 Gl GN v) (z : Int) : OwH w G0 Gl GN { v with fe := z } := ⟨h.now, h.own, h.gl, h.nx, h.d0, h.d1, h.d2, h.ln⟩

set_option maxHeartbeats 12800000 in
theorem ask_any {w : World} {F : Nat → Prop} {v : HV} (since : Int) (h : HAt w F v) : Calls Try.prog 28 #[vH v, .int .i64 since] w fun e w' => Tells w (askP (pH v) since).1 (askP (pH v) since).2 e w' := by
  obtain ⟨w1, hw1⟩ : ∃ w1, w1 = (w.alloc (.cells (HCells v) 29)).alloc (.cells zHBox 29) := ⟨_, rfl⟩
  obtain ⟨bb, hsz, g0, g1⟩ := two_boxes w (HCells v) zHBox 29
  rw [← hw1] at bb hsz g0 g1
  have hC1 := check_any (h.below bb)
  have HC2 := hid (fun W (hW : Below w1.heap.size w1 W) => copied_any (h.below (on bb hW)))
  have HC3 := hid (fun W => within_any since 1 1048576 W)
  obtain ⟨tK, htK⟩ : ∃ t, t = bz (okH (pH v)) := ⟨_, rfl⟩
  obtain ⟨tW, htW⟩ : ∃ t, t = decide ((1 : Int) ≤ since ∧ since ≤ 1048576) := ⟨_, rfl⟩
  have HP : Hid (askP (pH v) since = if tK then (if tW then (if since < v.fe then (pH v, 7) else (⟨since, (pH v).now, (pH v).nx⟩, 0)) else (pH v, 1)) else (zH, 1)) := hid (by rw [htK, htW]; rfl)
  rw [← htK] at hC1
  rw [← htW] at HC3
  have HB := hid bb
  have HSz := hid hsz
  have HG0 := hid g0
  have HG1 := hid g1
  have eT : er true = 0 := rfl
  have eF : er false = 1 := rfl
  generalize askP (pH v) since = PP at *
  obtain ⟨HH, hHH⟩ : ∃ H, H = pH v := ⟨_, rfl⟩
  rw [← hHH] at HP HC2
  clear h bb hsz g0 g1 htK htW
  have HHH := hid hHH
  clear hHH
  obtain ⟨fe, ⟨pl, si, x1, n1, c1, I, x2, n2, c2, E, x3, n3, c3, U⟩, x, n, c, N⟩ := v
  unfold HCells zHBox at hw1
  unfold HCells at HG0
  unfold zHBox at HG1
  unfold vH at hC1 HC2
  show Calls Try.prog 28 #[.agg #[.int .i64 fe, .int .i64 pl, .int .i64 si, .slice x1 n1 c1, .slice x2 n2 c2, .slice x3 n3 c3, .slice x n c], .int .i64 since] w _
  dsimp only at *
  have HW := hid hw1
  rw [hw1] at hC1
  clear hw1
  have fin : ∀ (wa wc W : World) (G0 Gl : Nat → Prop) (GN : Nat → Nat → Prop) (u : HV) (H : Hld) (z : Int), Below w1.heap.size w1 wa → Below wa.heap.size wa wc → OwH wc G0 Gl GN u → pH u = H → (∀ q, AllG G0 Gl GN q → New wa wc q) → Turns (fun k => k = w.heap.size ∨ k = w.heap.size + 1) wc W → PP = (H, z) → Tells w PP.1 PP.2 (.returned (.tuple #[vH u, .int .i64 z])) W := fun wa wc W G0 Gl GN u H z h1 h2 h3 h4 h5 t hp => by
    have := own_kept HB.out HSz.out h3 (on h1 h2) (fun q hq => ⟨by have := (h5 q hq).1; have := h1.size; omega, (h5 q hq).2⟩) t
    rw [hp]
    exact ⟨u, rfl, hid ⟨G0, Gl, GN, this.1, h4, this.2.1, this.2.2⟩⟩
  have HFin := hid fin
  clear fin
  cases tK with
  | false =>
    go_enter Try.func28, Try.ntmps28
    go_wp2_with (go_at_call 13; refine hC1.mono ?_; rintro e wa ⟨rfl, H1⟩; rw [← HW.out] at H1; have HA := hid H1; have ga := (H1.block w.heap.size (by have := HSz.out; omega)).trans HG0.out; have gb := (H1.block (w.heap.size + 1) (by have := HSz.out; omega)).trans HG1.out; have a0 := cell_heap ga (j := 0) rfl; have a1 := cell_heap ga (j := 1) rfl; have a2 := cell_heap ga (j := 2) rfl; have a3 := cell_heap ga (j := 3) rfl; have a4 := cell_heap ga (j := 4) rfl; have a5 := cell_heap ga (j := 5) rfl; have a6 := cell_heap ga (j := 6) rfl; have b0 := cell_heap gb (j := 0) rfl; have b1 := cell_heap gb (j := 1) rfl; have b2 := cell_heap gb (j := 2) rfl; have b3 := cell_heap gb (j := 3) rfl; have b4 := cell_heap gb (j := 4) rfl; have b5 := cell_heap gb (j := 5) rfl; have b6 := cell_heap gb (j := 6) rfl; have fa0 := fr_heap ga 0; have fb0 := fr_heap gb 0; have fa1 := fr_heap ga 1; have fb1 := fr_heap gb 1; have fa2 := fr_heap ga 2; have fb2 := fr_heap gb 2; have fa3 := fr_heap ga 3; have fb3 := fr_heap gb 3; have fa4 := fr_heap ga 4; have fb4 := fr_heap gb 4; have fa5 := fr_heap ga 5; have fb5 := fr_heap gb 5; have fa6 := fr_heap ga 6; have fb6 := fr_heap gb 6; have HGa := hid ga; have HGb := hid gb; clear ga gb hC1)
    clear a0
    refine bodyPost_ret (v := .tuple #[vH zHV, .int .i64 1]) ?_ rfl ?_
    · rw [results_cell2 rfl]
      unfold vH zHV zSV
      go_simp
    · refine HFin.out wa wa _ _ _ _ zHV zH 1 HA.out (Below.refl _ _) (zHV_own wa) zHV_is (fun q hq => by rcases hq with hq | hq | ⟨i, hq⟩ <;> exact hq.elim) ?_ (by rw [HP.out]; rfl)
      repeat (first | (with_reducible refine Turns.two ?_ (by first | exact .inl rfl | exact .inr rfl) _) | with_reducible exact Turns.refl _ _)
  | true =>
    cases tW with
    | false =>
      go_enter Try.func28, Try.ntmps28
      go_upto_region 4 with (first
        | (go_at_call 13; refine hC1.mono ?_; rintro e wa ⟨rfl, H1⟩; rw [← HW.out] at H1; have HA := hid H1; have ga := (H1.block w.heap.size (by have := HSz.out; omega)).trans HG0.out; have gb := (H1.block (w.heap.size + 1) (by have := HSz.out; omega)).trans HG1.out; have a0 := cell_heap ga (j := 0) rfl; have a1 := cell_heap ga (j := 1) rfl; have a2 := cell_heap ga (j := 2) rfl; have a3 := cell_heap ga (j := 3) rfl; have a4 := cell_heap ga (j := 4) rfl; have a5 := cell_heap ga (j := 5) rfl; have a6 := cell_heap ga (j := 6) rfl; have b0 := cell_heap gb (j := 0) rfl; have b1 := cell_heap gb (j := 1) rfl; have b2 := cell_heap gb (j := 2) rfl; have b3 := cell_heap gb (j := 3) rfl; have b4 := cell_heap gb (j := 4) rfl; have b5 := cell_heap gb (j := 5) rfl; have b6 := cell_heap gb (j := 6) rfl; have fa0 := fr_heap ga 0; have fb0 := fr_heap gb 0; have fa1 := fr_heap ga 1; have fb1 := fr_heap gb 1; have fa2 := fr_heap ga 2; have fb2 := fr_heap gb 2; have fa3 := fr_heap ga 3; have fb3 := fr_heap gb 3; have fa4 := fr_heap ga 4; have fb4 := fr_heap gb 4; have fa5 := fr_heap ga 5; have fb5 := fr_heap gb 5; have fa6 := fr_heap ga 6; have fb6 := fr_heap gb 6; have HGa := hid ga; have HGb := hid gb; clear ga gb hC1)
        | (go_at_call 56; refine (HC2.out _ HA.out).mono ?_; rintro e wc ⟨v', rfl, H2⟩; obtain ⟨fe', ⟨pl', si', z1, m1, d1, sI, z2, m2, d2, sE, z3, m3, d3, sU⟩, zx, zn, zc, sN⟩ := v'; dsimp only; obtain ⟨G0, Gl, GN, o2, e2, bq2, n2'⟩ := H2.out; have HB2 := hid bq2; have ga := (bq2.block w.heap.size (lt_heap HGa.out)).trans HGa.out; have gb := (bq2.block (w.heap.size + 1) (lt_heap HGb.out)).trans HGb.out; replace a0 := cell_heap ga (j := 0) rfl; replace fa0 := fr_heap ga 0; replace a1 := cell_heap ga (j := 1) rfl; replace fa1 := fr_heap ga 1; replace a2 := cell_heap ga (j := 2) rfl; replace fa2 := fr_heap ga 2; replace a3 := cell_heap ga (j := 3) rfl; replace fa3 := fr_heap ga 3; replace a4 := cell_heap ga (j := 4) rfl; replace fa4 := fr_heap ga 4; replace a5 := cell_heap ga (j := 5) rfl; replace fa5 := fr_heap ga 5; replace a6 := cell_heap ga (j := 6) rfl; replace fa6 := fr_heap ga 6; have HGc := hid ga; have HGd := hid gb; have HO2 := hid (And.intro o2 (And.intro e2 n2')); clear ga gb H2 o2 e2 bq2 n2' b0 b1 b2 b3 b4 b5 b6 fb0 fb1 fb2 fb3 fb4 fb5 fb6))
      have e7 : ((((((wc.setCell ⟨w.heap.size, 0, none⟩ (.int .i64 fe')).setCell ⟨w.heap.size, 1, none⟩ (.int .i64 pl')).setCell ⟨w.heap.size, 2, none⟩ (.int .i64 si')).setCell ⟨w.heap.size, 3, none⟩ (.slice z1 m1 d1)).setCell ⟨w.heap.size, 4, none⟩ (.slice z2 m2 d2)).setCell ⟨w.heap.size, 5, none⟩ (.slice z3 m3 d3)).setCell ⟨w.heap.size, 6, none⟩ (.slice zx zn zc) = put7 wc w.heap.size ⟨fe', ⟨pl', si', z1, m1, d1, sI, z2, m2, d2, sE, z3, m3, d3, sU⟩, zx, zn, zc, sN⟩ := by simp only [put7]
      rw [e7]
      have hg := put7_box HGc.out rfl ⟨fe', ⟨pl', si', z1, m1, d1, sI, z2, m2, d2, sE, z3, m3, d3, sU⟩, zx, zn, zc, sN⟩
      have t7 := turns_put7 wc w.heap.size ⟨fe', ⟨pl', si', z1, m1, d1, sI, z2, m2, d2, sE, z3, m3, d3, sU⟩, zx, zn, zc, sN⟩
      have hg2 := (t7.block (w.heap.size + 1) (lt_heap HGd.out) (by omega)).trans HGd.out
      unfold HCells at hg
      generalize put7 wc w.heap.size ⟨fe', ⟨pl', si', z1, m1, d1, sI, z2, m2, d2, sE, z3, m3, d3, sU⟩, zx, zn, zc, sN⟩ = wS at *
      clear e7 a0 a1 a2 a3 a4 a5 a6 fa0 fa1 fa2 fa3 fa4 fa5 fa6
      have a0 := cell_heap hg (j := 0) rfl
      have b0 := cell_heap hg2 (j := 0) rfl
      have fb0 := fr_heap hg2 0
      have a1 := cell_heap hg (j := 1) rfl
      have b1 := cell_heap hg2 (j := 1) rfl
      have fb1 := fr_heap hg2 1
      have a2 := cell_heap hg (j := 2) rfl
      have b2 := cell_heap hg2 (j := 2) rfl
      have fb2 := fr_heap hg2 2
      have a3 := cell_heap hg (j := 3) rfl
      have b3 := cell_heap hg2 (j := 3) rfl
      have fb3 := fr_heap hg2 3
      have a4 := cell_heap hg (j := 4) rfl
      have b4 := cell_heap hg2 (j := 4) rfl
      have fb4 := fr_heap hg2 4
      have a5 := cell_heap hg (j := 5) rfl
      have b5 := cell_heap hg2 (j := 5) rfl
      have fb5 := fr_heap hg2 5
      have a6 := cell_heap hg (j := 6) rfl
      have b6 := cell_heap hg2 (j := 6) rfl
      have fb6 := fr_heap hg2 6
      have fa0 := fr_heap hg 0
      (try dsimp only at a0 a1 a2 a3 a4 a5 a6)
      have HT := hid (t7.weak (G := fun k => k = w.heap.size ∨ k = w.heap.size + 1) fun k hk => .inl hk)
      have HG := hid hg
      have HGe := hid hg2
      clear hg hg2 t7
      go_wp2_with (go_at_call 42; refine (HC3.out _).mono ?_; rintro e w3 ⟨rfl, hw⟩; subst w3)
      refine bodyPost_ret (v := .tuple #[vH ⟨fe', ⟨pl', si', z1, m1, d1, sI, z2, m2, d2, sE, z3, m3, d3, sU⟩, zx, zn, zc, sN⟩, .int .i64 1]) ?_ rfl ?_
      · rw [results_cell2 rfl]
        unfold vH
        go_simp
      · refine HFin.out wa wc _ G0 Gl GN ⟨fe', ⟨pl', si', z1, m1, d1, sI, z2, m2, d2, sE, z3, m3, d3, sU⟩, zx, zn, zc, sN⟩ HH 1 HA.out HB2.out HO2.out.1 HO2.out.2.1 HO2.out.2.2 (HT.out.trans ?_) (by rw [HP.out]; rfl)
        repeat (first | (with_reducible refine Turns.two ?_ (by first | exact .inl rfl | exact .inr rfl) _) | with_reducible exact Turns.refl _ _)
    | true =>
      go_enter Try.func28, Try.ntmps28
      go_upto_region 4 with (first
        | (go_at_call 13; refine hC1.mono ?_; rintro e wa ⟨rfl, H1⟩; rw [← HW.out] at H1; have HA := hid H1; have ga := (H1.block w.heap.size (by have := HSz.out; omega)).trans HG0.out; have gb := (H1.block (w.heap.size + 1) (by have := HSz.out; omega)).trans HG1.out; have a0 := cell_heap ga (j := 0) rfl; have a1 := cell_heap ga (j := 1) rfl; have a2 := cell_heap ga (j := 2) rfl; have a3 := cell_heap ga (j := 3) rfl; have a4 := cell_heap ga (j := 4) rfl; have a5 := cell_heap ga (j := 5) rfl; have a6 := cell_heap ga (j := 6) rfl; have b0 := cell_heap gb (j := 0) rfl; have b1 := cell_heap gb (j := 1) rfl; have b2 := cell_heap gb (j := 2) rfl; have b3 := cell_heap gb (j := 3) rfl; have b4 := cell_heap gb (j := 4) rfl; have b5 := cell_heap gb (j := 5) rfl; have b6 := cell_heap gb (j := 6) rfl; have fa0 := fr_heap ga 0; have fb0 := fr_heap gb 0; have fa1 := fr_heap ga 1; have fb1 := fr_heap gb 1; have fa2 := fr_heap ga 2; have fb2 := fr_heap gb 2; have fa3 := fr_heap ga 3; have fb3 := fr_heap gb 3; have fa4 := fr_heap ga 4; have fb4 := fr_heap gb 4; have fa5 := fr_heap ga 5; have fb5 := fr_heap gb 5; have fa6 := fr_heap ga 6; have fb6 := fr_heap gb 6; have HGa := hid ga; have HGb := hid gb; clear ga gb hC1)
        | (go_at_call 56; refine (HC2.out _ HA.out).mono ?_; rintro e wc ⟨v', rfl, H2⟩; obtain ⟨fe', ⟨pl', si', z1, m1, d1, sI, z2, m2, d2, sE, z3, m3, d3, sU⟩, zx, zn, zc, sN⟩ := v'; dsimp only; obtain ⟨G0, Gl, GN, o2, e2, bq2, n2'⟩ := H2.out; have HB2 := hid bq2; have ga := (bq2.block w.heap.size (lt_heap HGa.out)).trans HGa.out; have gb := (bq2.block (w.heap.size + 1) (lt_heap HGb.out)).trans HGb.out; replace a0 := cell_heap ga (j := 0) rfl; replace fa0 := fr_heap ga 0; replace a1 := cell_heap ga (j := 1) rfl; replace fa1 := fr_heap ga 1; replace a2 := cell_heap ga (j := 2) rfl; replace fa2 := fr_heap ga 2; replace a3 := cell_heap ga (j := 3) rfl; replace fa3 := fr_heap ga 3; replace a4 := cell_heap ga (j := 4) rfl; replace fa4 := fr_heap ga 4; replace a5 := cell_heap ga (j := 5) rfl; replace fa5 := fr_heap ga 5; replace a6 := cell_heap ga (j := 6) rfl; replace fa6 := fr_heap ga 6; have HGc := hid ga; have HGd := hid gb; have HO2 := hid (And.intro o2 (And.intro e2 n2')); clear ga gb H2 o2 e2 bq2 n2' b0 b1 b2 b3 b4 b5 b6 fb0 fb1 fb2 fb3 fb4 fb5 fb6))
      have e7 : ((((((wc.setCell ⟨w.heap.size, 0, none⟩ (.int .i64 fe')).setCell ⟨w.heap.size, 1, none⟩ (.int .i64 pl')).setCell ⟨w.heap.size, 2, none⟩ (.int .i64 si')).setCell ⟨w.heap.size, 3, none⟩ (.slice z1 m1 d1)).setCell ⟨w.heap.size, 4, none⟩ (.slice z2 m2 d2)).setCell ⟨w.heap.size, 5, none⟩ (.slice z3 m3 d3)).setCell ⟨w.heap.size, 6, none⟩ (.slice zx zn zc) = put7 wc w.heap.size ⟨fe', ⟨pl', si', z1, m1, d1, sI, z2, m2, d2, sE, z3, m3, d3, sU⟩, zx, zn, zc, sN⟩ := by simp only [put7]
      rw [e7]
      have hg := put7_box HGc.out rfl ⟨fe', ⟨pl', si', z1, m1, d1, sI, z2, m2, d2, sE, z3, m3, d3, sU⟩, zx, zn, zc, sN⟩
      have t7 := turns_put7 wc w.heap.size ⟨fe', ⟨pl', si', z1, m1, d1, sI, z2, m2, d2, sE, z3, m3, d3, sU⟩, zx, zn, zc, sN⟩
      have hg2 := (t7.block (w.heap.size + 1) (lt_heap HGd.out) (by omega)).trans HGd.out
      unfold HCells at hg
      generalize put7 wc w.heap.size ⟨fe', ⟨pl', si', z1, m1, d1, sI, z2, m2, d2, sE, z3, m3, d3, sU⟩, zx, zn, zc, sN⟩ = wS at *
      clear e7 a0 a1 a2 a3 a4 a5 a6 fa0 fa1 fa2 fa3 fa4 fa5 fa6
      have a0 := cell_heap hg (j := 0) rfl
      have b0 := cell_heap hg2 (j := 0) rfl
      have fb0 := fr_heap hg2 0
      have a1 := cell_heap hg (j := 1) rfl
      have b1 := cell_heap hg2 (j := 1) rfl
      have fb1 := fr_heap hg2 1
      have a2 := cell_heap hg (j := 2) rfl
      have b2 := cell_heap hg2 (j := 2) rfl
      have fb2 := fr_heap hg2 2
      have a3 := cell_heap hg (j := 3) rfl
      have b3 := cell_heap hg2 (j := 3) rfl
      have fb3 := fr_heap hg2 3
      have a4 := cell_heap hg (j := 4) rfl
      have b4 := cell_heap hg2 (j := 4) rfl
      have fb4 := fr_heap hg2 4
      have a5 := cell_heap hg (j := 5) rfl
      have b5 := cell_heap hg2 (j := 5) rfl
      have fb5 := fr_heap hg2 5
      have a6 := cell_heap hg (j := 6) rfl
      have b6 := cell_heap hg2 (j := 6) rfl
      have fb6 := fr_heap hg2 6
      have fa0 := fr_heap hg 0
      (try dsimp only at a0 a1 a2 a3 a4 a5 a6)
      have HT := hid (t7.weak (G := fun k => k = w.heap.size ∨ k = w.heap.size + 1) fun k hk => .inl hk)
      have HG := hid hg
      have HGe := hid hg2
      clear hg hg2 t7
      have hfe : fe' = fe := by
        have := congrArg Hld.fe HO2.out.2.1
        rw [HHH.out] at this
        exact this
      by_cases hlt : since < fe
      · have hlt' : since < fe' := by omega
        go_wp2_with (go_at_call 42; refine (HC3.out _).mono ?_; rintro e w3 ⟨rfl, hw⟩; subst w3)
        refine bodyPost_ret (v := .tuple #[vH ⟨fe', ⟨pl', si', z1, m1, d1, sI, z2, m2, d2, sE, z3, m3, d3, sU⟩, zx, zn, zc, sN⟩, .int .i64 7]) ?_ rfl ?_
        · rw [results_cell2 rfl]
          unfold vH
          go_simp
        · refine HFin.out wa wc _ G0 Gl GN ⟨fe', ⟨pl', si', z1, m1, d1, sI, z2, m2, d2, sE, z3, m3, d3, sU⟩, zx, zn, zc, sN⟩ HH 7 HA.out HB2.out HO2.out.1 HO2.out.2.1 HO2.out.2.2 (HT.out.trans ?_) (by rw [HP.out]; simp [hlt])
          repeat (first | (with_reducible refine Turns.two ?_ (by first | exact .inl rfl | exact .inr rfl) _) | with_reducible exact Turns.refl _ _)
      · have hlt' : ¬ since < fe' := by omega
        go_upto_region 9 with (go_at_call 42; refine (HC3.out _).mono ?_; rintro e w3 ⟨rfl, hw⟩; subst w3)
        have hg3 := heap_set HG.out (j := 0) (.int .i64 since)
        have t3 := Turns.two (q := w.heap.size + 1) (Turns.refl _ wS) (g := w.heap.size) (o := 0) (.inl rfl) (.int .i64 since)
        have hg4 := (put_block (g := w.heap.size) (k := 0) (v := .int .i64 since) (lt_heap HGe.out) (by omega)).trans HGe.out
        have HT2 := hid (HT.out.trans t3)
        generalize wS.setCell ⟨w.heap.size, 0, none⟩ (.int .i64 since) = wT at *
        replace a0 := cell_heap hg3 (j := 0) rfl
        replace b0 := cell_heap hg4 (j := 0) rfl
        replace fb0 := fr_heap hg4 0
        replace a1 := cell_heap hg3 (j := 1) rfl
        replace b1 := cell_heap hg4 (j := 1) rfl
        replace fb1 := fr_heap hg4 1
        replace a2 := cell_heap hg3 (j := 2) rfl
        replace b2 := cell_heap hg4 (j := 2) rfl
        replace fb2 := fr_heap hg4 2
        replace a3 := cell_heap hg3 (j := 3) rfl
        replace b3 := cell_heap hg4 (j := 3) rfl
        replace fb3 := fr_heap hg4 3
        replace a4 := cell_heap hg3 (j := 4) rfl
        replace b4 := cell_heap hg4 (j := 4) rfl
        replace fb4 := fr_heap hg4 4
        replace a5 := cell_heap hg3 (j := 5) rfl
        replace b5 := cell_heap hg4 (j := 5) rfl
        replace fb5 := fr_heap hg4 5
        replace a6 := cell_heap hg3 (j := 6) rfl
        replace b6 := cell_heap hg4 (j := 6) rfl
        replace fb6 := fr_heap hg4 6
        (try simp at a0 a1 a2 a3 a4 a5 a6)
        clear hg3 hg4 t3 fa0
        go_wp2_with fail
        refine bodyPost_ret (v := .tuple #[vH ⟨since, ⟨pl', si', z1, m1, d1, sI, z2, m2, d2, sE, z3, m3, d3, sU⟩, zx, zn, zc, sN⟩, .int .i64 0]) ?_ rfl ?_
        · rw [results_cell2 rfl]
          unfold vH
          go_simp
        · refine HFin.out wa wc _ G0 Gl GN ⟨since, ⟨pl', si', z1, m1, d1, sI, z2, m2, d2, sE, z3, m3, d3, sU⟩, zx, zn, zc, sN⟩ ⟨since, HH.now, HH.nx⟩ 0 HA.out HB2.out (HO2.out.1.fence since) (by have := HO2.out.2.1; rw [← this]; rfl) HO2.out.2.2 (HT2.out.trans ?_) (by rw [HP.out]; simp [hlt])
          repeat (first | (with_reducible refine Turns.two ?_ (by first | exact .inl rfl | exact .inr rfl) _) | with_reducible exact Turns.refl _ _)

end Go.Proofs.Ytnfflmndejbepaa.Sh
