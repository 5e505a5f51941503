/-
  The steps of the law: a value is asked for; acceptors accept.
  Conditions: none.
-/
import Derived.Test.YtlfeafbpknbbfaaBaLoop
namespace Go.Proofs.Ytlfeafbpknbbfaa.Ba
open Go.RowKit By Fl
set_option linter.unusedVariables false
set_option linter.unusedSimpArgs false
set_option maxRecDepth 100000

section
variable {w w' w2 wv : World} {n m : Nat} {V : Nat → AccV} {Q : Nat → PrV} {seen : Bt}

theorem mem_ask (h : MemA w w2 n V Q seen) (hm : m < 7) (y : Option Addr) (mm cy : Nat) (d : List Nat) (hv : Sv w2 y mm cy d) :
    MemA w ((w2.setCell ⟨w.heap.size + 1, m * 5 + 3, none⟩ (.slice y mm cy)).setCell ⟨w.heap.size + 1, m * 5 + 4, none⟩ (.bool true)) n V (up Q m { Q m with x := y, n := mm, c := cy, d := d, ask := true }) seen := by
  have t : Turns (atB (w.heap.size + 1)) w2 ((w2.setCell ⟨w.heap.size + 1, m * 5 + 3, none⟩ (.slice y mm cy)).setCell ⟨w.heap.size + 1, m * 5 + 4, none⟩ (.bool true)) :=
    ((Turns.refl (atB (w.heap.size + 1)) w2).setCell (p := ⟨w.heap.size + 1, m * 5 + 3, none⟩) (.inl rfl) _).setCell (p := ⟨w.heap.size + 1, m * 5 + 4, none⟩) (.inl rfl) _
  have hG : ∀ i, atB (w.heap.size + 1) i → ¬ Tb w2 i 5 := fun i hi => (h.own4 (.inr (.inl hi))).2
  refine h.setP t m hm _ ?_ (hv.turns t hG) (h.pval m hm).2 ?_ (fun a m' e hm' hne => h.dis m m' a hm hm' (Ne.symm hne) e)
  · refine ((h.prs.set m 3 _ hm (by omega) rfl _).set m 4 _ hm (by omega) rfl _).congr (fun i j hi hj => ?_)
    unfold set1
    by_cases e : i = m
    · subst e
      rw [up_same]
      match j, hj with
      | 0, _ => simp [prC]
      | 1, _ => simp [prC]
      | 2, _ => simp [prC]
      | 3, _ => simp [prC]
      | 4, _ => simp [prC]
    · rw [up_other _ _ e]
      simp [e]
  · exact MapP.turns (q := { Q m with x := y, n := mm, c := cy, d := d, ask := true }) (h.map m hm) t (fun a ha e => (h.mapne hm ha).2.1 e) hG

/- One more of those who promised. -/
theorem told_push {M : Nat → Option AccV} {B j tn tc : Nat} {x : Option Addr} (ho : Own wv B 26 5 encA (.slice x tn tc) (told M j)) (hB : B ≤ wv.heap.size) (hj : j ≤ 7) (v : AccV) (hM : M j = some v) (o : Obj) :
    ∃ x' c' wn, (Builtin.append_ #[39, 39] 39 #[.slice x tn tc, .slice (some ⟨wv.heap.size + 1, 0, none⟩) 1 1]).run Try.prog ((wv.alloc o).alloc (.cells #[.int .i64 v.p.1, .int .i64 v.p.2, .int .i64 v.a.1, .int .i64 v.a.2, .slice v.x v.n v.c] 26)) = .ok (.slice x' (tn + 1) c') wn ∧
      Hid (Own wn B 26 5 encA (.slice x' (tn + 1) c') (told M (j + 1)) ∧ Below B wv wn) := by
  have htl := told_len M j
  obtain ⟨x0, c0, e, _⟩ := ho.form
  injection e with _ e2 _
  have ho2 := (ho.below (al wv o)).below (al _ (.cells #[.int .i64 v.p.1, .int .i64 v.p.2, .int .i64 v.a.1, .int .i64 v.a.2, .slice v.x v.n v.c] 26))
  have hh : ((wv.alloc o).alloc (.cells #[.int .i64 v.p.1, .int .i64 v.p.2, .int .i64 v.a.1, .int .i64 v.a.2, .slice v.x v.n v.c] 26)).heap[wv.heap.size + 1]? = some (.cells #[.int .i64 v.p.1, .int .i64 v.p.2, .int .i64 v.a.1, .int .i64 v.a.2, .slice v.x v.n v.c] 26 (0, 0)) := by
    have := heap_alloc_new (wv.alloc o) (.cells #[.int .i64 v.p.1, .int .i64 v.p.2, .int .i64 v.a.1, .int .i64 v.a.2, .slice v.x v.n v.c] 26)
    have e : (wv.alloc o).heap.size = wv.heap.size + 1 := by simp
    rwa [e] at this
  obtain ⟨x', c', wn, h1, h2⟩ := ho2.push arow (by simp; omega) ⟨wv.heap.size + 1, 0, none⟩ 1 1 [v] rfl (fun i u hu => by
    rw [add_at, Nat.zero_add]
    unfold World.cell?
    rw [hh]
    have e : flat encA [v] = [.int .i64 v.p.1, .int .i64 v.p.2, .int .i64 v.a.1, .int .i64 v.a.2, .slice v.x v.n v.c] := by simp [flat, encA]
    rw [e] at hu
    simpa using hu) (by omega)
  rw [← e2] at h1 h2
  refine ⟨x', c', wn, h1, ?_, ?_⟩
  · have := h2.out.1
    rw [told_succ, hM]
    exact this
  · have b2 : Below wv.heap.size wv ((wv.alloc o).alloc (.cells #[.int .i64 v.p.1, .int .i64 v.p.2, .int .i64 v.a.1, .int .i64 v.a.2, .slice v.x v.n v.c] 26)) := on (al _ _) (al _ _)
    exact (b2.mono hB).trans (h2.out.2.1.below (fun k hk => (ho.tb hk).1) (Nat.le_trans hB b2.size))

theorem one_sl (w : World) (val : Nat) (h : val < 256) : Sl (w.alloc (.cells #[.int .u8 (val : Int)] 5)) (some ⟨w.heap.size, 0, none⟩) 1 1 [val] := by
  have hh : (w.alloc (.cells #[.int .u8 (val : Int)] 5)).heap[w.heap.size]? = some (.cells #[.int .u8 (val : Int)] 5 (0, 0)) := heap_alloc_new _ _
  refine ⟨rfl, Nat.le_refl _, (fun e => by cases e), .inr ⟨w.heap.size, 0, rfl, by simp, fun i hi => ?_⟩, fun v hv => by simp at hv; omega⟩
  obtain rfl : i = 0 := by omega
  unfold World.cell?
  rw [hh]
  rfl

/- Within the loop of those who accept. -/
def P4 (w wv : World) (n m rs : Nat) (seen : Bt) (at_ : Nat) (fx : Option Addr) (fn fc : Nat) (sb : Bool) (V : Nat → AccV) (Q : Nat → PrV) : Prop :=
  MemA w wv n V Q seen ∧ (∃ fd, Gd n seen V Q (if sb = true then some fd else none) ∧ Sv wv fx fn fc fd) ∧ (Q m).ask = true ∧ wv.cell? ⟨rs, 2, none⟩ = some (.int .u8 (at_ : Int))

variable {rs at_ fn fc j : Nat} {fx : Option Addr} {sb : Bool}

theorem P4.below (h : P4 w wv n m rs seen at_ fx fn fc sb V Q) (b : Below wv.heap.size wv w') : P4 w w' n m rs seen at_ fx fn fc sb V Q := by
  obtain ⟨h1, ⟨fd, h2, h3⟩, h4, h5⟩ := h
  exact ⟨h1.below b, ⟨fd, h2, h3.below b⟩, h4, keep b h5⟩

theorem P4.set (h : P4 w wv n m rs seen at_ fx fn fc sb V Q) (hj : j < n) (hr : rs ≠ w.heap.size) (v : AccV) (hv : Sv wv v.x v.n v.c v.d) (hw : bwf v.a) (hg : ∀ F, Gd n seen V Q F → Gd n seen (up V j v) Q F) :
    P4 w (w5 wv w.heap.size (j * 5) (.int .i64 v.p.1) (.int .i64 v.p.2) (.int .i64 v.a.1) (.int .i64 v.a.2) (.slice v.x v.n v.c)) n m rs seen at_ fx fn fc sb (up V j v) Q := by
  obtain ⟨h1, ⟨fd, h2, h3⟩, h4, h5⟩ := h
  have t5 := w5_turns wv w.heap.size (j * 5) (.int .i64 v.p.1) (.int .i64 v.p.2) (.int .i64 v.a.1) (.int .i64 v.a.2) (.slice v.x v.n v.c)
  have hGA : ∀ i, atB w.heap.size i → ¬ Tb wv i 5 := fun i hi => (h1.own4 (.inl hi)).2
  refine ⟨h1.setA t5 j hj v ?_ (hv.turns t5 hGA) hw, ⟨fd, hg _ h2, h3.turns t5 hGA⟩, h4, keepn t5 hr h5⟩
  rw [up_fun accC]
  exact w5_arr h1.all j hj (accC v) _ _ _ _ _ rfl rfl rfl rfl rfl

theorem P4.yes (h : P4 w wv n m rs seen at_ fx fn fc sb V Q) (hm : m < 7) (hj : j < n) (hr : rs ≠ w.heap.size) (hf : freeb (V j).p (V j).a (V j).n (Q m).b = true) (y : Option Addr) (cy : Nat) (hv : Sv wv y (Q m).n cy (Q m).d) :
    ∃ V', P4 w (w5 wv w.heap.size (j * 5) (.int .i64 (Q m).b.1) (.int .i64 (Q m).b.2) (.int .i64 (Q m).b.1) (.int .i64 (Q m).b.2) (.slice y (Q m).n cy)) n m rs seen at_ fx fn fc sb V' Q := by
  have hl : ltb (Q m).b (V j).p = false := by
    unfold freeb at hf
    simp only [Bool.and_eq_true, Bool.not_eq_true'] at hf
    exact hf.2
  exact ⟨_, h.set hj hr ⟨(Q m).b, (Q m).b, y, (Q m).n, cy, (Q m).d⟩ hv (h.1.pval m hm).2 (fun F hg => hg.accept m hm h.2.2.1 j hj hl _ rfl rfl rfl)⟩

theorem P4.no (h : P4 w wv n m rs seen at_ fx fn fc sb V Q) (hj : j < n) (hr : rs ≠ w.heap.size) (y : Option Addr) (cy : Nat) (hv : Sv wv y (V j).n cy (V j).d) :
    ∃ V', P4 w (w5 wv w.heap.size (j * 5) (.int .i64 (V j).p.1) (.int .i64 (V j).p.2) (.int .i64 (V j).a.1) (.int .i64 (V j).a.2) (.slice y (V j).n cy)) n m rs seen at_ fx fn fc sb V' Q :=
  ⟨_, h.set hj hr ⟨(V j).p, (V j).a, y, (V j).n, cy, (V j).d⟩ hv (h.1.val j hj).2 (fun F hg => hg.same j _ rfl rfl rfl)⟩

end

end Go.Proofs.Ytlfeafbpknbbfaa.Ba
