/-
  The steps of the law: a proposer begins; acceptors promise; a value is asked for; acceptors accept.
  Conditions: none.
-/
import Derived.Test.YtlfeafbpknbbfaaBaInit
namespace Go.Proofs.Ytlfeafbpknbbfaa.Ba
open Go.RowKit By Fl
set_option linter.unusedVariables false
set_option linter.unusedSimpArgs false
set_option maxRecDepth 100000

theorem st_mapset {P : Program} {w w' : World} {ops : Array Oper} {o : Oper} {a : Act} {K : Act → World → Prop} {Q : Exit → Act → World → Prop} (hg : Region.wanted o (yielded ops a.tmps) = true) (m x v : Operand) (t : TypeId)
    (ho : o.op = .mapUpdate t m x v) (v1 v2 v3 : Value) (hm : a.eval m = v1) (hx : a.eval x = v2) (hv : a.eval v = v3) (hr : (Instr.mapUpdate t v1 v2 v3).run P w = .ok () w')
    (h : K (a.put o.dst (.tuple #[])) w') : if Region.wanted o (yielded ops a.tmps) = true then Oper.wp P o a w K Q else K (a.put o.dst undef) w := by
  rw [if_pos hg]
  unfold Oper.wp execOp
  simp only [ho, Sem.run_bind, Sem.run_pure, Result.andThen_ok, hm, hx, hv, hr]
  exact h

theorem new_cells (W : World) (g : Nat) (hg : W.heap.size = g) (u0 u1 : Value) (t : TypeId) (o : Obj) : ((W.alloc (.cells #[u0, u1] t)).alloc o).cell? ⟨g, 0, none⟩ = some u0 ∧ ((W.alloc (.cells #[u0, u1] t)).alloc o).cell? ⟨g, 1, none⟩ = some u1 := by
  subst hg
  have h : (W.alloc (.cells #[u0, u1] t)).heap[W.heap.size]? = some (.cells #[u0, u1] t (0, 0)) := heap_alloc_new _ _
  refine ⟨keep (al _ _) ?_, keep (al _ _) ?_⟩
  · unfold World.cell?
    rw [h]
    rfl
  · unfold World.cell?
    rw [h]
    rfl

def w5 (w : World) (g o : Nat) (u0 u1 u2 u3 u4 : Value) : World := ((((w.setCell ⟨g, o, none⟩ u0).setCell ⟨g, o + 1, none⟩ u1).setCell ⟨g, o + 2, none⟩ u2).setCell ⟨g, o + 3, none⟩ u3).setCell ⟨g, o + 4, none⟩ u4

theorem w5_turns (w : World) (g o : Nat) (u0 u1 u2 u3 u4 : Value) : Turns (atB g) w (w5 w g o u0 u1 u2 u3 u4) :=
  (((((Turns.refl (atB g) w).setCell (p := ⟨g, o, none⟩) (.inl rfl) _).setCell (p := ⟨g, o + 1, none⟩) (.inl rfl) _).setCell (p := ⟨g, o + 2, none⟩) (.inl rfl) _).setCell (p := ⟨g, o + 3, none⟩) (.inl rfl) _).setCell (p := ⟨g, o + 4, none⟩) (.inl rfl) _

theorem w5_arr {w : World} {g n : Nat} {t : TypeId} {f : Nat → Nat → Value} (h : Arr w g t n f) (k : Nat) (hk : k < n) (u : Nat → Value) (u0 u1 u2 u3 u4 : Value) (e0 : u 0 = u0) (e1 : u 1 = u1) (e2 : u 2 = u2) (e3 : u 3 = u3) (e4 : u 4 = u4) : Arr (w5 w g (k * 5) u0 u1 u2 u3 u4) g t n (up f k u) := by
  refine (((((h.set k 0 (k * 5) hk (by omega) rfl u0).set k 1 _ hk (by omega) rfl u1).set k 2 _ hk (by omega) rfl u2).set k 3 _ hk (by omega) rfl u3).set k 4 _ hk (by omega) rfl u4).congr (fun i j hi hj => ?_)
  subst e0 e1 e2 e3 e4
  unfold set1
  by_cases e : i = k
  · subst e
    rw [up_same]
    match j, hj with
    | 0, _ => simp
    | 1, _ => simp
    | 2, _ => simp
    | 3, _ => simp
    | 4, _ => simp
  · rw [up_other _ _ e]
    simp [e]

theorem up_fun {α : Type} (g : α → Nat → Value) (f : Nat → α) (k : Nat) (v : α) : (fun i => g (up f k v i)) = up (fun i => g (f i)) k (g v) := up_map g f k v

section
variable {w w' w1 wv : World} {n m : Nat} {V : Nat → AccV} {Q : Nat → PrV} {seen nb : Bt} {F : Option (List Nat)}

abbrev MemA (w wv : World) (n : Nat) (V : Nat → AccV) (Q : Nat → PrV) (seen : Bt) : Prop := Mem w wv n w.heap.size (w.heap.size + 1) (w.heap.size + 1 + 1) V Q seen

def newPr (b : Bt) (mb : Nat) : PrV := ⟨b, some mb, none, 0, 0, [], false, fun _ => none⟩

/- A proposer begins. -/
theorem mem_start (h : MemA w w1 n V Q seen) (hm : m < 7) (b : Bt) (hb : bwf b) (o : Obj) :
    MemA w (((w5 ((w1.setCell ⟨w.heap.size + 1 + 1, 0, none⟩ (.int .i64 b.1)).setCell ⟨w.heap.size + 1 + 1, 1, none⟩ (.int .i64 b.2)) (w.heap.size + 1) (m * 5) (.int .i64 b.1) (.int .i64 b.2) (.map (some (w1.heap.size + 1))) (.slice none 0 0) (.bool false)).alloc o).alloc (.map #[] 0)) n V (up Q m (newPr b (w1.heap.size + 1))) b ∧
    MpAt (((w5 ((w1.setCell ⟨w.heap.size + 1 + 1, 0, none⟩ (.int .i64 b.1)).setCell ⟨w.heap.size + 1 + 1, 1, none⟩ (.int .i64 b.2)) (w.heap.size + 1) (m * 5) (.int .i64 b.1) (.int .i64 b.2) (.map (some (w1.heap.size + 1))) (.slice none 0 0) (.bool false)).alloc o).alloc (.map #[] 0)) (w1.heap.size + 1) 0 (.map []) (fun _ => none) := by
  have h1 := h.setS b
  obtain ⟨wa, ea⟩ : ∃ wa, wa = (w1.setCell ⟨w.heap.size + 1 + 1, 0, none⟩ (.int .i64 b.1)).setCell ⟨w.heap.size + 1 + 1, 1, none⟩ (.int .i64 b.2) := ⟨_, rfl⟩
  have sa : wa.heap.size = w1.heap.size := by rw [ea]; simp
  rw [← ea] at h1 ⊢
  obtain ⟨wb, eb⟩ : ∃ wb, wb = w5 wa (w.heap.size + 1) (m * 5) (.int .i64 b.1) (.int .i64 b.2) (.map (some (w1.heap.size + 1))) (.slice none 0 0) (.bool false) := ⟨_, rfl⟩
  have sb : wb.heap.size = w1.heap.size := by rw [eb]; unfold w5; simp [sa]
  have tb : Turns (atB (w.heap.size + 1)) wa wb := eb ▸ w5_turns _ _ _ _ _ _ _ _
  have ab : Arr wb (w.heap.size + 1) 46 7 (fun i => prC (up Q m (newPr b (w1.heap.size + 1)) i)) := by
    rw [eb, up_fun prC]
    exact w5_arr h1.prs m hm (prC (newPr b (w1.heap.size + 1))) _ _ _ _ _ rfl rfl rfl rfl rfl
  rw [← eb]
  have hM : MpAt ((wb.alloc o).alloc (.map #[] 0)) (w1.heap.size + 1) 0 (.map []) (fun _ => none) := by
    have := MpAt.new (wb.alloc o)
    have e : (wb.alloc o).heap.size = w1.heap.size + 1 := by simp [sb]
    rwa [e] at this
  refine ⟨h1.setP ((tb.alloc o).alloc _) m hm _ ((ab.below (al _ _)).below (al _ _)) (Sv.nil _) hb (.inr ⟨w1.heap.size + 1, 0, _, rfl, by have := h.bel.size; omega, hM⟩) (fun a m' ea hm' hne e => ?_), hM⟩
  injection ea with ea
  subst ea
  have := (h.mapne hm' e).2.2.2.2
  obtain ⟨es, c, hh⟩ := this
  have := (Array.getElem?_eq_some_iff.1 hh).1
  omega

/- Within the loop of those who promise. -/
def P2 (w wv : World) (n m mb rs bs : Nat) (nb : Bt) (at_ : Nat) (fx : Option Addr) (fn fc : Nat) (sb : Bool) (j : Nat) (V : Nat → AccV) (Q : Nat → PrV) : Prop :=
  MemA w wv n V Q nb ∧ (∃ fd, Gd n nb V Q (if sb = true then some fd else none) ∧ Sv wv fx fn fc fd) ∧ (Q m).b = nb ∧ (Q m).ask = false ∧ (Q m).mp = some mb ∧ (∀ i, j ≤ i → (Q m).M i = none) ∧ (∃ cb D, MpAt wv mb cb D (Q m).M ∧ cb ≤ j) ∧
    wv.cell? ⟨rs, 2, none⟩ = some (.int .u8 (at_ : Int)) ∧ wv.cell? ⟨bs, 0, none⟩ = some (.int .i64 nb.1) ∧ wv.cell? ⟨bs, 1, none⟩ = some (.int .i64 nb.2)

variable {mb rs bs at_ fn fc j : Nat} {fx : Option Addr} {sb : Bool}

theorem P2.below (h : P2 w wv n m mb rs bs nb at_ fx fn fc sb j V Q) (b : Below wv.heap.size wv w') : P2 w w' n m mb rs bs nb at_ fx fn fc sb j V Q := by
  obtain ⟨h1, ⟨fd, h2, h3⟩, h4, h5, h6, h7, ⟨cb, D, h8, h9⟩, k1, k2, k3⟩ := h
  exact ⟨h1.below b, ⟨fd, h2, h3.below b⟩, h4, h5, h6, h7, ⟨cb, D, h8.turns (Turns.of_below (F := fun _ => False) b) (fun h => h) (fun _ h => h.elim), h9⟩, keep b k1, keep b k2, keep b k3⟩

theorem P2.next (h : P2 w wv n m mb rs bs nb at_ fx fn fc sb j V Q) : P2 w wv n m mb rs bs nb at_ fx fn fc sb (j + 1) V Q := by
  obtain ⟨h1, h2, h4, h5, h6, h7, ⟨cb, D, h8, h9⟩, k⟩ := h
  exact ⟨h1, h2, h4, h5, h6, fun i hi => h7 i (by omega), ⟨cb, D, h8, by omega⟩, k⟩

theorem P2.put (h : P2 w wv n m mb rs bs nb at_ fx fn fc sb j V Q) (hm : m < 7) (hz : lt z0 nb) (hj : j < n) (hr : rs ≠ w.heap.size ∧ rs ≠ mb) (hs : bs ≠ w.heap.size ∧ bs ≠ mb) (y : Option Addr) (cy : Nat) (hv : Sv wv y (V j).n cy (V j).d) :
    ∃ wm, (Instr.mapUpdate 44 (.map (some mb)) (.int .i64 (j : Int)) (av (V j))).run Try.prog wv = .ok () wm ∧ Turns (atB mb) wv wm ∧ Arr wm w.heap.size 26 n (fun k => accC (V k)) ∧
      ∃ V' Q', P2 w (w5 wm w.heap.size (j * 5) (.int .i64 nb.1) (.int .i64 nb.2) (.int .i64 (V j).a.1) (.int .i64 (V j).a.2) (.slice y (V j).n cy)) n m mb rs bs nb at_ fx fn fc sb (j + 1) V' Q' := by
  obtain ⟨h1, ⟨fd, h2, h3⟩, h4, h5, h6, h7, ⟨cb, D, h8, h9⟩, k1, k2, k3⟩ := h
  have hn7 := h1.n7
  obtain ⟨wm, D', q1, q2, q3⟩ := h8.put j (by omega) (h7 j (Nat.le_refl _)) h9 (V j) (h1.val j hj).1 (h1.val j hj).2
  have hmn := h1.mapne hm h6
  have hG : ∀ i, atB mb i → ¬ Tb wv i 5 := fun i hi => by
    have e : i = mb := hi
    rw [e]
    exact fun tb => tb.not_map hmn.2.2.2.2
  have g1 := h1.setM hm h6 q3 q2
  have hGA : ∀ i, atB w.heap.size i → ¬ Tb wm i 5 := fun i hi => by
    have e : i = w.heap.size := hi
    rw [e]
    exact fun tb => by have := tb.same g1.all.tb; revert this; decide
  have t5 := w5_turns wm w.heap.size (j * 5) (.int .i64 nb.1) (.int .i64 nb.2) (.int .i64 (V j).a.1) (.int .i64 (V j).a.2) (.slice y (V j).n cy)
  have hv2 : Sv (w5 wm w.heap.size (j * 5) (.int .i64 nb.1) (.int .i64 nb.2) (.int .i64 (V j).a.1) (.int .i64 (V j).a.2) (.slice y (V j).n cy)) y (V j).n cy (V j).d := (hv.turns q3 hG).turns t5 hGA
  refine ⟨wm, q1, q3, g1.all, up V j ⟨nb, (V j).a, y, (V j).n, cy, (V j).d⟩, up Q m { Q m with M := up (Q m).M j (some (V j)) }, ?_⟩
  refine ⟨g1.setA t5 j hj ⟨nb, (V j).a, y, (V j).n, cy, (V j).d⟩ ?_ hv2 (h1.val j hj).2, ⟨fd, h2.promise m hm h4 hz h5 j hj _ rfl rfl rfl, (h3.turns q3 hG).turns t5 hGA⟩, by rw [up_same]; exact h4, by rw [up_same]; exact h5, by rw [up_same]; exact h6, fun i hi => ?_, ⟨cb + 1, D', ?_, by omega⟩,
    keepn t5 hr.1 (keepn q3 hr.2 k1), keepn t5 hs.1 (keepn q3 hs.2 k2), keepn t5 hs.1 (keepn q3 hs.2 k3)⟩
  · rw [up_fun accC]
    exact w5_arr g1.all j hj (accC ⟨nb, (V j).a, y, (V j).n, cy, (V j).d⟩) _ _ _ _ _ rfl rfl rfl rfl rfl
  · rw [up_same]
    show up (Q m).M j (some (V j)) i = none
    rw [up_other _ _ (by omega)]
    exact h7 i (by omega)
  · rw [up_same]
    exact q2.turns t5 (fun e => hmn.1 e) hGA

end

end Go.Proofs.Ytlfeafbpknbbfaa.Ba
