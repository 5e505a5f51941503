/-
  3 texts of this proof, one behind the other: MoMem, MoFollow, MoFollow2.
-/
import Derived.Test.YtdlajpjigddbhaaGreatJ21
import Derived.Test.YtdlajpjigddbhaaGreatJ23
import Derived.Test.YtdlajpjigddbhaaGreatJ20
/-
  A monitor of maps as it lies in memory: a node, and the chain of maps that follows from its decrees.
  Conditions: none.
-/
namespace Go.Proofs.YtdlajpjigddbhaaGreat.Mo
open Go.RowKit Wi By Fl Px At
set_option linter.unusedVariables false
set_option linter.unusedSimpArgs false
set_option maxRecDepth 100000

def moV (p : Nat) (r : Nat) (Rc : Value) (m : Mp) (x : Option Addr) (n c : Nat) : Array Value := #[.pointer (some ⟨p, 0, none⟩), .int .i64 (r : Int), Rc, .int .i64 m.ep, .int .i64 m.pool.k, .int .i64 m.pool.m, .int .i64 m.pool.pgs, .int .i64 m.pool.dom, .slice x n c]

theorem tb_turns {G : Nat → Prop} {w w' : World} {k : Nat} {t : TypeId} (h : Tb w k t) (tt : Turns G w w') (hk : ¬ G k) : Tb w' k t := h.of_heap (tt.block k h.lt hk)

theorem os_lt {w : World} {x : Option Addr} {n c : Nat} {L : List Osd} (h : At.Os w x n c L) (h0 : n ≠ 0) (a : Addr) (ha : x = some a) : a.block < w.heap.size := by
  rcases h.row with e | ⟨b, o, e, h1, _⟩
  · exact absurd e h0
  · rw [e] at ha
    injection ha with ha
    rw [← ha]
    exact h1

structure MoAt (w : World) (B q : Nat) (g : Ln) (st : Nd) (r : Nat) (cs : List Ch) (m : Mp) (Rc : Value) (x : Option Addr) (n c : Nat) : Prop where
  obj : w.heap[q]? = some (.cells (moV g.p r Rc m x n c) 67 (0, 0))
  node : NdAt w B g st
  chs : Own w B 37 9 enC Rc cs
  os : At.Os w x n c m.osds
  low : B ≤ q
  qf : ¬ fp g q
  cf : ∀ k, Rc.ownBlock = some k → ¬ fp g k ∧ k ≠ q
  xf : n ≠ 0 → ∀ a, x = some a → ¬ fp g a.block ∧ a.block ≠ q ∧ Rc.ownBlock ≠ some a.block

section
variable {w w' : World} {B q : Nat} {g : Ln} {st : Nd} {r : Nat} {cs : List Ch} {m : Mp} {Rc : Value} {x : Option Addr} {n c : Nat}

theorem MoAt.lt (h : MoAt w B q g st r cs m Rc x n c) : q < w.heap.size := (Array.getElem?_eq_some_iff.1 h.obj).1

theorem MoAt.tq (h : MoAt w B q g st r cs m Rc x n c) : Tb w q 67 := ⟨_, _, h.obj⟩

/- What is turned elsewhere turns nothing. -/
theorem MoAt.turns {G : Nat → Prop} (h : MoAt w B q g st r cs m Rc x n c) (t : Turns G w w') (hf : ∀ k, fp g k → ¬ G k) (hq : ¬ G q) (hc : ∀ k, Rc.ownBlock = some k → ¬ G k) (hx : n ≠ 0 → ∀ a, x = some a → ¬ G a.block) (hu : ∀ k, G k → ¬ Tb w k 5) : MoAt w' B q g st r cs m Rc x n c :=
  ⟨(t.block _ h.lt hq).trans h.obj, h.node.turns t hf hu, h.chs.turns t hc, h.os.turns t hx, h.low, h.qf, h.cf, h.xf⟩

theorem MoAt.below (h : MoAt w B q g st r cs m Rc x n c) (b : Below w.heap.size w w') : MoAt w' B q g st r cs m Rc x n c :=
  h.turns (Turns.of_below (F := fun _ => False) b) (fun _ _ h => h) (fun h => h) (fun _ _ h => h) (fun _ _ _ h => h) (fun _ h => h.elim)

/- Its node goes on. -/
theorem MoAt.goes {st' : Nd} {k : Nat} (h : MoAt w B q g st r cs m Rc x n c) (hg : Goes w w' B g st' k) : ∃ g', MoAt w' B q g' st' r cs m Rc x n c ∧ g'.p = g.p ∧ gnb g' ≤ gnb g + k ∧ Turns (fp g) w w' ∧ ∀ k, fp g' k → fp g k ∨ w.heap.size ≤ k := by
  obtain ⟨g', e, k1, t, k2, k3⟩ := hg
  have hx : ∀ k, k < w.heap.size → ¬ fp g k → ¬ fp g' k := fun k hk hn hf => by
    rcases k3 k hf with q | q
    · exact hn q
    · omega
  refine ⟨g', ⟨?_, k1, h.chs.turns t (fun k hk => (h.cf k hk).1), h.os.turns t (fun h0 a ha => (h.xf h0 a ha).1), h.low, hx _ h.lt h.qf, fun k hk => ⟨hx k (h.chs.tb hk).2.lt (h.cf k hk).1, (h.cf k hk).2⟩, fun h0 a ha => ⟨hx _ (os_lt h.os h0 a ha) (h.xf h0 a ha).1, (h.xf h0 a ha).2⟩⟩, e, k2, t, k3⟩
  rw [e]
  exact (t.block _ h.lt h.qf).trans h.obj

theorem MoAt.c4 (h : MoAt w B q g st r cs m Rc x n c) : w.cell? ⟨q, 4, none⟩ = some (.int .i64 m.pool.k) := cell_heap h.obj rfl

theorem mmade_yes (h : MoAt w B q g st r cs m Rc x n c) (hk : 0 < m.pool.k) : Calls Tryz.prog 27 #[.pointer (some ⟨q, 0, none⟩)] w fun e w' => e = .returned (.bool true) ∧ w' = w := by
  have c4 := h.c4
  clear h
  obtain ⟨ep, ⟨pk, p1, p2, p3⟩, L⟩ := m
  dsimp only at c4 hk
  go_enter Tryz.func27, Tryz.ntmps27
  go_wp2_with fail
  go_ret
  exact ⟨rfl, rfl⟩

theorem mnode_yes (h : MoAt w B q g st r cs m Rc x n c) (hk : 0 < m.pool.k) : Calls Tryz.prog 30 #[.pointer (some ⟨q, 0, none⟩)] w fun e w' => e = .returned (.pointer (some ⟨g.p, 0, none⟩)) ∧ w' = w := by
  have hM := mmade_yes h hk
  have c0 : w.cell? ⟨q, 0, none⟩ = some (.pointer (some ⟨g.p, 0, none⟩)) := cell_heap h.obj rfl
  clear h hk
  go_enter Tryz.func30, Tryz.ntmps30
  go_wp2_with (go_at_call 27; refine hM.mono ?_; rintro e w' ⟨rfl, hw⟩; subst w'; clear hM)
  go_ret
  exact ⟨rfl, rfl⟩

end

theorem chrow : Row 63 37 9 64 enC := by
  have hi : (Tryz.prog.info? 37).map (fun i => (i.zero, i.size, i.bytes)) = some (some (.agg #[.int .i64 0, .int .i64 0, .bool false, .bool false, .int .i64 0, .int .i64 0, .int .i64 0, .int .i64 0, .int .i64 0]), 9, 64) := by kernel_rfl
  obtain ⟨i0, h1, h2, h3, h4⟩ := info_parts hi
  exact ⟨Tryz.underlying63, ⟨i0, _, h1, h2, h3, h4, rfl⟩, by decide, by decide, fun a => rfl, fun a v hv => by simp [enC] at hv; rcases hv with rfl | rfl | rfl | rfl | rfl | rfl | rfl | rfl | rfl <;> rfl⟩

/- One change more, behind a list of one's own. -/
theorem push_ch {W : World} {B : Nat} {R : Value} {L : List Ch} (h : Own W B 37 9 enC R L) (a : Ch) (hB : B ≤ W.heap.size) (hl : L.length ≤ 90000) :
    ∃ x' c' W', (Builtin.append_ #[63, 63] 63 #[R, .slice (some ⟨W.heap.size, 0, none⟩) 1 1]).run Tryz.prog (W.alloc (.cells (enC a).toArray 37)) = .ok (.slice x' (L.length + 1) c') W' ∧
      Hid (Own W' B 37 9 enC (.slice x' (L.length + 1) c') (L ++ [a]) ∧ Turns (fun k => R.ownBlock = some k) W W' ∧ ∀ g, (Value.slice x' (L.length + 1) c').ownBlock = some g → R.ownBlock = some g ∨ W.heap.size ≤ g) := by
  have bx := al W (.cells (enC a).toArray 37)
  have ob := heap_alloc_new W (.cells (enC a).toArray 37)
  obtain ⟨x', c', W', hr, H⟩ := (h.below bx).push chrow (by simp; omega) ⟨W.heap.size, 0, none⟩ 1 1 [a] rfl (fun j u hj => by
    rw [add_at, Nat.zero_add]
    refine cell_heap ob ?_
    rw [flat] at hj
    simpa using hj) (by omega)
  refine ⟨x', c', W', hr, H.out.1, (Turns.of_below bx).trans H.out.2.1, fun g hg => ?_⟩
  rcases H.out.2.2 g hg with e | e
  · exact .inl e
  · refine .inr ?_
    rw [e]
    simp

end Go.Proofs.YtdlajpjigddbhaaGreat.Mo

/-
  Package monitor: follow: one decree more.
  Conditions: the decree's bytes lie elsewhere.
-/
namespace Go.Proofs.YtdlajpjigddbhaaGreat.Mo
open Go.RowKit Wi By Fl Px At
set_option linter.unusedVariables false
set_option linter.unusedSimpArgs false
set_option maxRecDepth 100000

/- What a decree turns. -/
def stepC (cs : List Ch) (m : Mp) (l : List Nat) : List Ch × Mp := if (decC l).2 = true ∧ (applyP m (decC l).1).1 = 0 then (cs ++ [(decC l).1], (applyP m (decC l).1).2) else (cs, m)

def put6 (w : World) (g : Nat) (v0 v1 v2 v3 v4 v5 : Value) : World := ((((((w.setCell ⟨g, 0, none⟩ v0).setCell ⟨g, 1, none⟩ v1).setCell ⟨g, 2, none⟩ v2).setCell ⟨g, 3, none⟩ v3).setCell ⟨g, 4, none⟩ v4).setCell ⟨g, 5, none⟩ v5)
def put6m (w : World) (g : Nat) (v0 v1 v2 v3 v4 v5 : Value) : World := ((((((w.setCell ⟨g, 3, none⟩ v0).setCell ⟨g, 4, none⟩ v1).setCell ⟨g, 5, none⟩ v2).setCell ⟨g, 6, none⟩ v3).setCell ⟨g, 7, none⟩ v4).setCell ⟨g, 8, none⟩ v5)

theorem put6_turns (w : World) (g : Nat) (v0 v1 v2 v3 v4 v5 : Value) : Turns (fun k => k = g) w (put6 w g v0 v1 v2 v3 v4 v5) := (At.turns_put (At.turns_put (At.turns_put (At.turns_put (At.turns_put (At.turns_put (Turns.refl _ _) _ _) _ _) _ _) _ _) _ _) _ _)
theorem put6m_turns (w : World) (g : Nat) (v0 v1 v2 v3 v4 v5 : Value) : Turns (fun k => k = g) w (put6m w g v0 v1 v2 v3 v4 v5) := (At.turns_put (At.turns_put (At.turns_put (At.turns_put (At.turns_put (At.turns_put (Turns.refl _ _) _ _) _ _) _ _) _ _) _ _) _ _)

theorem put6_heap {w : World} {g : Nat} {t : TypeId} {z0 z1 z2 z3 z4 z5 : Value} (h : w.heap[g]? = some (.cells #[z0, z1, z2, z3, z4, z5] t (0, 0))) (v0 v1 v2 v3 v4 v5 : Value) : (put6 w g v0 v1 v2 v3 v4 v5).heap[g]? = some (.cells #[v0, v1, v2, v3, v4, v5] t (0, 0)) := by
  unfold put6
  refine ((heap_set (heap_set (heap_set (heap_set (heap_set (heap_set h _) _) _) _) _) _)).trans ?_
  simp

theorem put6m_heap {w : World} {g : Nat} {t : TypeId} {y0 y1 y2 z0 z1 z2 z3 z4 z5 : Value} (h : w.heap[g]? = some (.cells #[y0, y1, y2, z0, z1, z2, z3, z4, z5] t (0, 0))) (v0 v1 v2 v3 v4 v5 : Value) : (put6m w g v0 v1 v2 v3 v4 v5).heap[g]? = some (.cells #[y0, y1, y2, v0, v1, v2, v3, v4, v5] t (0, 0)) := by
  unfold put6m
  refine ((heap_set (heap_set (heap_set (heap_set (heap_set (heap_set h _) _) _) _) _) _)).trans ?_
  simp

section
variable {w : World} {B q : Nat} {g : Ln} {st : Nd} {r : Nat} {cs : List Ch} {m : Mp} {Rc : Value} {x : Option Addr} {n c : Nat}

/- Its own block alone is turned. -/
theorem MoAt.turnq {w' : World} {r' : Nat} {m' : Mp} {x' : Option Addr} {n' c' : Nat} (h : MoAt w B q g st r cs m Rc x n c) (t : Turns (fun k => k = q) w w') (ho : w'.heap[q]? = some (.cells (moV g.p r' Rc m' x' n' c') 67 (0, 0))) (hos : At.Os w' x' n' c' m'.osds)
    (hx : n' ≠ 0 → ∀ a, x' = some a → ¬ fp g a.block ∧ a.block ≠ q ∧ Rc.ownBlock ≠ some a.block) : MoAt w' B q g st r' cs m' Rc x' n' c' :=
  ⟨ho, h.node.turns t (fun k hk e => h.qf (by have e3 : k = q := e; rw [← e3]; exact hk)) (fun k hk tb => by have e3 : k = q := hk; rw [e3] at tb; have := tb.same h.tq; revert this; decide), h.chs.turns t (fun k hk e => (h.cf k hk).2 e), hos, h.low, h.qf, h.cf, hx⟩

theorem MoAt.setR (h : MoAt w B q g st r cs m Rc x n c) : MoAt (w.setCell ⟨q, 1, none⟩ (.int .i64 ((r + 1 : Nat) : Int))) B q g st (r + 1) cs m Rc x n c ∧ Turns (fun k => k = q) w (w.setCell ⟨q, 1, none⟩ (.int .i64 ((r + 1 : Nat) : Int))) := by
  have t : Turns (fun k => k = q) w (w.setCell ⟨q, 1, none⟩ (.int .i64 ((r + 1 : Nat) : Int))) := At.turns_put (Turns.refl _ _) _ _
  refine ⟨h.turnq t ?_ (h.os.turns t (fun h0 a ha => (h.xf h0 a ha).2.1)) h.xf, t⟩
  refine (heap_set h.obj _).trans ?_
  simp [moV]

/- Its list of changes is another one. -/
theorem MoAt.setC {W' : World} {R' : Value} {cs' : List Ch} (h : MoAt w B q g st r cs m Rc x n c) (t : Turns (fun k => Rc.ownBlock = some k) w W') (ho : Own W' B 37 9 enC R' cs') (hn : ∀ k, R'.ownBlock = some k → Rc.ownBlock = some k ∨ w.heap.size ≤ k) :
    MoAt (W'.setCell ⟨q, 2, none⟩ R') B q g st r cs' m R' x n c ∧ Turns (fun k => k = q ∨ Rc.ownBlock = some k) w (W'.setCell ⟨q, 2, none⟩ R') := by
  have hq : ¬ Rc.ownBlock = some q := fun e => (h.cf q e).2 rfl
  have hlq := h.lt
  have t5 : Turns (fun k => k = q) W' (W'.setCell ⟨q, 2, none⟩ R') := At.turns_put (Turns.refl _ _) _ _
  have hqk : ∀ k, R'.ownBlock = some k → k ≠ q := fun k hk e => by
    rcases hn k hk with e1 | e1
    · exact (h.cf k e1).2 e
    · omega
  have N1 := h.node.turns t (fun k hk e => (h.cf k e).1 hk) (fun k hk tb => by have := tb.same (h.chs.tb hk).2; revert this; decide)
  have ob1 := (t.block q hlq hq).trans h.obj
  refine ⟨⟨?_, N1.turns t5 (fun k hk e => h.qf (by have e3 : k = q := e; rw [← e3]; exact hk)) (fun k hk tb => by have e3 : k = q := hk; rw [e3] at tb; have := tb.same (⟨_, _, ob1⟩ : Tb W' q 67); revert this; decide), ho.turns t5 (fun k hk e => hqk k hk e), (h.os.turns t (fun h0 a ha => (h.xf h0 a ha).2.2)).turns t5 (fun h0 a ha => (h.xf h0 a ha).2.1), h.low, h.qf, fun k hk => ⟨fun hf => ?_, hqk k hk⟩, fun h0 a ha => ⟨(h.xf h0 a ha).1, (h.xf h0 a ha).2.1, fun e => ?_⟩⟩, ?_⟩
  · refine (heap_set ob1 _).trans ?_
    simp [moV]
  · rcases hn k hk with e1 | e1
    · exact (h.cf k e1).1 hf
    · have := (h.node.u8 _ hf).1
      omega
  · rcases hn _ e with e1 | e1
    · exact (h.xf h0 a ha).2.2 e1
    · have := os_lt h.os h0 a ha
      omega
  · exact (t.weak (fun k hk => .inr hk)).trans (t5.weak (fun k hk => .inl hk))

end

section
variable {w : World} {B q : Nat} {g : Ln} {st : Nd} {r : Nat} {cs : List Ch} {m : Mp} {Rc : Value} {x : Option Addr} {n c : Nat}

set_option maxHeartbeats 3200000 in
theorem follow_bad (h : MoAt w B q g st r cs m Rc x n c) (hr : r < 1000000000) (y : Option Addr) (yn yc : Nat) (l : List Nat) (hl : Go.Proofs.YtdlajpjigddbhaaGreat.Sl w y yn yc l) (hn : yn ≤ 140737488355328) (hy : yn ≠ 0 → ∀ a, y = some a → a.block ≠ q) (hd : (decC l).2 = false) :
    Calls Tryz.prog 45 #[.pointer (some ⟨q, 1, none⟩), .slice y yn yc] w fun e w' => e = .returned (.tuple #[]) ∧ Hid (MoAt w' B q g st (r + 1) cs m Rc x n c ∧ Turns (fun k => k = q) w w') := by
  obtain ⟨h1, t1⟩ := h.setR
  have hl1 : Go.Proofs.YtdlajpjigddbhaaGreat.Sl (w.setCell ⟨q, 1, none⟩ (.int .i64 ((r + 1 : Nat) : Int))) y yn yc l := ⟨hl.len, hl.le, hl.nil, (by
    by_cases h0 : yn = 0
    · exact .inl h0
    · exact t1.row hl.row (fun a ha e => hy h0 a ha e)), hl.lt⟩
  have hD := decodeChange_any y yn yc l _ hl1 hn
  rw [hd] at hD
  have c5 : cod false = 5 := rfl
  rw [c5] at hD
  have k1 : w.cell? ⟨q, 1, none⟩ = some (.int .i64 (r : Int)) := cell_heap h.obj rfl
  have f1 := fr_heap h.obj 1
  obtain ⟨⟨u0, ⟨u1, u2, u3, u4, u5, u6, u7, u8⟩⟩, hu⟩ : ∃ z, z = (decC l).1 := ⟨_, rfl⟩
  rw [← hu] at hD
  have HF := hid (And.intro h1 t1)
  have eN : ((r + 1 : Nat) : Int) = (r : Int) + 1 := by omega
  rw [eN] at hD HF
  have ew : IntKind.i64.wrap ((r : Int) + 1) = (r : Int) + 1 := Px.wrap_i64 (by omega) (by omega)
  clear h h1 t1 hl1 hl hy hn hd hu c5
  unfold vC at hD
  dsimp only at hD
  go_enter Tryz.func45, Tryz.ntmps45
  go_wp2_with (go_at_call 62; refine hD.mono ?_; rintro e w2 ⟨rfl, hb2⟩; clear hD)
  refine bodyPost_ret (results_none rfl _ _ _) rfl ?_
  have b3 := al w2 (.cells #[.int .i64 u0, .int .i64 u1, .bool u2, .bool u3, .int .i64 u4, .int .i64 u5, .int .i64 u6, .int .i64 u7, .int .i64 u8] 37)
  exact ⟨rfl, HF.out.1.below (on hb2 b3), HF.out.2.trans (Turns.of_below (on hb2 b3))⟩


end

end Go.Proofs.YtdlajpjigddbhaaGreat.Mo

/-
  Package monitor: follow: one decree more: it is refused.
  Conditions: the decree's bytes lie elsewhere.
-/
namespace Go.Proofs.YtdlajpjigddbhaaGreat.Mo
open Go.RowKit Wi By Fl Px At
set_option linter.unusedVariables false
set_option linter.unusedSimpArgs false
set_option maxRecDepth 100000

section
variable {w : World} {B q : Nat} {g : Ln} {st : Nd} {r : Nat} {cs : List Ch} {m : Mp} {Rc : Value} {x : Option Addr} {n c : Nat}

set_option maxHeartbeats 6400000 in
theorem follow_no (h : MoAt w B q g st r cs m Rc x n c) (hr : r < 1000000000) (hcs : cs.length ≤ 90000) (hmk : m.pool.k ≤ 9223372036854775807) (y : Option Addr) (yn yc : Nat) (l : List Nat) (hl : Go.Proofs.YtdlajpjigddbhaaGreat.Sl w y yn yc l) (hn : yn ≤ 140737488355328) (hy : yn ≠ 0 → ∀ a, y = some a → a.block ≠ q) (ch : Ch) (hd : decC l = (ch, true)) (ha : (applyP m ch).1 ≠ 0) :
    Calls Tryz.prog 45 #[.pointer (some ⟨q, 1, none⟩), .slice y yn yc] w fun e w' => e = .returned (.tuple #[]) ∧ Hid (∃ R' x' n' c', MoAt w' B q g st (r + 1) (stepC cs m l).1 (stepC cs m l).2 R' x' n' c' ∧ Turns (fun k => k = q ∨ Rc.ownBlock = some k) w w' ∧ ∀ k, R'.ownBlock = some k → Rc.ownBlock = some k ∨ w.heap.size ≤ k) := by
  have HSt : Hid (stepC cs m l = (cs, m)) := hid (by unfold stepC; rw [hd]; exact if_neg (fun h => ha h.2))
  obtain ⟨h1, t1⟩ := h.setR
  have hl1 : Go.Proofs.YtdlajpjigddbhaaGreat.Sl (w.setCell ⟨q, 1, none⟩ (.int .i64 ((r + 1 : Nat) : Int))) y yn yc l := ⟨hl.len, hl.le, hl.nil, (by
    by_cases h0 : yn = 0
    · exact .inl h0
    · exact t1.row hl.row (fun a ha e => hy h0 a ha e)), hl.lt⟩
  have hD := decodeChange_any y yn yc l _ hl1 hn
  rw [hd] at hD
  have c5 : cod true = 0 := rfl
  rw [c5] at hD
  have k1 : w.cell? ⟨q, 1, none⟩ = some (.int .i64 (r : Int)) := cell_heap h.obj rfl
  have f1 := fr_heap h.obj 1
  have hAp := fun (W : World) (hW : At.Os W x n c m.osds) => apply_new m ch hW hmk
  obtain ⟨ra, hra⟩ : ∃ ra, ra = applyP m ch := ⟨_, rfl⟩
  rw [← hra] at hAp ha
  (try rw [← hra] at HSt)
  obtain ⟨r1, ⟨e2, ⟨k2, m2, g2, d2⟩, L2⟩⟩ := ra
  have HF := hid (And.intro h1 t1)
  have eN : ((r + 1 : Nat) : Int) = (r : Int) + 1 := by omega
  rw [eN] at hD HF
  have ew : IntKind.i64.wrap ((r : Int) + 1) = (r : Int) + 1 := Px.wrap_i64 (by omega) (by omega)
  have hlq := h.lt
  clear h h1 t1 hl1 hl hy hn hd hra c5 hmk
  obtain ⟨ck, ⟨i0, i1, i2, i3, i4, i5, i6, i7⟩⟩ := ch
  obtain ⟨ep, ⟨pk, pm, pg, pd⟩, L⟩ := m
  unfold vC at hD
  unfold vC vM at hAp
  dsimp only at hD hAp ha
  have ha2 : (r1 != 0) = true := by simp [ha]
  go_enter Tryz.func45, Tryz.ntmps45
  go_wp2_with (
     go_at_call 62; refine hD.mono ?_; rintro e w2 ⟨rfl, hb2⟩; clear hD
     have HB2 := hid hb2; clear hb2)
  have b3 := al w2 (.cells #[.int .i64 ck, .int .i64 i0, .bool i1, .bool i2, .int .i64 i3, .int .i64 i4, .int .i64 i5, .int .i64 i6, .int .i64 i7] 37)
  have pc3 := heap_alloc_new w2 (.cells #[.int .i64 ck, .int .i64 i0, .bool i1, .bool i2, .int .i64 i3, .int .i64 i4, .int .i64 i5, .int .i64 i6, .int .i64 i7] 37)
  obtain ⟨wC, hwC⟩ : ∃ wC, wC = w2.alloc (.cells #[.int .i64 ck, .int .i64 i0, .bool i1, .bool i2, .int .i64 i3, .int .i64 i4, .int .i64 i5, .int .i64 i6, .int .i64 i7] 37) := ⟨_, rfl⟩
  rw [← hwC] at b3 pc3 ⊢
  obtain ⟨wD, hwD⟩ : ∃ wD, wD = wC.drew := ⟨_, rfl⟩
  have bD : Below wC.heap.size wC wD := by rw [hwD]; exact (Below.refl _ _).drew
  have HWD := hid hwD.symm
  have HMD := hid (HF.out.1.below (on (on HB2.out b3) bD))
  have HBD := hid (on (on HB2.out b3) bD)
  have pcD := heap_keep bD pc3
  obtain ⟨pc, hpc⟩ : ∃ pc, pc = w2.heap.size := ⟨_, rfl⟩
  have hpq : pc ≠ q := by have := HB2.out.size; simp at this; omega
  have HPc : Hid (Rc.ownBlock ≠ some pc) := fun e => by have := (HF.out.1.chs.tb e).2.lt; have := HB2.out.size; omega
  rw [← hpc] at pcD ⊢
  have HAD := hAp wD HMD.out.os
  have HAP := hid hAp
  clear hwC hwD hpc pc3 b3 bD hAp
  have a0 : wD.cell? ⟨q, 3, none⟩ = some (.int .i64 ep) := cell_heap HMD.out.obj rfl
  have a1 : wD.cell? ⟨q, 4, none⟩ = some (.int .i64 pk) := cell_heap HMD.out.obj rfl
  have a2 : wD.cell? ⟨q, 5, none⟩ = some (.int .i64 pm) := cell_heap HMD.out.obj rfl
  have a3 : wD.cell? ⟨q, 6, none⟩ = some (.int .i64 pg) := cell_heap HMD.out.obj rfl
  have a4 : wD.cell? ⟨q, 7, none⟩ = some (.int .i64 pd) := cell_heap HMD.out.obj rfl
  have a5 : wD.cell? ⟨q, 8, none⟩ = some (.slice x n c) := cell_heap HMD.out.obj rfl
  have j0 : wD.cell? ⟨pc, 0, none⟩ = some (.int .i64 ck) := cell_heap pcD rfl
  have j1 : wD.cell? ⟨pc, 1, none⟩ = some (.int .i64 i0) := cell_heap pcD rfl
  have j2 : wD.cell? ⟨pc, 2, none⟩ = some (.bool i1) := cell_heap pcD rfl
  have j3 : wD.cell? ⟨pc, 3, none⟩ = some (.bool i2) := cell_heap pcD rfl
  have j4 : wD.cell? ⟨pc, 4, none⟩ = some (.int .i64 i3) := cell_heap pcD rfl
  have j5 : wD.cell? ⟨pc, 5, none⟩ = some (.int .i64 i4) := cell_heap pcD rfl
  have j6 : wD.cell? ⟨pc, 6, none⟩ = some (.int .i64 i5) := cell_heap pcD rfl
  have j7 : wD.cell? ⟨pc, 7, none⟩ = some (.int .i64 i6) := cell_heap pcD rfl
  have j8 : wD.cell? ⟨pc, 8, none⟩ = some (.int .i64 i7) := cell_heap pcD rfl
  refine wp_region_held_drew (S := fun v => v.cell? ⟨q, 3, none⟩ = some (.int .i64 ep) ∧ v.cell? ⟨q, 4, none⟩ = some (.int .i64 pk) ∧ v.cell? ⟨q, 5, none⟩ = some (.int .i64 pm) ∧ v.cell? ⟨q, 6, none⟩ = some (.int .i64 pg) ∧ v.cell? ⟨q, 7, none⟩ = some (.int .i64 pd) ∧ v.cell? ⟨q, 8, none⟩ = some (.slice x n c) ∧ v.cell? ⟨pc, 0, none⟩ = some (.int .i64 ck) ∧ v.cell? ⟨pc, 1, none⟩ = some (.int .i64 i0) ∧ v.cell? ⟨pc, 2, none⟩ = some (.bool i1) ∧ v.cell? ⟨pc, 3, none⟩ = some (.bool i2) ∧ v.cell? ⟨pc, 4, none⟩ = some (.int .i64 i3) ∧ v.cell? ⟨pc, 5, none⟩ = some (.int .i64 i4) ∧ v.cell? ⟨pc, 6, none⟩ = some (.int .i64 i5) ∧ v.cell? ⟨pc, 7, none⟩ = some (.int .i64 i6) ∧ v.cell? ⟨pc, 8, none⟩ = some (.int .i64 i7)) (by kernel_rfl) (by rw [HWD.out]; exact ⟨a0, a1, a2, a3, a4, a5, j0, j1, j2, j3, j4, j5, j6, j7, j8⟩) (fun hHeld => ?_)
  rw [HWD.out] at hHeld ⊢
  refine wpAnyH_take (i := 0) (v := ?_) rfl (by kernel_rfl) (by kernel_rfl) (by kernel_rfl) (fun _ _ _ h => h) (Or.inl ⟨by rfl, ?_⟩) (by assumption) ?_
  case refine_2 => (intro w hSw; (try dsimp only at hSw); go_simp; (try with_reducible rfl))
  (try simp only [Act.put, List.getElem_toArray, List.getElem_cons_succ, List.getElem_cons_zero, List.setIfInBounds_toArray, List.set_cons_zero, List.set_cons_succ])
  refine wpAnyH_take (i := 1) (v := ?_) rfl (by kernel_rfl) (by kernel_rfl) (by kernel_rfl) (fun _ _ _ h => h) (Or.inl ⟨by rfl, ?_⟩) (by assumption) ?_
  case refine_2 => (intro w hSw; (try dsimp only at hSw); go_simp; (try with_reducible rfl))
  (try simp only [Act.put, List.getElem_toArray, List.getElem_cons_succ, List.getElem_cons_zero, List.setIfInBounds_toArray, List.set_cons_zero, List.set_cons_succ])
  refine wpAnyH_take (i := 2) (v := ?_) rfl (by kernel_rfl) (by kernel_rfl) (by kernel_rfl) (fun _ _ _ h => h) (Or.inl ⟨by rfl, ?_⟩) (by assumption) ?_
  case refine_2 => (intro w hSw; (try dsimp only at hSw); go_simp; (try with_reducible rfl))
  (try simp only [Act.put, List.getElem_toArray, List.getElem_cons_succ, List.getElem_cons_zero, List.setIfInBounds_toArray, List.set_cons_zero, List.set_cons_succ])
  refine wpAnyH_take (i := 3) (v := ?_) rfl (by kernel_rfl) (by kernel_rfl) (by kernel_rfl) (fun _ _ _ h => h) (Or.inl ⟨by rfl, ?_⟩) (by assumption) ?_
  case refine_2 => (intro w hSw; (try dsimp only at hSw); go_simp; (try with_reducible rfl))
  (try simp only [Act.put, List.getElem_toArray, List.getElem_cons_succ, List.getElem_cons_zero, List.setIfInBounds_toArray, List.set_cons_zero, List.set_cons_succ])
  refine wpAnyH_take (i := 4) (v := ?_) rfl (by kernel_rfl) (by kernel_rfl) (by kernel_rfl) (fun _ _ _ h => h) (Or.inl ⟨by rfl, ?_⟩) (by assumption) ?_
  case refine_2 => (intro w hSw; (try dsimp only at hSw); go_simp; (try with_reducible rfl))
  (try simp only [Act.put, List.getElem_toArray, List.getElem_cons_succ, List.getElem_cons_zero, List.setIfInBounds_toArray, List.set_cons_zero, List.set_cons_succ])
  refine wpAnyH_ready (rs := [5, 9]) (by kernel_rfl) (by simp) ?_
  refine AllReadyH.cons rfl (fun K hK => ?_) (AllReadyH.cons rfl (fun K hK => ?_) AllReadyH.nil)
  · go_simp
    refine HAD.mono ?_
    rintro ed w3 ⟨y2, n2, cc2, rfl, H3⟩
    have hb3 := H3.out.1
    have bZ := al w3 (.cells #[.int .i64 0, .int .i64 0, .int .i64 0, .int .i64 0, .int .i64 0, .slice none 0 0] 56)
    have bM := al w3 (.cells #[.int .i64 e2, .int .i64 k2, .int .i64 m2, .int .i64 g2, .int .i64 d2, .slice y2 n2 cc2] 56)
    refine hK.out _ _ ⟨keep hb3 a0, keep hb3 a1, keep hb3 a2, keep hb3 a3, keep hb3 a4, keep hb3 a5, keep hb3 j0, keep hb3 j1, keep hb3 j2, keep hb3 j3, keep hb3 j4, keep hb3 j5, keep hb3 j6, keep hb3 j7, keep hb3 j8⟩ (fun hHeld => ?_)
    clear hK K
    refine wpAnyH_take (i := 6) (v := ?_) rfl (by kernel_rfl) (by kernel_rfl) (by kernel_rfl) (fun _ _ _ h => h) (Or.inl ⟨by rfl, ?_⟩) (by assumption) ?_
    case refine_2 => (intro w hSw; (try dsimp only at hSw); go_simp; (try with_reducible rfl))
    (try simp only [Act.put, List.getElem_toArray, List.getElem_cons_succ, List.getElem_cons_zero, List.setIfInBounds_toArray, List.set_cons_zero, List.set_cons_succ])
    refine wpAnyH_take (i := 7) (v := ?_) rfl (by kernel_rfl) (by kernel_rfl) (by kernel_rfl) (fun _ _ _ h => h) (Or.inl ⟨by rfl, ?_⟩) (by assumption) ?_
    case refine_2 => (intro w hSw; (try dsimp only at hSw); go_simp; (try with_reducible rfl))
    (try simp only [Act.put, List.getElem_toArray, List.getElem_cons_succ, List.getElem_cons_zero, List.setIfInBounds_toArray, List.set_cons_zero, List.set_cons_succ])
    refine wpAnyH_take (i := 8) (v := ?_) rfl (by kernel_rfl) (by kernel_rfl) (by kernel_rfl) (fun _ _ _ h => h) (Or.inl ⟨by rfl, ?_⟩) (by assumption) ?_
    case refine_2 => (intro w hSw; (try dsimp only at hSw); go_simp; (try with_reducible rfl))
    (try simp only [Act.put, List.getElem_toArray, List.getElem_cons_succ, List.getElem_cons_zero, List.setIfInBounds_toArray, List.set_cons_zero, List.set_cons_succ])
    refine wpAnyH_ready (rs := [9]) (by kernel_rfl) (by simp) ?_
    refine AllReadyH.cons rfl (fun K hK => ?_) AllReadyH.nil
    go_simp
    refine hK.out _ _ ⟨keep bZ (keep hb3 a0), keep bZ (keep hb3 a1), keep bZ (keep hb3 a2), keep bZ (keep hb3 a3), keep bZ (keep hb3 a4), keep bZ (keep hb3 a5), keep bZ (keep hb3 j0), keep bZ (keep hb3 j1), keep bZ (keep hb3 j2), keep bZ (keep hb3 j3), keep bZ (keep hb3 j4), keep bZ (keep hb3 j5), keep bZ (keep hb3 j6), keep bZ (keep hb3 j7), keep bZ (keep hb3 j8)⟩ (fun hHeld => ?_)
    clear hK K
    refine wpAnyH_ready (rs := [10]) (by kernel_rfl) (by simp) ?_
    refine AllReadyH.cons rfl (fun K hK => ?_) AllReadyH.nil
    go_simp
    refine hK.out _ _ ⟨keep bM (keep hb3 a0), keep bM (keep hb3 a1), keep bM (keep hb3 a2), keep bM (keep hb3 a3), keep bM (keep hb3 a4), keep bM (keep hb3 a5), keep bM (keep hb3 j0), keep bM (keep hb3 j1), keep bM (keep hb3 j2), keep bM (keep hb3 j3), keep bM (keep hb3 j4), keep bM (keep hb3 j5), keep bM (keep hb3 j6), keep bM (keep hb3 j7), keep bM (keep hb3 j8)⟩ (fun hHeld => ?_)
    clear hK K
    refine wpAnyH_take (i := 11) (v := ?_) rfl (by kernel_rfl) (by kernel_rfl) (by kernel_rfl) (fun _ _ _ h => h) (Or.inl ⟨by rfl, ?_⟩) (by assumption) ?_
    case refine_2 => (intro w hSw; (try dsimp only at hSw); go_simp; (try with_reducible rfl))
    (try simp only [Act.put, List.getElem_toArray, List.getElem_cons_succ, List.getElem_cons_zero, List.setIfInBounds_toArray, List.set_cons_zero, List.set_cons_succ])
    refine wpAnyH_done (by kernel_rfl) ?_ _
    clear hHeld
    have hw0 : wD.heap.size ≤ w3.heap.size := hb3.size
    obtain ⟨W, hW⟩ : ∃ W, W = w3.alloc (.cells #[.int .i64 e2, .int .i64 k2, .int .i64 m2, .int .i64 g2, .int .i64 d2, .slice y2 n2 cc2] 56) := ⟨_, rfl⟩
    have pb3 := heap_alloc_new w3 (.cells #[.int .i64 e2, .int .i64 k2, .int .i64 m2, .int .i64 g2, .int .i64 d2, .slice y2 n2 cc2] 56)
    rw [← hW] at bM pb3 ⊢
    have HW : Hid (MoAt W B q g st (r + 1) cs ⟨ep, ⟨pk, pm, pg, pd⟩, L⟩ Rc x n c ∧ W.heap[pc]? = some (.cells #[.int .i64 ck, .int .i64 i0, .bool i1, .bool i2, .int .i64 i3, .int .i64 i4, .int .i64 i5, .int .i64 i6, .int .i64 i7] 37 (0, 0)) ∧ W.heap[w3.heap.size]? = some (.cells #[.int .i64 e2, .int .i64 k2, .int .i64 m2, .int .i64 g2, .int .i64 d2, .slice y2 n2 cc2] 56 (0, 0)) ∧ (At.Os W y2 n2 cc2 L2 ∧ ∀ a, y2 = some a → ¬ fp g a.block ∧ a.block ≠ q ∧ Rc.ownBlock ≠ some a.block) ∧ Below (w.setCell ⟨q, 1, none⟩ (.int .i64 ((r : Int) + 1))).heap.size (w.setCell ⟨q, 1, none⟩ (.int .i64 ((r : Int) + 1))) W) :=
      ⟨HMD.out.below (on hb3 bM), heap_keep (on hb3 bM) pcD, pb3, ⟨H3.out.2.1.below bM, fun a ha => by have q1 := H3.out.2.2 a ha; have q2 := HMD.out.lt; exact ⟨fun hf => by have := (HMD.out.node.u8 _ hf).1; omega, by omega, fun e => by have := (HMD.out.chs.tb e).2.lt; omega⟩⟩, on HBD.out (on hb3 bM)⟩
    obtain ⟨pb, hpb⟩ : ∃ pb, pb = w3.heap.size := ⟨_, rfl⟩
    rw [← hpb] at HW ⊢
    clear hW hpb pb3 bM bZ hb3 H3 hw0 a0 a1 a2 a3 a4 a5 j0 j1 j2 j3 j4 j5 j6 j7 j8 HAD pcD
    have p0 : W.cell? ⟨pb, 0, none⟩ = some (.int .i64 e2) := cell_heap HW.out.2.2.1 rfl
    have p1 : W.cell? ⟨pb, 1, none⟩ = some (.int .i64 k2) := cell_heap HW.out.2.2.1 rfl
    have p2 : W.cell? ⟨pb, 2, none⟩ = some (.int .i64 m2) := cell_heap HW.out.2.2.1 rfl
    have p3 : W.cell? ⟨pb, 3, none⟩ = some (.int .i64 g2) := cell_heap HW.out.2.2.1 rfl
    have p4 : W.cell? ⟨pb, 4, none⟩ = some (.int .i64 d2) := cell_heap HW.out.2.2.1 rfl
    have p5 : W.cell? ⟨pb, 5, none⟩ = some (.slice y2 n2 cc2) := cell_heap HW.out.2.2.1 rfl
    have b0 : W.cell? ⟨q, 3, none⟩ = some (.int .i64 ep) := cell_heap HW.out.1.obj rfl
    have b1 : W.cell? ⟨q, 4, none⟩ = some (.int .i64 pk) := cell_heap HW.out.1.obj rfl
    have b2 : W.cell? ⟨q, 5, none⟩ = some (.int .i64 pm) := cell_heap HW.out.1.obj rfl
    have b3 : W.cell? ⟨q, 6, none⟩ = some (.int .i64 pg) := cell_heap HW.out.1.obj rfl
    have b4 : W.cell? ⟨q, 7, none⟩ = some (.int .i64 pd) := cell_heap HW.out.1.obj rfl
    have b5 : W.cell? ⟨q, 8, none⟩ = some (.slice x n c) := cell_heap HW.out.1.obj rfl
    have z0 := fr_heap HW.out.1.obj 3
    have z1 := fr_heap HW.out.1.obj 4
    have z2 := fr_heap HW.out.1.obj 5
    have z3 := fr_heap HW.out.1.obj 6
    have z4 := fr_heap HW.out.1.obj 7
    have z5 := fr_heap HW.out.1.obj 8
    clear p0 b0 z0 p1 b1 z1 p2 b2 z2 p3 b3 z3 p4 b4 z4 p5 b5 z5
    go_wp2_with fail
    refine bodyPost_ret (results_none rfl _ _ _) rfl ?_
    exact ⟨rfl, Rc, x, n, c, by rw [HSt.out]; exact HW.out.1, (HF.out.2.trans (Turns.of_below HW.out.2.2.2.2)).weak (fun k hk => .inl hk), fun k hk => .inl hk⟩
  · go_simp
    have bZ := al wD (.cells #[.int .i64 0, .int .i64 0, .int .i64 0, .int .i64 0, .int .i64 0, .slice none 0 0] 56)
    have pz := heap_alloc_new wD (.cells #[.int .i64 0, .int .i64 0, .int .i64 0, .int .i64 0, .int .i64 0, .slice none 0 0] 56)
    obtain ⟨wX, hwX⟩ : ∃ wX, wX = wD.alloc (.cells #[.int .i64 0, .int .i64 0, .int .i64 0, .int .i64 0, .int .i64 0, .slice none 0 0] 56) := ⟨_, rfl⟩
    rw [← hwX] at bZ pz ⊢
    clear hwX
    refine hK.out _ _ ⟨keep bZ a0, keep bZ a1, keep bZ a2, keep bZ a3, keep bZ a4, keep bZ a5, keep bZ j0, keep bZ j1, keep bZ j2, keep bZ j3, keep bZ j4, keep bZ j5, keep bZ j6, keep bZ j7, keep bZ j8⟩ (fun hHeld => ?_)
    clear hK K
    refine wpAnyH_ready (rs := [5]) (by kernel_rfl) (by simp) ?_
    refine AllReadyH.cons rfl (fun K hK => ?_) AllReadyH.nil
    go_simp
    refine (HAP.out wX (HMD.out.os.below bZ)).mono ?_
    rintro ed w3 ⟨y2, n2, cc2, rfl, H3⟩
    have hb3 := H3.out.1
    have pz3 := heap_keep hb3 pz
    refine hK.out _ _ ⟨keep hb3 (keep bZ a0), keep hb3 (keep bZ a1), keep hb3 (keep bZ a2), keep hb3 (keep bZ a3), keep hb3 (keep bZ a4), keep hb3 (keep bZ a5), keep hb3 (keep bZ j0), keep hb3 (keep bZ j1), keep hb3 (keep bZ j2), keep hb3 (keep bZ j3), keep hb3 (keep bZ j4), keep hb3 (keep bZ j5), keep hb3 (keep bZ j6), keep hb3 (keep bZ j7), keep hb3 (keep bZ j8)⟩ (fun hHeld => ?_)
    clear hK K
    refine wpAnyH_take (i := 6) (v := ?_) rfl (by kernel_rfl) (by kernel_rfl) (by kernel_rfl) (fun _ _ _ h => h) (Or.inl ⟨by rfl, ?_⟩) (by assumption) ?_
    case refine_2 => (intro w hSw; (try dsimp only at hSw); go_simp; (try with_reducible rfl))
    (try simp only [Act.put, List.getElem_toArray, List.getElem_cons_succ, List.getElem_cons_zero, List.setIfInBounds_toArray, List.set_cons_zero, List.set_cons_succ])
    refine wpAnyH_take (i := 7) (v := ?_) rfl (by kernel_rfl) (by kernel_rfl) (by kernel_rfl) (fun _ _ _ h => h) (Or.inl ⟨by rfl, ?_⟩) (by assumption) ?_
    case refine_2 => (intro w hSw; (try dsimp only at hSw); go_simp; (try with_reducible rfl))
    (try simp only [Act.put, List.getElem_toArray, List.getElem_cons_succ, List.getElem_cons_zero, List.setIfInBounds_toArray, List.set_cons_zero, List.set_cons_succ])
    refine wpAnyH_take (i := 8) (v := ?_) rfl (by kernel_rfl) (by kernel_rfl) (by kernel_rfl) (fun _ _ _ h => h) (Or.inl ⟨by rfl, ?_⟩) (by assumption) ?_
    case refine_2 => (intro w hSw; (try dsimp only at hSw); go_simp; (try with_reducible rfl))
    (try simp only [Act.put, List.getElem_toArray, List.getElem_cons_succ, List.getElem_cons_zero, List.setIfInBounds_toArray, List.set_cons_zero, List.set_cons_succ])
    have dz0 : w3.cell? ⟨wD.heap.size, 0, none⟩ = some (.int .i64 0) := cell_heap pz3 rfl
    have dz1 : w3.cell? ⟨wD.heap.size, 1, none⟩ = some (.int .i64 0) := cell_heap pz3 rfl
    have dz2 : w3.cell? ⟨wD.heap.size, 2, none⟩ = some (.int .i64 0) := cell_heap pz3 rfl
    have dz3 : w3.cell? ⟨wD.heap.size, 3, none⟩ = some (.int .i64 0) := cell_heap pz3 rfl
    have dz4 : w3.cell? ⟨wD.heap.size, 4, none⟩ = some (.int .i64 0) := cell_heap pz3 rfl
    have dz5 : w3.cell? ⟨wD.heap.size, 5, none⟩ = some (.slice none 0 0) := cell_heap pz3 rfl
    have fz0 := fr_heap pz3 0
    have fz1 := fr_heap pz3 1
    have fz2 := fr_heap pz3 2
    have fz3 := fr_heap pz3 3
    have fz4 := fr_heap pz3 4
    have fz5 := fr_heap pz3 5
    have t6 := put6_turns w3 wD.heap.size (.int .i64 e2) (.int .i64 k2) (.int .i64 m2) (.int .i64 g2) (.int .i64 d2) (.slice y2 n2 cc2)
    have hqD : q ≠ wD.heap.size := by have := HMD.out.lt; omega
    have hcD : pc ≠ wD.heap.size := by have := (Array.getElem?_eq_some_iff.1 pcD).1; omega
    refine wpAnyH_ready (rs := [10]) (by kernel_rfl) (by simp) ?_
    refine AllReadyH.cons rfl (fun K hK => ?_) AllReadyH.nil
    go_simp
    refine hK.out _ _ ⟨keept t6 (fun e => hqD e) (keep hb3 (keep bZ a0)), keept t6 (fun e => hqD e) (keep hb3 (keep bZ a1)), keept t6 (fun e => hqD e) (keep hb3 (keep bZ a2)), keept t6 (fun e => hqD e) (keep hb3 (keep bZ a3)), keept t6 (fun e => hqD e) (keep hb3 (keep bZ a4)), keept t6 (fun e => hqD e) (keep hb3 (keep bZ a5)), keept t6 (fun e => hcD e) (keep hb3 (keep bZ j0)), keept t6 (fun e => hcD e) (keep hb3 (keep bZ j1)), keept t6 (fun e => hcD e) (keep hb3 (keep bZ j2)), keept t6 (fun e => hcD e) (keep hb3 (keep bZ j3)), keept t6 (fun e => hcD e) (keep hb3 (keep bZ j4)), keept t6 (fun e => hcD e) (keep hb3 (keep bZ j5)), keept t6 (fun e => hcD e) (keep hb3 (keep bZ j6)), keept t6 (fun e => hcD e) (keep hb3 (keep bZ j7)), keept t6 (fun e => hcD e) (keep hb3 (keep bZ j8))⟩ (fun hHeld => ?_)
    clear hK K
    refine wpAnyH_take (i := 11) (v := ?_) rfl (by kernel_rfl) (by kernel_rfl) (by kernel_rfl) (fun _ _ _ h => h) (Or.inl ⟨by rfl, ?_⟩) (by assumption) ?_
    case refine_2 => (intro w hSw; (try dsimp only at hSw); go_simp; (try with_reducible rfl))
    (try simp only [Act.put, List.getElem_toArray, List.getElem_cons_succ, List.getElem_cons_zero, List.setIfInBounds_toArray, List.set_cons_zero, List.set_cons_succ])
    refine wpAnyH_done (by kernel_rfl) ?_ _
    clear hHeld
    have BX := on bZ hb3
    have lD : wD.heap.size < w3.heap.size := (Array.getElem?_eq_some_iff.1 pz3).1
    have bP : Below wD.heap.size w3 (put6 w3 wD.heap.size (.int .i64 e2) (.int .i64 k2) (.int .i64 m2) (.int .i64 g2) (.int .i64 d2) (.slice y2 n2 cc2)) := t6.below (B := wD.heap.size) (fun k hk => by have e3 : k = wD.heap.size := hk; omega) (by omega)
    have bT : Below wD.heap.size wD (put6 w3 wD.heap.size (.int .i64 e2) (.int .i64 k2) (.int .i64 m2) (.int .i64 g2) (.int .i64 d2) (.slice y2 n2 cc2)) := BX.trans bP
    have pbT := put6_heap pz3 (.int .i64 e2) (.int .i64 k2) (.int .i64 m2) (.int .i64 g2) (.int .i64 d2) (.slice y2 n2 cc2)
    have HW : Hid (MoAt (put6 w3 wD.heap.size (.int .i64 e2) (.int .i64 k2) (.int .i64 m2) (.int .i64 g2) (.int .i64 d2) (.slice y2 n2 cc2)) B q g st (r + 1) cs ⟨ep, ⟨pk, pm, pg, pd⟩, L⟩ Rc x n c ∧ (put6 w3 wD.heap.size (.int .i64 e2) (.int .i64 k2) (.int .i64 m2) (.int .i64 g2) (.int .i64 d2) (.slice y2 n2 cc2)).heap[pc]? = some (.cells #[.int .i64 ck, .int .i64 i0, .bool i1, .bool i2, .int .i64 i3, .int .i64 i4, .int .i64 i5, .int .i64 i6, .int .i64 i7] 37 (0, 0)) ∧ (put6 w3 wD.heap.size (.int .i64 e2) (.int .i64 k2) (.int .i64 m2) (.int .i64 g2) (.int .i64 d2) (.slice y2 n2 cc2)).heap[wD.heap.size]? = some (.cells #[.int .i64 e2, .int .i64 k2, .int .i64 m2, .int .i64 g2, .int .i64 d2, .slice y2 n2 cc2] 56 (0, 0)) ∧ (At.Os (put6 w3 wD.heap.size (.int .i64 e2) (.int .i64 k2) (.int .i64 m2) (.int .i64 g2) (.int .i64 d2) (.slice y2 n2 cc2)) y2 n2 cc2 L2 ∧ ∀ a, y2 = some a → ¬ fp g a.block ∧ a.block ≠ q ∧ Rc.ownBlock ≠ some a.block) ∧ Below (w.setCell ⟨q, 1, none⟩ (.int .i64 ((r : Int) + 1))).heap.size (w.setCell ⟨q, 1, none⟩ (.int .i64 ((r : Int) + 1))) (put6 w3 wD.heap.size (.int .i64 e2) (.int .i64 k2) (.int .i64 m2) (.int .i64 g2) (.int .i64 d2) (.slice y2 n2 cc2))) :=
      ⟨HMD.out.below bT, heap_keep bT pcD, pbT, ⟨H3.out.2.1.turns t6 (fun _ a ha e => by have e3 : a.block = wD.heap.size := e; have := H3.out.2.2 a ha; have := bZ.size; have := (Array.getElem?_eq_some_iff.1 pz).1; omega), fun a ha => by have q1 := H3.out.2.2 a ha; have q2 := HMD.out.lt; have := bZ.size; exact ⟨fun hf => by have := (HMD.out.node.u8 _ hf).1; omega, by omega, fun e => by have := (HMD.out.chs.tb e).2.lt; omega⟩⟩, on HBD.out bT⟩
    obtain ⟨W, hW⟩ : ∃ W, W = put6 w3 wD.heap.size (.int .i64 e2) (.int .i64 k2) (.int .i64 m2) (.int .i64 g2) (.int .i64 d2) (.slice y2 n2 cc2) := ⟨_, rfl⟩
    rw [← hW] at HW
    have hW7 : put6 w3 wD.heap.size (.int .i64 e2) (.int .i64 k2) (.int .i64 m2) (.int .i64 g2) (.int .i64 d2) (.slice y2 n2 cc2) = W := hW.symm
    unfold put6 at hW7
    rw [hW7]
    obtain ⟨pb, hpb⟩ : ∃ pb, pb = wD.heap.size := ⟨_, rfl⟩
    rw [← hpb] at HW ⊢
    clear hW hW7 hpb pbT bT bP BX bZ hb3 H3 t6 lD pz3 pz dz0 fz0 dz1 fz1 dz2 fz2 dz3 fz3 dz4 fz4 dz5 fz5 a0 a1 a2 a3 a4 a5 j0 j1 j2 j3 j4 j5 j6 j7 j8 HAD HAP pcD
    have p0 : W.cell? ⟨pb, 0, none⟩ = some (.int .i64 e2) := cell_heap HW.out.2.2.1 rfl
    have p1 : W.cell? ⟨pb, 1, none⟩ = some (.int .i64 k2) := cell_heap HW.out.2.2.1 rfl
    have p2 : W.cell? ⟨pb, 2, none⟩ = some (.int .i64 m2) := cell_heap HW.out.2.2.1 rfl
    have p3 : W.cell? ⟨pb, 3, none⟩ = some (.int .i64 g2) := cell_heap HW.out.2.2.1 rfl
    have p4 : W.cell? ⟨pb, 4, none⟩ = some (.int .i64 d2) := cell_heap HW.out.2.2.1 rfl
    have p5 : W.cell? ⟨pb, 5, none⟩ = some (.slice y2 n2 cc2) := cell_heap HW.out.2.2.1 rfl
    have b0 : W.cell? ⟨q, 3, none⟩ = some (.int .i64 ep) := cell_heap HW.out.1.obj rfl
    have b1 : W.cell? ⟨q, 4, none⟩ = some (.int .i64 pk) := cell_heap HW.out.1.obj rfl
    have b2 : W.cell? ⟨q, 5, none⟩ = some (.int .i64 pm) := cell_heap HW.out.1.obj rfl
    have b3 : W.cell? ⟨q, 6, none⟩ = some (.int .i64 pg) := cell_heap HW.out.1.obj rfl
    have b4 : W.cell? ⟨q, 7, none⟩ = some (.int .i64 pd) := cell_heap HW.out.1.obj rfl
    have b5 : W.cell? ⟨q, 8, none⟩ = some (.slice x n c) := cell_heap HW.out.1.obj rfl
    have z0 := fr_heap HW.out.1.obj 3
    have z1 := fr_heap HW.out.1.obj 4
    have z2 := fr_heap HW.out.1.obj 5
    have z3 := fr_heap HW.out.1.obj 6
    have z4 := fr_heap HW.out.1.obj 7
    have z5 := fr_heap HW.out.1.obj 8
    clear p0 b0 z0 p1 b1 z1 p2 b2 z2 p3 b3 z3 p4 b4 z4 p5 b5 z5
    go_wp2_with fail
    refine bodyPost_ret (results_none rfl _ _ _) rfl ?_
    exact ⟨rfl, Rc, x, n, c, by rw [HSt.out]; exact HW.out.1, (HF.out.2.trans (Turns.of_below HW.out.2.2.2.2)).weak (fun k hk => .inl hk), fun k hk => .inl hk⟩


end

end Go.Proofs.YtdlajpjigddbhaaGreat.Mo
