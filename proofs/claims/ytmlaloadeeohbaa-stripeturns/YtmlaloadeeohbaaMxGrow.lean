/-
  Rows of bytes, and matrices, that are built by append: one cell, one row after the other.
  Conditions: none.
-/
import Derived.Test.YtmlaloadeeohbaaMxZero
import Derived.Laws.AppendOwn
import Derived.Laws.OwnMore
namespace Go.Proofs.Ytmlaloadeeohbaa
open Go.RowKit Gf
set_option linter.unusedVariables false

theorem wpList_append_run {P : Program} {w w' : World} {ops : Array Oper} {rest : List Oper} {o : Oper} {a : Act} {Q : Exit → Act → World → Prop} {v' : Value} (hgd : o.guard = none) (s x : Operand) (t : TypeId)
    (ho : o.op = .call { callee := .builtin .append, args := #[s, x], argTypes := #[t, t] }) (v1 v2 : Value) (hs : a.eval s = v1) (hx : a.eval x = v2) (hr : (Builtin.append_ #[t, t] o.type #[v1, v2]).run P w = .ok v' w')
    (h : wpList P ops Q rest (a.put o.dst v') w') : wpList P ops Q (o :: rest) a w := by
  refine wpList_plain hgd fun K hK => ?_
  unfold Oper.wp execOp
  simp only [ho, resolve, invoke, builtin, Sem.run_bind, Sem.run_pure, Result.andThen_ok, List.map_toArray, List.map_cons, List.map_nil, hs, hx, hr]
  exact hK _ _ h

def bytesOf (f : Nat → Nat) (n : Nat) : List Value := (List.range n).map fun i => Value.int .u8 (f i : Int)
def topsOf (G C : Nat → Nat) (m n : Nat) : List Value := (List.range n).map fun r => Value.slice (some ⟨G r, 0, none⟩) m (C r)

theorem bytesOf_succ (f : Nat → Nat) (n : Nat) : bytesOf f (n + 1) = bytesOf f n ++ [Value.int .u8 (f n : Int)] := by simp [bytesOf, List.range_succ]

theorem one_at (w : World) (v : Value) (e : TypeId) : ∀ j u, [v][j]? = some u → (w.alloc (.cells #[v] e)).cell? ((⟨w.heap.size, 0, none⟩ : Addr).add j) = some u := by
  intro j u h
  have hj : j = 0 := by
    have := (List.getElem?_eq_some_iff.1 h).1
    simpa using this
  subst hj
  have : v = u := by simpa using h
  subst this
  simp [Addr.add]

/- One cell more of a row of bytes. -/
theorem push_byte (w : World) (base : Nat) (R : Value) (n : Nat) (f : Nat → Nat) (hown : w.ownsRow base 5 1 R n (bytesOf f n)) (hn : n ≤ 1000000000) (hb : base ≤ w.heap.size) :
    ∃ R' w', (Builtin.append_ #[22, 22] 22 #[R, .slice (some ⟨w.heap.size, 0, none⟩) 1 1]).run Try.prog (w.alloc (.cells #[.int .u8 (f n : Int)] 5)) = .ok R' w' ∧
      w'.ownsRow base 5 1 R' (n + 1) (bytesOf f (n + 1)) ∧ Below base w w' := by
  obtain ⟨i0, hi, hz0, hz1, hz2⟩ := info_parts info_byte
  obtain ⟨v', w', hr, h2, h3, h4⟩ := run_append_own (P := Try.prog) (w.alloc (.cells #[.int .u8 (f n : Int)] 5)) base 22 22 5 i0 (.int .u8 0) 1 1 Try.underlying22 hi hz0 hz1 hz2 rfl (by decide) R n (bytesOf f n) (hown.alloc _)
    ⟨w.heap.size, 0, none⟩ 1 1 [.int .u8 (f n : Int)] rfl (one_at w _ _) (by simp [Value.oneCell']) (by unfold maxLen; omega) (by omega) (by simp; omega)
  refine ⟨v', w', hr, by rw [bytesOf_succ]; exact h2, ((Below.refl base w).alloc hb _).grown h3 (by simp; omega) (fun k hk => (hown.lt k hk).1)⟩

structure Grow (base : Nat) (w wr : World) (V : Value) (k m : Nat) (G C : Nat → Nat) (f : Nat → Nat → Nat) : Prop where
  below : Below base w wr
  le : base ≤ w.heap.size
  own : wr.ownsRow base 22 1 V k (topsOf G C m k)
  hG : ∀ r, r < k → base ≤ G r ∧ G r < wr.heap.size ∧ some (G r) ≠ V.ownBlock
  inj : ∀ r s, r < k → s < k → G r = G s → r = s
  fG : ∀ r, r < k → ∀ j, wr.frozen? ⟨G r, j, none⟩ = false
  cell : ∀ r, r < k → ∀ j, j < m → wr.cell? ⟨G r, j, none⟩ = some (.int .u8 (f r j : Int))
  lt : ∀ r j, f r j < 256
  cap : ∀ r, r < k → m ≤ C r
  ty : ∀ r, r < k → ∃ cur, wr.heap[G r]? = some (.cells cur 5 (0, 0))

theorem grow_start (w : World) (m : Nat) (G C : Nat → Nat) (f : Nat → Nat → Nat) (hf : ∀ r j, f r j < 256) :
    Grow w.heap.size w (w.alloc (.cells #[] 22)) (.slice (some ⟨w.heap.size, 0, none⟩) 0 0) 0 m G C f :=
  ⟨(Below.refl _ _).alloc (Nat.le_refl _) _, Nat.le_refl _, ⟨rfl, .inr ⟨w.heap.size, 0, #[], rfl, Nat.le_refl _, heap_alloc_new _ _, Nat.le_refl _, Nat.zero_le _, rfl, rfl⟩⟩,
    fun r hr => absurd hr (Nat.not_lt_zero _), fun r s hr => absurd hr (Nat.not_lt_zero _), fun r hr => absurd hr (Nat.not_lt_zero _), fun r hr => absurd hr (Nat.not_lt_zero _), hf, fun r hr => absurd hr (Nat.not_lt_zero _), fun r hr => absurd hr (Nat.not_lt_zero _)⟩

theorem own_slice {w : World} {base : Nat} {R : Value} {n : Nat} {xs : List Value} {e : TypeId} (h : w.ownsRow base e 1 R n xs) (hn : 0 < n) :
    ∃ g c, R = .slice (some ⟨g, 0, none⟩) n c ∧ base ≤ g ∧ g < w.heap.size ∧ n ≤ c ∧ ∃ cur, w.heap[g]? = some (.cells cur e (0, 0)) := by
  rcases h.2 with ⟨_, h0⟩ | ⟨g, c, cur, rfl, hg, hh, hc, _⟩
  · omega
  · exact ⟨g, c, rfl, hg, (Array.getElem?_eq_some_iff.1 hh).1, hc, cur, hh⟩

/- One row more of a matrix: it has been built in new memory. -/
theorem grow_push_at {base : Nat} {w wr w1 : World} {V : Value} {k m g c : Nat} {G C : Nat → Nat} {f : Nat → Nat → Nat} (h : Grow base w wr V k m G C f) (hb : Below wr.heap.size wr w1) (hk : k ≤ 1000) (hg1 : wr.heap.size ≤ g) (hc : m ≤ c) (hgc : ∃ cur, w1.heap[g]? = some (.cells cur 5 (0, 0)))
    (hrow : w1.ownsRow wr.heap.size 5 1 (.slice (some ⟨g, 0, none⟩) m c) m (bytesOf (f k) m)) :
    ∃ V' w2, (Builtin.append_ #[28, 28] 28 #[V, .slice (some ⟨w1.heap.size, 0, none⟩) 1 1]).run Try.prog (w1.alloc (.cells #[.slice (some ⟨g, 0, none⟩) m c] 22)) = .ok V' w2 ∧
      ∃ G' C', Grow base w w2 V' (k + 1) m G' C' f := by
  obtain ⟨i0, hi, hz0, hz1, hz2⟩ := info_parts info_row
  obtain ⟨gcur, hgcur⟩ := hgc
  have hg2 : g < w1.heap.size := (Array.getElem?_eq_some_iff.1 hgcur).1
  have hle : base ≤ wr.heap.size := Nat.le_trans h.le h.below.size
  have hown1 : w1.ownsRow base 22 1 V k (topsOf G C m k) := h.own.kept (row := none) ⟨hb.os, hb.tape, hb.output, hb.size, fun i hi _ => hb.block i hi⟩ (by
    cases hv : V.ownBlock with
    | none => exact .inl rfl
    | some x => exact .inr (by simp))
  obtain ⟨V', w2, hr, h2, h3, h4⟩ := run_append_own (P := Try.prog) (w1.alloc (.cells #[.slice (some ⟨g, 0, none⟩) m c] 22)) base 28 28 22 i0 (.slice none 0 0) 1 24 Try.underlying28 hi hz0 hz1 hz2 rfl (by decide) V k (topsOf G C m k) (hown1.alloc _)
    ⟨w1.heap.size, 0, none⟩ 1 1 [.slice (some ⟨g, 0, none⟩) m c] rfl (one_at w1 _ _) (by simp [Value.oneCell']) (by unfold maxLen; omega) (by omega) (by simp; have := hb.size; omega)
  refine ⟨V', w2, hr, fun r => if r = k then g else G r, fun r => if r = k then c else C r, ?_⟩
  have hsz2 : w1.heap.size + 1 ≤ w2.heap.size := by have := h3.size; simpa using this
  have hVlt : ∀ x, V.ownBlock = some x → base ≤ x ∧ x < wr.heap.size := h.own.lt
  have hkeep : ∀ x, x < w1.heap.size → some x ≠ V.ownBlock → w2.heap[x]? = w1.heap[x]? := fun x hx hne => by
    rw [h3.block x (by simp; omega) hne]
    exact Below.heap_alloc _ _ _ hx
  have hgne : some g ≠ V.ownBlock := fun e => by have := (hVlt g e.symm).2; omega
  have hV' : ∀ x, x < w1.heap.size → some x ≠ V.ownBlock → (∃ cur, w1.heap[x]? = some (.cells cur 5 (0, 0))) → some x ≠ V'.ownBlock := by
    intro x hx hne ⟨cur, hcur⟩ e
    rcases h2.2 with ⟨hn, _⟩ | ⟨g', c', cur', hn, _, hh, _⟩
    · rw [hn] at e; cases e
    · rw [hn] at e
      have e' : x = g' := by simpa [Value.ownBlock] using e
      subst e'
      rw [hkeep x hx hne, hcur] at hh
      injection hh with hh
      injection hh with _ hh _
      exact absurd hh (by decide)
  have hty : ∀ r, r < k → ∃ cur, w1.heap[G r]? = some (.cells cur 5 (0, 0)) := fun r hr => by
    obtain ⟨cur, hc⟩ := h.ty r hr
    exact ⟨cur, (hb.block (G r) (h.hG r hr).2.1).trans hc⟩
  refine ⟨?_, h.le, ?_, fun r hr => ?_, fun r s hr hs => ?_, fun r hr j => ?_, fun r hr j hj => ?_, h.lt, fun r hr => ?_, fun r hr => ?_⟩
  · exact (h.below.trans (hb.mono hle)).trans (((Below.refl base w1).alloc (by have := hb.size; omega) _).grown h3 (by simp; have := hb.size; omega) (fun x hx => (hVlt x hx).1))
  · rw [show topsOf (fun r => if r = k then g else G r) (fun r => if r = k then c else C r) m (k + 1) = topsOf G C m k ++ [.slice (some ⟨g, 0, none⟩) m c] by
      simp only [topsOf, List.range_succ, List.map_append, List.map_cons, List.map_nil, if_true]
      congr 1
      refine List.map_congr_left fun r hr => ?_
      have : r ≠ k := by have := List.mem_range.1 hr; omega
      simp [this]]
    exact h2
  · by_cases e : r = k
    · subst e; simp only [if_true]
      exact ⟨by omega, by omega, hV' g hg2 hgne ⟨gcur, hgcur⟩⟩
    · have := h.hG r (by omega)
      simp only [e, if_false]
      exact ⟨this.1, by have := hb.size; omega, hV' _ (by have := hb.size; omega) this.2.2 (hty r (by omega))⟩
  · by_cases e : r = k
    · by_cases e2 : s = k
      · intro _; omega
      · simp only [e, e2, if_true, if_false]; intro h'; have := (h.hG s (by omega)).2.1; omega
    · by_cases e2 : s = k
      · simp only [e, e2, if_true, if_false]; intro h'; have := (h.hG r (by omega)).2.1; omega
      · simp only [e, e2, if_false]; exact h.inj r s (by omega) (by omega)
  · by_cases e : r = k
    · subst e; simp only [if_true]
      exact (World.frozen?_of_block (w := w1) (hkeep g hg2 hgne)).trans (hrow.frozenAt j)
    · have hh := h.hG r (by omega)
      simp only [e, if_false]
      exact (World.frozen?_of_block (w := w1) (hkeep (G r) (by have := hb.size; omega) hh.2.2)).trans ((hb.frozen (by exact hh.2.1)).trans (h.fG r (by omega) j))
  · by_cases e : r = k
    · subst e; simp only [if_true]
      refine (World.cell?_of_block (w := w1) (hkeep g hg2 hgne)).trans ?_
      rw [hrow.cellAt j (by omega)]
      simp [bytesOf, hj]
    · have hh := h.hG r (by omega)
      simp only [e, if_false]
      exact (World.cell?_of_block (w := w1) (hkeep (G r) (by have := hb.size; omega) hh.2.2)).trans ((hb.cell (by exact hh.2.1)).trans (h.cell r (by omega) j hj))
  · by_cases e : r = k
    · subst e; simpa using hc
    · simp only [e, if_false]; exact h.cap r (by omega)
  · by_cases e : r = k
    · subst e; simp only [if_true]
      exact ⟨gcur, (hkeep g hg2 hgne).trans hgcur⟩
    · obtain ⟨cur, hcur⟩ := hty r (by omega)
      have hh := h.hG r (by omega)
      simp only [e, if_false]
      exact ⟨cur, (hkeep (G r) (by have := hb.size; omega) hh.2.2).trans hcur⟩

theorem grow_push {base : Nat} {w wr w1 : World} {V R : Value} {k m : Nat} {G C : Nat → Nat} {f : Nat → Nat → Nat} (h : Grow base w wr V k m G C f) (hb : Below wr.heap.size wr w1) (hm : 0 < m) (hk : k ≤ 1000)
    (hrow : w1.ownsRow wr.heap.size 5 1 R m (bytesOf (f k) m)) :
    ∃ V' w2, (Builtin.append_ #[28, 28] 28 #[V, .slice (some ⟨w1.heap.size, 0, none⟩) 1 1]).run Try.prog (w1.alloc (.cells #[R] 22)) = .ok V' w2 ∧
      ∃ G' C', Grow base w w2 V' (k + 1) m G' C' f := by
  obtain ⟨g, c, rfl, hg1, hg2, hc, hgc⟩ := own_slice hrow hm
  exact grow_push_at h hb hk hg1 hc hgc hrow

/- The matrix, when it is built. -/
theorem grow_own {base : Nat} {w wr : World} {V : Value} {k m : Nat} {G C : Nat → Nat} {f : Nat → Nat → Nat} (h : Grow base w wr V k m G C f) (hk : 0 < k) :
    ∃ B c, V = .slice (some ⟨B, 0, none⟩) k c ∧ Own base wr B k m G C f := by
  have ho := h.own
  obtain ⟨B, c, rfl, h1, h2, h3, _⟩ := own_slice ho hk
  refine ⟨B, c, rfl, ⟨h1, h2⟩, fun r hr => ?_, h.inj, fun i => ho.frozenAt i, h.fG, fun r hr => ?_, h.cell, h.lt, h.cap⟩
  · have := h.hG r hr
    exact ⟨this.1, this.2.1, fun e => this.2.2 (by simp [Value.ownBlock, e])⟩
  · rw [ho.cellAt r (by omega)]
    simp [topsOf, hr]

end Go.Proofs.Ytmlaloadeeohbaa
