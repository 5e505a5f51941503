/-
  Pools, OSDs, maps and changes as they lie in memory; lists of OSDs that are read.
  Conditions: none.
-/
import Derived.Test.YtgfjmkjgagogpaaGreatAtPlain
import Derived.Test.YtgfjmkjgagogpaaGreatMxOrders
import Derived.Laws.StructEq
namespace Go.Proofs.YtgfjmkjgagogpaaGreat.At
open Go.RowKit By Fl
set_option linter.unusedVariables false
set_option linter.unusedSimpArgs false
set_option maxRecDepth 100000

def wfi (a : Int) : Prop := (Lit.int .i64 a).wf = true

theorem keep {w v : World} {b o : Nat} {x : Value} (hb : Below w.heap.size w v) (h : w.cell? ⟨b, o, none⟩ = some x) : v.cell? ⟨b, o, none⟩ = some x := (hb.cell (p := ⟨b, o, none⟩) (cell_lt' h)).trans h
theorem keepf {w v : World} {b o : Nat} (hb : Below w.heap.size w v) (hlt : b < w.heap.size) (h : w.frozen? ⟨b, o, none⟩ = false) : v.frozen? ⟨b, o, none⟩ = false := by
  rw [← h]
  exact World.frozen?_of_block (a := ⟨b, o, none⟩) (hb.block b hlt)
theorem on {a b c : World} (h : Below a.heap.size a b) (k : Below b.heap.size b c) : Below a.heap.size a c := h.trans (k.mono h.size)
theorem al (w : World) (o : Obj) : Below w.heap.size w (w.alloc o) := (Below.refl _ w).alloc (Nat.le_refl _) _

def enO (o : Osd) : List Value := [.int .i64 o.id, .bool o.up, .bool o.inn, .int .i64 o.wt, .int .i64 o.life, .int .i64 o.boot, .int .i64 o.host, .int .i64 o.rack]
def enP (p : Pool) : List Value := [.int .i64 p.k, .int .i64 p.m, .int .i64 p.pgs, .int .i64 p.dom]
def enC (c : Ch) : List Value := [.int .i64 c.kind, .int .i64 c.osd.id, .bool c.osd.up, .bool c.osd.inn, .int .i64 c.osd.wt, .int .i64 c.osd.life, .int .i64 c.osd.boot, .int .i64 c.osd.host, .int .i64 c.osd.rack]
def vO (o : Osd) : Value := .agg #[.int .i64 o.id, .bool o.up, .bool o.inn, .int .i64 o.wt, .int .i64 o.life, .int .i64 o.boot, .int .i64 o.host, .int .i64 o.rack]
def vP (p : Pool) : Value := .agg #[.int .i64 p.k, .int .i64 p.m, .int .i64 p.pgs, .int .i64 p.dom]
def vC (c : Ch) : Value := .agg #[.int .i64 c.kind, .int .i64 c.osd.id, .bool c.osd.up, .bool c.osd.inn, .int .i64 c.osd.wt, .int .i64 c.osd.life, .int .i64 c.osd.boot, .int .i64 c.osd.host, .int .i64 c.osd.rack]
def vM (ep : Int) (p : Pool) (x : Option Addr) (n c : Nat) : Value := .agg #[.int .i64 ep, .int .i64 p.k, .int .i64 p.m, .int .i64 p.pgs, .int .i64 p.dom, .slice x n c]

/- A list of OSDs that is read. -/
structure Os (w : World) (x : Option Addr) (n c : Nat) (L : List Osd) : Prop where
  len : L.length = n
  le : n ≤ c
  small : n ≤ 140737488351232
  nil : x = none → n = 0 ∧ c = 0
  row : n = 0 ∨ ∃ b o, x = some ⟨b, o, none⟩ ∧ b < w.heap.size ∧ ∀ (k : Nat) (a : Osd), L[k]? = some a → ∀ (j : Nat) (v : Value), (enO a)[j]? = some v → w.cell? ⟨b, o + k * 8 + j, none⟩ = some v

theorem Os.below {w w' : World} {x : Option Addr} {n c : Nat} {L : List Osd} (h : Os w x n c L) (hb : Below w.heap.size w w') : Os w' x n c L := by
  refine ⟨h.len, h.le, h.small, h.nil, ?_⟩
  rcases h.row with h0 | ⟨b, o, h1, h2, h3⟩
  · exact .inl h0
  · exact .inr ⟨b, o, h1, Nat.lt_of_lt_of_le h2 hb.size, fun k a hk j v hv => keep hb (h3 k a hk j v hv)⟩

theorem Os.turns {w w' : World} {G : Nat → Prop} {x : Option Addr} {n c : Nat} {L : List Osd} (h : Os w x n c L) (t : Turns G w w') (hx : n ≠ 0 → ∀ a, x = some a → ¬ G a.block) : Os w' x n c L := by
  refine ⟨h.len, h.le, h.small, h.nil, ?_⟩
  rcases h.row with h0 | ⟨b, o, h1, h2, h3⟩
  · exact .inl h0
  · by_cases h0 : n = 0
    · exact .inl h0
    · exact .inr ⟨b, o, h1, Nat.lt_of_lt_of_le h2 t.size, fun k a hk j v hv => (World.cell?_of_block (a := ⟨b, o + k * 8 + j, none⟩) (t.block b h2 (hx h0 _ h1))).trans (h3 k a hk j v hv)⟩

theorem Os.take {w : World} {x : Option Addr} {n c k : Nat} {L : List Osd} (h : Os w x n c L) (hk : k ≤ n) : Os w x k c (L.take k) := by
  have hl := h.len
  refine ⟨by rw [List.length_take]; omega, by have := h.le; omega, by have := h.small; omega, fun e => by have := h.nil e; omega, ?_⟩
  rcases h.row with h0 | ⟨b, o, h1, h2, h3⟩
  · exact .inl (by omega)
  · refine .inr ⟨b, o, h1, h2, fun q a hq j v hv => h3 q a ?_ j v hv⟩
    rw [List.getElem?_take] at hq
    split at hq
    · exact hq
    · cases hq

/- Its k-th one. -/
theorem Os.at {w : World} {b o n c k : Nat} {L : List Osd} {a : Osd} (h : ∀ (k : Nat) (a : Osd), L[k]? = some a → ∀ (j : Nat) (v : Value), (enO a)[j]? = some v → w.cell? ⟨b, o + k * 8 + j, none⟩ = some v) (hk : L[k]? = some a) :
    w.cell? ⟨b, o + k * 8, none⟩ = some (.int .i64 a.id) ∧ w.cell? ⟨b, o + k * 8 + 1, none⟩ = some (.bool a.up) ∧ w.cell? ⟨b, o + k * 8 + 2, none⟩ = some (.bool a.inn) ∧ w.cell? ⟨b, o + k * 8 + 3, none⟩ = some (.int .i64 a.wt) ∧
    w.cell? ⟨b, o + k * 8 + 4, none⟩ = some (.int .i64 a.life) ∧ w.cell? ⟨b, o + k * 8 + 5, none⟩ = some (.int .i64 a.boot) ∧ w.cell? ⟨b, o + k * 8 + 6, none⟩ = some (.int .i64 a.host) ∧ w.cell? ⟨b, o + k * 8 + 7, none⟩ = some (.int .i64 a.rack) :=
  ⟨h k a hk 0 _ rfl, h k a hk 1 _ rfl, h k a hk 2 _ rfl, h k a hk 3 _ rfl, h k a hk 4 _ rfl, h k a hk 5 _ rfl, h k a hk 6 _ rfl, h k a hk 7 _ rfl⟩

theorem orow : Row 29 44 8 56 enO := by
  have hi : (Tryz.prog.info? 44).map (fun i => (i.zero, i.size, i.bytes)) = some (some (.agg #[.int .i64 0, .bool false, .bool false, .int .i64 0, .int .i64 0, .int .i64 0, .int .i64 0, .int .i64 0]), 8, 56) := by kernel_rfl
  obtain ⟨i0, h1, h2, h3, h4⟩ := info_parts hi
  exact ⟨Tryz.underlying29, ⟨i0, _, h1, h2, h3, h4, rfl⟩, by decide, by decide, fun a => rfl, fun a v hv => by simp [enO] at hv; rcases hv with rfl | rfl | rfl | rfl | rfl | rfl | rfl | rfl <;> rfl⟩

/- A list of one's own is one that is read. -/
theorem own_os {w : World} {B : Nat} {x : Option Addr} {n c : Nat} {L : List Osd} (h : Own w B 44 8 enO (.slice x n c) L) (hs : L.length ≤ 140737488351232) : Os w x n c L := by
  obtain ⟨x', c', e, h1, h2, h3⟩ := h.form
  injection e with e1 e2 e3
  subst e1 e2 e3
  refine ⟨rfl, h1, hs, h2, ?_⟩
  by_cases h0 : L.length = 0
  · exact .inl h0
  · cases x with
    | none => exact .inl (h2 rfl).1
    | some ad =>
      obtain ⟨g, rfl, hB, hg⟩ := h3 ad rfl
      exact .inr ⟨g, 0, rfl, hg, fun k a hk j v hv => by rw [Nat.zero_add]; exact h.cell orow.len hk hv⟩

theorem eq_osd (a b : Osd) (w : World) : (binOp .eql 44 (vO a) (vO b)).run Tryz.prog w = .ok (.bool (eqO a b)) w := by
  obtain ⟨a0, a1, a2, a3, a4, a5, a6, a7⟩ := a
  obtain ⟨b0, b1, b2, b3, b4, b5, b6, b7⟩ := b
  unfold vO eqO
  dsimp only
  go_simp
  by_cases e0 : a0 = b0 <;> by_cases e1 : a1 = b1 <;> by_cases e2 : a2 = b2 <;> by_cases e3 : a3 = b3 <;> by_cases e4 : a4 = b4 <;> by_cases e5 : a5 = b5 <;> by_cases e6 : a6 = b6 <;> by_cases e7 : a7 = b7 <;> simp [e0, e1, e2, e3, e4, e5, e6, e7]

end Go.Proofs.YtgfjmkjgagogpaaGreat.At
