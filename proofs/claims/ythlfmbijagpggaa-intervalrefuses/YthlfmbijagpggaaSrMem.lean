/-
  Those that draw straws, as they lie in memory; lists of them that are read, and copied.
  Conditions: none.
-/
import Derived.Test.YthlfmbijagpggaaSrPlain
import Derived.Test.YthlfmbijagpggaaFlBase
import Derived.Test.YthlfmbijagpggaaMxOrders
import Derived.Laws.AppendOwnNone
namespace Go.Proofs.Ythlfmbijagpggaa.Sr
open Go.RowKit By Fl
set_option linter.unusedVariables false
set_option linter.unusedSimpArgs false
set_option maxRecDepth 100000

theorem keep {w v : World} {b o : Nat} {x : Value} (hb : Below w.heap.size w v) (h : w.cell? ⟨b, o, none⟩ = some x) : v.cell? ⟨b, o, none⟩ = some x := (hb.cell (p := ⟨b, o, none⟩) (cell_lt' h)).trans h
theorem on {a b c : World} (h : Below a.heap.size a b) (k : Below b.heap.size b c) : Below a.heap.size a c := h.trans (k.mono h.size)
theorem al (w : World) (o : Obj) : Below w.heap.size w (w.alloc o) := (Below.refl _ w).alloc (Nat.le_refl _) _

def enW (a : Wd) : List Value := [.int .i64 a.id, .int .i64 a.wt]
def vW (a : Wd) : Value := .agg #[.int .i64 a.id, .int .i64 a.wt]

def wfI (z : Int) : Prop := -9223372036854775808 ≤ z ∧ z ≤ 9223372036854775807

/- A list that is read. -/
structure Ws (w : World) (x : Option Addr) (n c : Nat) (L : List Wd) : Prop where
  len : L.length = n
  le : n ≤ c
  small : n * 16 ≤ 140737488351232
  nil : x = none → n = 0 ∧ c = 0
  row : n = 0 ∨ ∃ b o, x = some ⟨b, o, none⟩ ∧ b < w.heap.size ∧ ∀ (k : Nat) (a : Wd), L[k]? = some a → w.cell? ⟨b, o + k * 2, none⟩ = some (.int .i64 a.id) ∧ w.cell? ⟨b, o + k * 2 + 1, none⟩ = some (.int .i64 a.wt)

theorem Ws.below {w w' : World} {x : Option Addr} {n c : Nat} {L : List Wd} (h : Ws w x n c L) (hb : Below w.heap.size w w') : Ws w' x n c L := by
  refine ⟨h.len, h.le, h.small, h.nil, ?_⟩
  rcases h.row with h0 | ⟨b, o, h1, h2, h3⟩
  · exact .inl h0
  · exact .inr ⟨b, o, h1, Nat.lt_of_lt_of_le h2 hb.size, fun k a hk => ⟨keep hb (h3 k a hk).1, keep hb (h3 k a hk).2⟩⟩

theorem wrow : Row 77 106 2 16 enW := by
  have hi : (Try.prog.info? 106).map (fun i => (i.zero, i.size, i.bytes)) = some (some (.agg #[.int .i64 0, .int .i64 0]), 2, 16) := by kernel_rfl
  obtain ⟨i0, h1, h2, h3, h4⟩ := info_parts hi
  exact ⟨Try.underlying77, ⟨i0, _, h1, h2, h3, h4, rfl⟩, by decide, by decide, fun a => rfl, fun a v hv => by simp [enW] at hv; rcases hv with rfl | rfl <;> rfl⟩

/- A list of one's own is one that is read. -/
theorem own_ws {w : World} {B : Nat} {x : Option Addr} {n c : Nat} {L : List Wd} (h : Own w B 106 2 enW (.slice x n c) L) (hs : L.length * 16 ≤ 140737488351232) : Ws w x n c L := by
  obtain ⟨x', c', e, h1, h2, h3⟩ := h.form
  injection e with e1 e2 e3
  subst e1 e2 e3
  refine ⟨rfl, h1, hs, h2, ?_⟩
  by_cases h0 : L.length = 0
  · exact .inl h0
  · cases x with
    | none => exact .inl (h2 rfl).1
    | some ad =>
      obtain ⟨g, rfl, hB, hg⟩ := h3 ad rfl
      exact .inr ⟨g, 0, rfl, hg, fun k a hk => ⟨by rw [Nat.zero_add]; exact h.cell wrow.len hk (j := 0) rfl, by rw [Nat.zero_add]; exact h.cell wrow.len hk (j := 1) rfl⟩⟩

/- append([]Weighed{}, l...). -/
theorem copy_big {w : World} {x : Option Addr} {n c : Nat} {L : List Wd} (h : Ws w x n c L) : ∃ x' c' w', (Builtin.append_ #[77, 77] 77 #[.slice (some ⟨w.heap.size, 0, none⟩) 0 0, .slice x n c]).run Try.prog (w.alloc (.cells #[] 106)) = .ok (.slice x' n c') w' ∧
    Hid (Own w' w.heap.size 106 2 enW (.slice x' n c') L ∧ Below w.heap.size w w') := by
  have hi : (Try.prog.info? 106).map (fun i => (i.zero, i.size, i.bytes)) = some (some (.agg #[.int .i64 0, .int .i64 0]), 2, 16) := by kernel_rfl
  obtain ⟨i0, i1, i2, i3, i4⟩ := info_parts hi
  have he := Own.empty w (B := w.heap.size) (Nat.le_refl _) 106 2 enW
  have hn := h.small
  cases x with
  | none =>
    obtain ⟨h1, h2⟩ := h.nil rfl
    subst h1 h2
    have hL : L = [] := List.eq_nil_of_length_eq_zero h.len
    subst hL
    have hr := run_append_owned_none (P := Try.prog) _ w.heap.size 77 77 106 i0 2 Try.underlying77 i1 _ 0 _ he
    exact ⟨_, _, _, hr, he, al _ _⟩
  | some ad =>
    have h0 := h.below (al w (.cells #[] 106))
    have hl := h.len
    obtain ⟨R', w4, hap, ho, hgr, hnil, hR'⟩ := run_append_own_at (P := Try.prog) (w.alloc (.cells #[] 106)) w.heap.size 77 77 106 i0 _ 2 16 Try.underlying77 i1 i2 i3 i4 rfl (by omega) _ 0 _ he ad n c (flat enW L) (by rw [flat_len wrow.len, hl]) (fun j u hj => by
        have hjl := (List.getElem?_eq_some_iff.1 hj).1
        rw [flat_len wrow.len, hl] at hjl
        rcases h0.row with q | ⟨b, o, e, hb, hc⟩
        · omega
        · injection e with e
          subst e
          rw [add_at]
          obtain ⟨a, ha⟩ : ∃ a, L[j / 2]? = some a := ⟨L[j / 2]'(by omega), List.getElem?_eq_getElem (by omega)⟩
          have hjj : j / 2 * 2 + j % 2 = j := by omega
          have := flat_get (enc := enW) (sz := 2) wrow.len L (j / 2) a ha (j % 2) (by omega)
          rw [hjj] at this
          have hu := this.symm.trans hj
          obtain ⟨q0, q1⟩ := hc (j / 2) a ha
          rcases (show j % 2 = 0 ∨ j % 2 = 1 by omega) with e | e
          · rw [e] at hu
            cases hu
            rw [show o + j = o + j / 2 * 2 by omega]
            exact q0
          · rw [e] at hu
            cases hu
            rw [show o + j = o + j / 2 * 2 + 1 by omega]
            exact q1)
      (fun u hu => by obtain ⟨a, _, ha⟩ := flat_mem hu; exact wrow.one a u ha) (by unfold maxLen; omega) (by omega) (by simp)
    have ho' : Own w4 w.heap.size 106 2 enW R' L := by
      unfold Own
      rw [hl]
      simpa [flat] using ho
    obtain ⟨x', c', hRe, _, _, hbk⟩ := ho'.form
    rw [hl] at hRe
    subst hRe
    refine ⟨x', c', w4, hap, ho', ?_⟩
    exact (al w _).trans (((Turns.refl (fun k => k = w.heap.size) _).grown hgr (fun k hk => .inl (by simp [Value.ownBlock] at hk; omega))).below (B := w.heap.size) (fun k hk => by omega) (by simp))

theorem flat_set2 : ∀ (L : List Wd) (i : Nat) (a : Wd) (z : Int), L[i]? = some a → flat enW (L.set i ⟨a.id, z⟩) = (flat enW L).set (i * 2 + 1) (.int .i64 z)
  | [], i, a, z, h => by simp at h
  | b :: L, 0, a, z, h => by
    simp at h
    subst h
    simp [flat, enW]
  | b :: L, i + 1, a, z, h => by
    rw [List.set_cons_succ, flat_cons, flat_cons, flat_set2 L i a z (by simpa using h), show (i + 1) * 2 + 1 = (i * 2 + 1) + 2 by omega]
    simp [enW]

/- One's weight is written. -/
theorem own_turn {w : World} {B g n c i : Nat} {L : List Wd} {a : Wd} (h : Own w B 106 2 enW (.slice (some ⟨g, 0, none⟩) n c) L) (hi : L[i]? = some a) (z : Int) : Own (w.setCell ⟨g, i * 2 + 1, none⟩ (.int .i64 z)) B 106 2 enW (.slice (some ⟨g, 0, none⟩) n c) (L.set i ⟨a.id, z⟩) := by
  have hn := h.heap.1
  unfold Own at h ⊢
  rw [flat_set2 L i a z hi, List.length_set, hn]
  rw [hn] at h
  exact own_setCell h _ _

end Go.Proofs.Ythlfmbijagpggaa.Sr
