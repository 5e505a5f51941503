/-
  Lists of numbers that a call makes, one number at a time; and the document's 'tail'.
  Conditions: a list has at most 2^20 numbers.
-/
import Derived.Test.YtnfflmndejbepaaJNaPlain
import Derived.Laws.AppendOwn
import Derived.Laws.OwnMore
namespace Go.Proofs.Ytnfflmndejbepaa.Na
open Go.RowKit
set_option linter.unusedVariables false
set_option linter.unusedSimpArgs false
set_option maxRecDepth 100000

theorem wpList_append_run {P : Program} {w w' : World} {ops : Array Oper} {rest : List Oper} {o : Oper} {a : Act} {Q : Exit → Act → World → Prop} {v' : Value} (hgd : o.guard = none) (s x : Operand) (t : TypeId)
    (ho : o.op = .call { callee := .builtin .append, args := #[s, x], argTypes := #[t, t] }) (v1 v2 : Value) (hs : a.eval s = v1) (hx : a.eval x = v2) (hr : (Builtin.append_ #[t, t] o.type #[v1, v2]).run P w = .ok v' w')
    (h : wpList P ops Q rest (a.put o.dst v') w') : wpList P ops Q (o :: rest) a w := by
  refine wpList_plain hgd fun K hK => ?_
  unfold Oper.wp execOp
  simp only [ho, resolve, invoke, builtin, Sem.run_bind, Sem.run_pure, Result.andThen_ok, List.map_toArray, List.map_cons, List.map_nil, hs, hx, hr]
  exact hK _ _ h

theorem info_int : (Try.prog.info? 3).map (fun i => (i.zero, i.size, i.bytes)) = some (some (.int .i64 0), 1, 8) := by kernel_rfl

def intsL (l : List Nat) : List Value := l.map fun (r : Nat) => Value.int .i64 (r : Int)

theorem ints_empty (w : World) : (w.alloc (.cells #[] 3)).ownsRow w.heap.size 3 1 (.slice (some ⟨w.heap.size, 0, none⟩) 0 0) 0 (intsL []) :=
  ⟨rfl, .inr ⟨w.heap.size, 0, #[], rfl, Nat.le_refl _, heap_alloc_new _ _, Nat.le_refl _, Nat.zero_le _, rfl, rfl⟩⟩

theorem one_at (w : World) (v : Value) (t : TypeId) : ∀ j u, [v][j]? = some u → (w.alloc (.cells #[v] t)).cell? ((⟨w.heap.size, 0, none⟩ : Addr).add j) = some u := by
  intro j u hj
  match j, hj with
  | 0, hj => simp at hj; subst hj; simp [Addr.add]
  | j + 1, hj => simp at hj

/- A list of one's own that is no nil. -/
def Own (w : World) (base : Nat) (V : Value) (l : List Nat) : Prop := w.ownsRow base 3 1 V l.length (intsL l) ∧ V ≠ .slice none 0 0

theorem push_int (w w0 : World) (base : Nat) (V : Value) (l : List Nat) (a : Nat) (h : Own w base V l) (hl : l.length ≤ 1048576) (hb : base ≤ w.heap.size) (h0 : Below base w0 w) :
    ∃ V' w', (Builtin.append_ #[112, 112] 112 #[V, .slice (some ⟨w.heap.size, 0, none⟩) 1 1]).run Try.prog (w.alloc (.cells #[.int .i64 (a : Int)] 3)) = .ok V' w' ∧
      Own w' base V' (l ++ [a]) ∧ Below base w0 w' ∧ ∀ g, g < w.heap.size → g < base ∨ (V.ownBlock ≠ some g) → w'.heap[g]? = w.heap[g]? := by
  obtain ⟨i0, hi, hz0, hz1, hz2⟩ := info_parts info_int
  have hown := h.1
  obtain ⟨v', w', hr, h2, h3, h4⟩ := run_append_own (P := Try.prog) (w.alloc (.cells #[.int .i64 (a : Int)] 3)) base 112 112 3 i0 (.int .i64 0) 1 8 Try.underlying112 hi hz0 hz1 hz2 rfl (by decide) V l.length _ (hown.alloc _)
    ⟨w.heap.size, 0, none⟩ 1 1 [.int .i64 (a : Int)] rfl (one_at w _ _) (by simp [Value.oneCell']) (by unfold maxLen; omega) (by omega) (by simp; omega)
  refine ⟨v', w', hr, ⟨?_, fun e => h.2 (h4.1 e).1⟩, (h0.alloc hb _).grown h3 (by simp; omega) (fun k hk => (hown.lt k hk).1), fun g hg hx => ?_⟩
  · have e : intsL (l ++ [a]) = intsL l ++ [.int .i64 (a : Int)] := by simp [intsL]
    rw [e, List.length_append]
    exact h2
  · have hne : V.ownBlock ≠ some g := by
      rcases hx with hx | hx
      · intro e
        have := (hown.lt g e).1
        omega
      · exact hx
    rw [h3.block g (by simp; omega) (fun e => hne e.symm), Below.heap_alloc _ _ _ hg]

theorem Own.at {w : World} {base : Nat} {V : Value} {l : List Nat} (h : Own w base V l) :
    ∃ g c, V = .slice (some ⟨g, 0, none⟩) l.length c ∧ base ≤ g ∧ g < w.heap.size ∧ ∀ i, i < l.length → w.cell? ⟨g, 0 + i, none⟩ = some (.int .i64 ((l.getD i 0 : Nat) : Int)) := by
  obtain ⟨h1, h2⟩ := h
  rcases h1.2 with ⟨hv, _⟩ | ⟨g, c, cur, hv, hg, hh, hc, _⟩
  · exact absurd hv h2
  · subst hv
    refine ⟨g, c, rfl, hg, (Array.getElem?_eq_some_iff.1 hh).1, fun i hi => ?_⟩
    rw [Nat.zero_add, h1.cellAt i (by omega)]
    simp [intsL, hi, List.getD]

def IntsIn (w : World) (g : Nat) (l : List Nat) : Prop := g < w.heap.size ∧ ∀ i, i < l.length → w.cell? ⟨g, 0 + i, none⟩ = some (.int .i64 ((l.getD i 0 : Nat) : Int))

theorem IntsIn.below {w w' : World} {g : Nat} {l : List Nat} (h : IntsIn w g l) (hb : Below w.heap.size w w') : IntsIn w' g l :=
  ⟨Nat.lt_of_lt_of_le h.1 hb.size, fun i hi => (hb.cell (by exact h.1)).trans (h.2 i hi)⟩

/- Does a byte go on? -/
set_option maxRecDepth 1000000 in
theorem tail_any (s : ByteArray) (q : Nat) (b : Bool) (w : World) (hq : q ≤ 140737488355340) (hb : (q < s.size ∧ 128 ≤ (nat s).getD q 0 ∧ (nat s).getD q 0 < 192) ↔ b = true) :
    Calls Try.prog 87 #[.string s, .int .i64 q] w fun e w' => e = .returned (.bool b) ∧ w' = w := by
  by_cases h1 : q < s.size
  · have hx := nat_get s q h1
    generalize (nat s).getD q 0 = x at hx hb
    by_cases h2 : 128 ≤ x
    · have h3 : decide ((x : Int) < 192) = b := by
        cases b with
        | true => have := (hb.2 rfl).2.2; simp; omega
        | false => exact decide_eq_false fun hh => by have := hb.1 ⟨h1, h2, by omega⟩; cases this
      clear hb
      go_enter Try.func87, Try.ntmps87
      go_wp2_with fail
      go_ret
      rw [← h3]
      exact ⟨rfl, rfl⟩
    · obtain rfl : b = false := by cases b with
        | false => rfl
        | true => exact absurd (hb.2 rfl).2.1 h2
      clear hb
      go_enter Try.func87, Try.ntmps87
      go_wp2_with fail
      go_ret
      exact ⟨rfl, rfl⟩
  · obtain rfl : b = false := by cases b with
      | false => rfl
      | true => exact absurd (hb.2 rfl).1 h1
    clear hb
    go_enter Try.func87, Try.ntmps87
    go_wp2_with fail
    go_ret
    exact ⟨rfl, rfl⟩

end Go.Proofs.Ytnfflmndejbepaa.Na
