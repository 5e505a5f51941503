/-
  9 texts of this proof, one behind the other: MxOrders, SrMem, SrItem, MiCalls, MiHash, MiLen, MiLog, MiRefLog, SrCalls.
-/
import Derived.OrdersHeld
import Derived.Deep.RegionHeld3
import Derived.Test.YthchbbebconojaaJ01
import Derived.Laws.AppendOwnNone
import Derived.Deep.Slices
import Derived.Test.YthchbbebconojaaRows
import Derived.WalkKit
import Derived.WalkSpells
import Derived.WalkLawsBesides
import Derived.Laws.BitsAllLaws
import Derived.Laws.MathBits
import Derived.Lib.Strings
import Derived.Lib.Small
import Derived.Lib.Walk
import Derived.Lib.Tables
/-
  A statement that Go may carry out in more than one order, whose last step, a store, waits for all others: what is read ahead of it may be read first, though the store writes there.
  Conditions: none.
-/
namespace Go.Proofs.Ythchbbebconojaa
open Go
set_option linter.unusedVariables false

section
variable {P : Program} {ops : Array Oper} {Q : Exit → Act → World → Prop} {md : Region.Mode} {S : World → Prop} {l : Nat}

def wpAnyL (P : Program) (md : Region.Mode) (ops : Array Oper) (Q : Exit → Act → World → Prop) (S : World → Prop) (l : Nat) : Nat → Array Bool → Act → World → Prop
  | 0, listed, a, w => Region.ready md ops listed = [] ∧ Q .normal a w
  | fuel + 1, listed, a, w =>
    (Region.ready md ops listed = [] → Q .normal a w) ∧
    ∀ i ∈ Region.ready md ops listed, wpOp P ops Q i (fun a' w' => (i ≠ l → S w') ∧ wpAnyL P md ops Q S l fuel (listed.setIfInBounds i true) a' w') a w

theorem wpAny_of_last : ∀ (fuel : Nat) (listed : Array Bool) (a : Act) (w : World), wpAnyL P md ops Q S l fuel listed a w → wpAny P md ops Q fuel listed a w
  | 0, _, _, _, h => h
  | fuel + 1, _, _, _, h => ⟨h.1, fun i hi => wpOp_mono (fun a' w' h' => wpAny_of_last fuel _ a' w' h'.2) (h.2 i hi)⟩

def waits (md : Region.Mode) (ops : Array Oper) (l i : Nat) : Bool :=
  match ops[l]? with
  | some o => o.after.toList.any fun e => Region.binds md e && e.on == i
  | none => false

theorem waits_spec {i : Nat} (h : waits md ops l i = true) {o : Oper} (ho : ops[l]? = some o) : ∃ e ∈ o.after, Region.binds md e = true ∧ e.on = i := by
  unfold waits at h
  rw [ho] at h
  obtain ⟨e, he, hb⟩ := List.any_eq_true.1 h
  simp only [Bool.and_eq_true, beq_iff_eq] at hb
  exact ⟨e, by simpa using he, hb.1, hb.2⟩

theorem wpAnyL_first {i : Nat} {oi : Oper} {v : Value} (hi : ops[i]? = some oi) (hsel : ∀ (j : Nat) (o : Oper) cs b, ops[j]? = some o → o.op ≠ .select cs b)
    (hQ : ∀ c a w, Q (.panic c) (a.put oi.dst v) w → Q (.panic c) a w) (hwait : waits md ops l i = true) :
    ∀ (fuel : Nat) (listed : Array Bool) (a : Act) (w : World),
      (∀ j oj, ops[j]? = some oj → j ≠ i → listed.getD j true = false → (∀ e ∈ oj.after, Region.binds md e = true → e.on ≠ i) → oi.apart ops oj = true) →
      i ∈ Region.ready md ops listed → YieldsIf P ops S oi v a → S w →
      wpAnyL P md ops Q S l fuel (listed.setIfInBounds i true) (a.put oi.dst v) w → wpAnyL P md ops Q S l (fuel + 1) listed a w := by
  intro fuel
  induction fuel with
  | zero =>
    intro listed a w _ hr hy hS H
    refine ⟨fun h => (by rw [h] at hr; cases hr), fun j hj => ?_⟩
    by_cases hji : j = i
    · subst hji; exact hy.wpOp hi hS ⟨fun _ => hS, H⟩
    · have := ready_mono hj hji
      rw [H.1] at this
      cases this
  | succ fuel ih =>
    intro listed a w hfree hr hy hS H
    refine ⟨fun h => (by rw [h] at hr; cases hr), fun j hj => ?_⟩
    by_cases hji : j = i
    · subst hji; exact hy.wpOp hi hS ⟨fun _ => hS, H⟩
    · have h1 := H.2 j (ready_mono hj hji)
      obtain ⟨hjun, oj, hoj, hall⟩ := mem_ready.1 hj
      have hnot : ∀ e ∈ oj.after, Region.binds md e = true → e.on ≠ i := fun e he hb heq => by
        have h1 := hall e he hb
        have h0 := (mem_ready.1 hr).1
        rw [heq] at h1
        rcases Nat.lt_or_ge i listed.size with h' | h'
        · simp [h'] at h0 h1; rw [h0] at h1; cases h1
        · simp [Array.getElem?_eq_none h'] at h1
      have hjl : j ≠ l := fun e => by
        subst e
        obtain ⟨x, hx, hb, hon⟩ := waits_spec hwait hoj
        exact hnot x hx hb hon
      have h2 := wpOp_putIf hoj (hfree j oj hoj hji hjun hnot) (fun cs b => hsel i oi cs b hi) (fun cs b => hsel j oj cs b hoj) hQ hy h1
      have hfree' : ∀ k ok, ops[k]? = some ok → k ≠ i → (listed.setIfInBounds j true).getD k true = false →
          (∀ e ∈ ok.after, Region.binds md e = true → e.on ≠ i) → oi.apart ops ok = true := fun k ok hk hki hun hno => by
        refine hfree k ok hk hki ?_ hno
        by_cases hjk : j = k
        · subst hjk; exact hjun
        · rw [getD_set_ne true hjk] at hun; exact hun
      refine wpOp_mono (fun a' w' h3 => ⟨fun _ => h3.2.1 hjl, ih (listed.setIfInBounds j true) a' w' hfree' (ready_mono hr (Ne.symm hji)) h3.1 (h3.2.1 hjl) ?_⟩) h2
      rw [Array.setIfInBounds_comm _ _ hji]
      exact h3.2.2

theorem wpAnyL_take {i : Nat} {oi : Oper} {v : Value} {fuel : Nat} {listed : Array Bool} {a : Act} {w : World} (hi : ops[i]? = some oi)
    (hs : Region.noSelect ops = true) (hf : Region.free md ops listed i = true) (hr : (Region.ready md ops listed).contains i = true) (hwait : waits md ops l i = true)
    (hQ : ∀ c a w, Q (.panic c) (a.put oi.dst v) w → Q (.panic c) a w) (hS : S w) (hy : YieldsIf P ops S oi v a)
    (h : wpAnyL P md ops Q S l fuel (listed.setIfInBounds i true) (a.put oi.dst v) w) : wpAnyL P md ops Q S l (fuel + 1) listed a w :=
  wpAnyL_first hi (Region.noSelect_spec hs) hQ hwait fuel listed a w (Region.free_spec hi hf) (by simpa using hr) hy hS h

/- One alone may come up. -/
theorem wpAnyL_one {i : Nat} {o : Oper} {fuel : Nat} {listed : Array Bool} {a : Act} {w : World} (hr : Region.ready md ops listed = [i]) (ho : ops[i]? = some o)
    (h : ∀ K' : Act → World → Prop, Shut (∀ a w, (i ≠ l → S w) → wpAnyL P md ops Q S l fuel (listed.setIfInBounds i true) a w → K' a w) → if Region.wanted o (yielded ops a.tmps) = true then Oper.wp P o a w K' Q else K' (a.put o.dst undef) w) :
    wpAnyL P md ops Q S l (fuel + 1) listed a w :=
  ⟨fun h0 => (by rw [hr] at h0; cases h0), fun j hj => by
    rw [hr] at hj
    have e : j = i := by simpa using hj
    subst e
    exact wpOp_step ho (fun K' hK => h K' (fun a w hS hW => hK a w ⟨hS, hW⟩))⟩

theorem wpAnyL_done {listed : Array Bool} {a : Act} {w : World} (hr : Region.ready md ops listed = []) (h : Q .normal a w) : ∀ fuel, wpAnyL P md ops Q S l fuel listed a w
  | 0 => ⟨hr, h⟩
  | _ + 1 => ⟨fun _ => h, by rw [hr]; simp⟩

theorem wp_region_last {id : Nat} {a : Act} {w : World} (S : World → Prop) (l : Nat) (hm : P.follows .mixedOrders = true) (hS : S w.drew)
    (h : S w.drew → wpAnyL P .any ops Q S l ops.size (Array.replicate ops.size false) a w.drew) : (Code.region id ops true).wp P Q a w :=
  wp_region_any hm (wpAny_of_last _ _ _ _ (h hS))

end

end Go.Proofs.Ythchbbebconojaa

/-
  Those that draw straws, as they lie in memory; lists of them that are read, and copied.
  Conditions: none.
-/
namespace Go.Proofs.Ythchbbebconojaa.Sr
open Go.RowKit By Fl
set_option linter.unusedVariables false
set_option linter.unusedSimpArgs false
set_option maxRecDepth 100000

theorem keep {w v : World} {b o : Nat} {x : Value} (hb : Below w.heap.size w v) (h : w.cell? ⟨b, o, none⟩ = some x) : v.cell? ⟨b, o, none⟩ = some x := (hb.cell (p := ⟨b, o, none⟩) (cell_lt' h)).trans h
theorem on {a b c : World} (h : Below a.heap.size a b) (k : Below b.heap.size b c) : Below a.heap.size a c := h.trans (k.mono h.size)
theorem al (w : World) (o : Obj) : Below w.heap.size w (w.alloc o) := (Below.refl _ w).alloc (Nat.le_refl _) _

def enW (a : Wd) : List Value := [.int .i64 a.id, .int .i64 a.wt]
def vW (a : Wd) : Value := .agg #[.int .i64 a.id, .int .i64 a.wt]

def wfI (z : Int) : Prop := -9223372036854775808 ≤ z ∧ z ≤ 9223372036854775807

/- A list that is read. -/
structure Ws (w : World) (x : Option Addr) (n c : Nat) (L : List Wd) : Prop where
  len : L.length = n
  le : n ≤ c
  small : n * 16 ≤ 140737488351232
  nil : x = none → n = 0 ∧ c = 0
  row : n = 0 ∨ ∃ b o, x = some ⟨b, o, none⟩ ∧ b < w.heap.size ∧ ∀ (k : Nat) (a : Wd), L[k]? = some a → w.cell? ⟨b, o + k * 2, none⟩ = some (.int .i64 a.id) ∧ w.cell? ⟨b, o + k * 2 + 1, none⟩ = some (.int .i64 a.wt)

theorem Ws.below {w w' : World} {x : Option Addr} {n c : Nat} {L : List Wd} (h : Ws w x n c L) (hb : Below w.heap.size w w') : Ws w' x n c L := by
  refine ⟨h.len, h.le, h.small, h.nil, ?_⟩
  rcases h.row with h0 | ⟨b, o, h1, h2, h3⟩
  · exact .inl h0
  · exact .inr ⟨b, o, h1, Nat.lt_of_lt_of_le h2 hb.size, fun k a hk => ⟨keep hb (h3 k a hk).1, keep hb (h3 k a hk).2⟩⟩

theorem wrow : Row 29 23 2 16 enW := by
  have hi : (Try.prog.info? 23).map (fun i => (i.zero, i.size, i.bytes)) = some (some (.agg #[.int .i64 0, .int .i64 0]), 2, 16) := by kernel_rfl
  obtain ⟨i0, h1, h2, h3, h4⟩ := info_parts hi
  exact ⟨Try.underlying29, ⟨i0, _, h1, h2, h3, h4, rfl⟩, by decide, by decide, fun a => rfl, fun a v hv => by simp [enW] at hv; rcases hv with rfl | rfl <;> rfl⟩

/- A list of one's own is one that is read. -/
theorem own_ws {w : World} {B : Nat} {x : Option Addr} {n c : Nat} {L : List Wd} (h : Own w B 23 2 enW (.slice x n c) L) (hs : L.length * 16 ≤ 140737488351232) : Ws w x n c L := by
  obtain ⟨x', c', e, h1, h2, h3⟩ := h.form
  injection e with e1 e2 e3
  subst e1 e2 e3
  refine ⟨rfl, h1, hs, h2, ?_⟩
  by_cases h0 : L.length = 0
  · exact .inl h0
  · cases x with
    | none => exact .inl (h2 rfl).1
    | some ad =>
      obtain ⟨g, rfl, hB, hg⟩ := h3 ad rfl
      exact .inr ⟨g, 0, rfl, hg, fun k a hk => ⟨by rw [Nat.zero_add]; exact h.cell wrow.len hk (j := 0) rfl, by rw [Nat.zero_add]; exact h.cell wrow.len hk (j := 1) rfl⟩⟩

/- append([]Weighed{}, l...). -/
theorem copy_big {w : World} {x : Option Addr} {n c : Nat} {L : List Wd} (h : Ws w x n c L) : ∃ x' c' w', (Builtin.append_ #[29, 29] 29 #[.slice (some ⟨w.heap.size, 0, none⟩) 0 0, .slice x n c]).run Try.prog (w.alloc (.cells #[] 23)) = .ok (.slice x' n c') w' ∧
    Hid (Own w' w.heap.size 23 2 enW (.slice x' n c') L ∧ Below w.heap.size w w') := by
  have hi : (Try.prog.info? 23).map (fun i => (i.zero, i.size, i.bytes)) = some (some (.agg #[.int .i64 0, .int .i64 0]), 2, 16) := by kernel_rfl
  obtain ⟨i0, i1, i2, i3, i4⟩ := info_parts hi
  have he := Own.empty w (B := w.heap.size) (Nat.le_refl _) 23 2 enW
  have hn := h.small
  cases x with
  | none =>
    obtain ⟨h1, h2⟩ := h.nil rfl
    subst h1 h2
    have hL : L = [] := List.eq_nil_of_length_eq_zero h.len
    subst hL
    have hr := run_append_owned_none (P := Try.prog) _ w.heap.size 29 29 23 i0 2 Try.underlying29 i1 _ 0 _ he
    exact ⟨_, _, _, hr, he, al _ _⟩
  | some ad =>
    have h0 := h.below (al w (.cells #[] 23))
    have hl := h.len
    obtain ⟨R', w4, hap, ho, hgr, hnil, hR'⟩ := run_append_own_at (P := Try.prog) (w.alloc (.cells #[] 23)) w.heap.size 29 29 23 i0 _ 2 16 Try.underlying29 i1 i2 i3 i4 rfl (by omega) _ 0 _ he ad n c (flat enW L) (by rw [flat_len wrow.len, hl]) (fun j u hj => by
        have hjl := (List.getElem?_eq_some_iff.1 hj).1
        rw [flat_len wrow.len, hl] at hjl
        rcases h0.row with q | ⟨b, o, e, hb, hc⟩
        · omega
        · injection e with e
          subst e
          rw [add_at]
          obtain ⟨a, ha⟩ : ∃ a, L[j / 2]? = some a := ⟨L[j / 2]'(by omega), List.getElem?_eq_getElem (by omega)⟩
          have hjj : j / 2 * 2 + j % 2 = j := by omega
          have := flat_get (enc := enW) (sz := 2) wrow.len L (j / 2) a ha (j % 2) (by omega)
          rw [hjj] at this
          have hu := this.symm.trans hj
          obtain ⟨q0, q1⟩ := hc (j / 2) a ha
          rcases (show j % 2 = 0 ∨ j % 2 = 1 by omega) with e | e
          · rw [e] at hu
            cases hu
            rw [show o + j = o + j / 2 * 2 by omega]
            exact q0
          · rw [e] at hu
            cases hu
            rw [show o + j = o + j / 2 * 2 + 1 by omega]
            exact q1)
      (fun u hu => by obtain ⟨a, _, ha⟩ := flat_mem hu; exact wrow.one a u ha) (by unfold maxLen; omega) (by omega) (by simp)
    have ho' : Own w4 w.heap.size 23 2 enW R' L := by
      unfold Own
      rw [hl]
      simpa [flat] using ho
    obtain ⟨x', c', hRe, _, _, hbk⟩ := ho'.form
    rw [hl] at hRe
    subst hRe
    refine ⟨x', c', w4, hap, ho', ?_⟩
    exact (al w _).trans (((Turns.refl (fun k => k = w.heap.size) _).grown hgr (fun k hk => .inl (by simp [Value.ownBlock] at hk; omega))).below (B := w.heap.size) (fun k hk => by omega) (by simp))

theorem flat_set2 : ∀ (L : List Wd) (i : Nat) (a : Wd) (z : Int), L[i]? = some a → flat enW (L.set i ⟨a.id, z⟩) = (flat enW L).set (i * 2 + 1) (.int .i64 z)
  | [], i, a, z, h => by simp at h
  | b :: L, 0, a, z, h => by
    simp at h
    subst h
    simp [flat, enW]
  | b :: L, i + 1, a, z, h => by
    rw [List.set_cons_succ, flat_cons, flat_cons, flat_set2 L i a z (by simpa using h), show (i + 1) * 2 + 1 = (i * 2 + 1) + 2 by omega]
    simp [enW]

/- One's weight is written. -/
theorem own_turn {w : World} {B g n c i : Nat} {L : List Wd} {a : Wd} (h : Own w B 23 2 enW (.slice (some ⟨g, 0, none⟩) n c) L) (hi : L[i]? = some a) (z : Int) : Own (w.setCell ⟨g, i * 2 + 1, none⟩ (.int .i64 z)) B 23 2 enW (.slice (some ⟨g, 0, none⟩) n c) (L.set i ⟨a.id, z⟩) := by
  have hn := h.heap.1
  unfold Own at h ⊢
  rw [flat_set2 L i a z hi, List.length_set, hn]
  rw [hn] at h
  exact own_setCell h _ _

end Go.Proofs.Ythchbbebconojaa.Sr

/-
  What a law is told of one that draws, of a list of them, and of two numbers that came in, with their reach.
  Conditions: none.
-/
namespace Go.Proofs.Ythchbbebconojaa.Sr
open Go.RowKit Go.ChangeShapes Go.WideShapes Go.Deep By Fl
set_option linter.unusedVariables false
set_option linter.unusedSimpArgs false
set_option maxRecDepth 100000

theorem okWide_array {P : Program} {w : World} {base : Nat} {t e : TypeId} {k : Nat} {v : Value} (ht : P.underlying t = some (.array k e)) (h : Value.okWide P w .any base t v) : ∃ cs, v = .agg cs ∧ cs.size = P.cellsOf t := by
  simp only [Value.okWide, ht] at h
  obtain ⟨cs, h1, h2, _⟩ := h
  exact ⟨cs, h1, h2⟩

section
variable {H : Type} {enc : TypeId × Value → H} {W : World} {base : Nat} {held : Bool} {d : DataW H} {p : List MemPlace}

theorem one_cell : Try.prog.cellsOf 3 = 1 := by kernel_rfl
theorem w_two : Try.prog.cellsOf 23 = 2 := by kernel_rfl
theorem a_two : Try.prog.cellsOf 33 = 2 := by kernel_rfl

theorem w_cells {fuel : Nat} {e0 e1 : Value} (hf : DataW.trod enc Try.prog W base (fun _ => true) held fuel 23 [e0, e1] = some (d, p)) :
    ∃ o : Wd, e0 = .int .i64 o.id ∧ e1 = .int .i64 o.wt := by
  obtain ⟨xs, n, _, hx, _, hxl, hF⟩ := DataW.trod_struct Try.underlying23 hf
  obtain ⟨x0, x1, rfl⟩ : ∃ x0 x1, xs = [x0, x1] := by
    match xs, hxl with
    | [x0, x1], _ => exact ⟨x0, x1, rfl⟩
  have f0' : DataW.trod enc Try.prog W base (fun _ => true) held n 3 (([e0, e1].drop 0).take (Try.prog.cellsOf 3)) = some x0 := hF 0 _ rfl
  rw [one_cell] at f0'
  have f0 : DataW.trod enc Try.prog W base (fun _ => true) held n 3 [e0] = some (x0.1, x0.2) := f0'
  have f1' : DataW.trod enc Try.prog W base (fun _ => true) held n 3 (([e0, e1].drop 1).take (Try.prog.cellsOf 3)) = some x1 := hF 1 _ rfl
  rw [one_cell] at f1'
  have f1 : DataW.trod enc Try.prog W base (fun _ => true) held n 3 [e1] = some (x1.1, x1.2) := f1'
  obtain ⟨v0, q0, _⟩ := DataW.trod_int Try.underlying3 f0
  obtain ⟨v1, q1, _⟩ := DataW.trod_int Try.underlying3 f1
  simp at q0 q1
  subst q0 q1
  exact ⟨⟨v0, v1⟩, rfl, rfl⟩

theorem w_in {v : Value} (hv : ∃ cs, v = .agg cs ∧ cs.size = Try.prog.cellsOf 23) (h : DataW.Trod enc Try.prog W base (fun _ => true) held 23 v d p) :
    ∃ V : Wd, v = vW V := by
  obtain ⟨cs, rfl, hcs⟩ := hv
  obtain ⟨fuel, hf⟩ := h
  rw [w_two] at hcs
  obtain ⟨e0, e1, rfl⟩ : ∃ e0 e1, cs = #[e0, e1] := by
    obtain ⟨l⟩ := cs
    match l, hcs with
    | [e0, e1], _ => exact ⟨e0, e1, rfl⟩
  obtain ⟨o, rfl, rfl⟩ := w_cells hf
  exact ⟨o, rfl⟩

theorem two_in {v : Value} (hv : ∃ cs, v = .agg cs ∧ cs.size = Try.prog.cellsOf 33) (h : DataW.Trod enc Try.prog W base (fun _ => true) held 33 v d p) :
    ∃ V U : Int, v = .agg #[.int .i64 V, .int .i64 U] := by
  obtain ⟨cs, rfl, hcs⟩ := hv
  obtain ⟨fuel, hf⟩ := h
  rw [a_two] at hcs
  obtain ⟨e0, e1, rfl⟩ : ∃ e0 e1, cs = #[e0, e1] := by
    obtain ⟨l⟩ := cs
    match l, hcs with
    | [e0, e1], _ => exact ⟨e0, e1, rfl⟩
  change DataW.trod enc Try.prog W base (fun _ => true) held fuel 33 [e0, e1] = some (d, p) at hf
  obtain ⟨xs, n, _, hx, _, hxl, hF⟩ := DataW.trod_array Try.underlying33 hf
  obtain ⟨x0, x1, rfl⟩ : ∃ x0 x1, xs = [x0, x1] := by
    match xs, hxl with
    | [x0, x1], _ => exact ⟨x0, x1, rfl⟩
  have f0' := hF 0 (by omega)
  rw [one_cell] at f0'
  have f0 : DataW.trod enc Try.prog W base (fun _ => true) held n 3 [e0] = some (x0.1, x0.2) := f0'
  have f1' := hF 1 (by omega)
  rw [one_cell] at f1'
  have f1 : DataW.trod enc Try.prog W base (fun _ => true) held n 3 [e1] = some (x1.1, x1.2) := f1'
  obtain ⟨v0, q0, _⟩ := DataW.trod_int Try.underlying3 f0
  obtain ⟨v1, q1, _⟩ := DataW.trod_int Try.underlying3 f1
  simp at q0 q1
  subst q0 q1
  exact ⟨v0, v1, rfl⟩

theorem ws_open {fuel : Nat} {cs : List Value} (hf : DataW.trod enc Try.prog W base (fun _ => true) held fuel 29 cs = some (d, p)) :
    (cs = [.slice none 0 0] ∧ d = .nil) ∨
    ∃ (a : Addr) (len cap n : Nat) (DD : Nat → DataW H) (Pl : Nat → List MemPlace), cs = [.slice (some a) len cap] ∧ len ≤ cap ∧ d = .slice ((List.range len).map DD) ((List.range (cap - len)).map fun j => DD (len + j)) ∧
      ∀ i, i < cap → ∃ e0 e1, (∀ j v, [e0, e1][j]? = some v → W.cell? (a.add (i * 2 + j)) = some v) ∧ DataW.trod enc Try.prog W base (fun _ => true) held n 23 [e0, e1] = some (DD i, Pl i) := by
  rcases open_slice Try.underlying29 hf with ⟨h1, h2⟩ | ⟨a, len, cap, m, n, DD, Pl, rfl, hb, hl, hm, hmm, hx, hcell⟩
  · simp only [Prod.mk.injEq] at h2
    exact .inl ⟨h1, h2.1⟩
  · simp only [if_true] at hmm
    subst hmm
    simp only [Prod.mk.injEq] at hx
    refine .inr ⟨a, len, m, n, DD, Pl, rfl, hl, hx.1, fun i hi => ?_⟩
    obtain ⟨cs', h1, h2⟩ := hcell i hi
    rw [w_two] at h1
    obtain ⟨_, hlen, hc⟩ := World.cells?_some h1
    match cs', hlen with
    | [e0, e1], _ =>
      refine ⟨e0, e1, fun j v hv => ?_, h2⟩
      have hj := (List.getElem?_eq_some_iff.1 hv).1
      have q := hc j (by simpa using hj)
      rw [add_add] at q
      rw [q, ← hv, List.getElem?_eq_getElem hj]

theorem ws_in {fuel : Nat} {cs : List Value} (hf : DataW.trod enc Try.prog W base (fun _ => true) held fuel 29 cs = some (d, p)) (hw : ∀ x ∈ d.weights Try.prog 29, x ≤ reachBytes) :
    ∃ a len cap V, cs = [.slice a len cap] ∧ Ws W a len cap V := by
  rcases ws_open hf with ⟨h1, _⟩ | ⟨a, len, cap, n, DD, Pl, h1, hl, rfl, hc⟩
  · exact ⟨none, 0, 0, [], h1, ⟨rfl, Nat.le_refl _, by omega, fun _ => ⟨rfl, rfl⟩, .inl rfl⟩⟩
  · have hb48 : Try.prog.bytesOf 23 = 16 := by kernel_rfl
    simp only [DataW.weights, Try.underlying29, List.mem_cons, List.mem_append, hb48] at hw
    have hw0 := hw _ (.inl rfl)
    simp only [List.length_map, List.length_range, reachBytes] at hw0
    haveI : Inhabited Wd := ⟨⟨0, 0⟩⟩
    have each : ∀ i, i < len → ∃ v : Wd, ∀ (j : Nat) (u : Value), (enW v)[j]? = some u → W.cell? (a.add (i * 2 + j)) = some u := fun i hi => by
      obtain ⟨e0, e1, g, g5⟩ := hc i (by omega)
      obtain ⟨o, rfl, rfl⟩ := w_cells g5
      exact ⟨o, fun j u hu => g j u hu⟩
    obtain ⟨V, hV⟩ := choose_lt each
    refine ⟨some a, len, cap, (List.range len).map V, h1, ⟨by simp, hl, by omega, (fun h => by cases h), ?_⟩⟩
    by_cases h0 : len = 0
    · exact .inl h0
    · obtain ⟨b, off, spot⟩ := a
      have c0 := hV 0 (by omega) 0 _ rfl
      have hspot : spot = none := by simpa [Addr.add] using World.cell?_spot c0
      subst hspot
      refine .inr ⟨b, off, rfl, by simpa [Addr.add] using cell_lt' c0, fun q x hq => ?_⟩
      have hql : q < len := by simpa using (List.getElem?_eq_some_iff.1 hq).1
      have hx : V q = x := by simpa [hql] using hq
      subst hx
      have t0 := hV q hql 0 _ rfl
      have t1 := hV q hql 1 _ rfl
      rw [add_at] at t0 t1
      exact ⟨t0, by rw [Nat.add_assoc]; exact t1⟩

end

end Go.Proofs.Ythchbbebconojaa.Sr

/-
  What the calls of package mix that mix do, and the document's: contracts over plain numbers ('MiPlain').
  Conditions: numbers of 32 bits.
-/
namespace Go.Proofs.Ythchbbebconojaa.Mi
open Go.RowKit
set_option linter.unusedVariables false

theorem xs16 (a : Nat) (ha : a < 4294967296) : bits .xor .u32 (a : Int) ((a : Int) / 65536) = ((mA a : Nat) : Int) :=
  u32_xor_nat a (a / 65536) ha (by omega)
theorem xs15 (a : Nat) : bits .xor .u32 (mB a : Int) ((mB a : Int) / 32768) = ((mC a : Nat) : Int) :=
  u32_xor_nat (mB a) (mB a / 32768) (mB_lt a) (by have := mB_lt a; omega)
theorem xs16b (a : Nat) : bits .xor .u32 (mD a : Int) ((mD a : Int) / 65536) = ((mx a : Nat) : Int) :=
  u32_xor_nat (mD a) (mD a / 65536) (mD_lt a) (by have := mD_lt a; omega)
theorem tB (a : Nat) : (mA a : Int) * 2146121005 % 4294967296 = ((mB a : Nat) : Int) := by unfold mB; rfl
theorem tD (a : Nat) : (mC a : Int) * 2221713035 % 4294967296 = ((mD a : Nat) : Int) := by unfold mD; rfl

/- Mix(x). -/
theorem mix_any (a : Nat) (w : World) (ha : a < 4294967296) :
    Calls Try.prog 20 #[.int .u32 a] w fun e w' => e = .returned (.int .u32 (mx a : Int)) ∧ w' = w := by
  have h1 := xs16 a ha
  have h2 := xs15 a
  have h3 := xs16b a
  have h4 := tB a
  have h5 := tD a
  have l1 := mA_lt ha
  have l2 := mB_lt a
  have l3 := mC_lt a
  have l4 := mD_lt a
  generalize mA a = A at *
  generalize mB a = B at *
  generalize mC a = C at *
  generalize mD a = D at *
  generalize mx a = M at *
  go_enter Try.func20, Try.ntmps20
  go_wp2_with fail
  go_ret
  exact ⟨rfl, rfl⟩

/- the document's Mix(x). -/
theorem rmix_any (a : Nat) (w : World) (ha : a < 4294967296) :
    Calls Try.prog 24 #[.int .u32 a] w fun e w' => e = .returned (.int .u32 (mx a : Int)) ∧ w' = w := by
  have h1 := xs16 a ha
  have h2 := xs15 a
  have h3 := xs16b a
  have h4 := tB a
  have h5 := tD a
  have l1 := mA_lt ha
  have l2 := mB_lt a
  have l3 := mC_lt a
  have l4 := mD_lt a
  generalize mA a = A at *
  generalize mB a = B at *
  generalize mC a = C at *
  generalize mD a = D at *
  generalize mx a = M at *
  go_enter Try.func24, Try.ntmps24
  go_wp2_with fail
  go_ret
  exact ⟨rfl, rfl⟩

end Go.Proofs.Ythchbbebconojaa.Mi

/-
  Hash2 and Hash3, the program's and the document's, over plain numbers ('MiPlain').
  Conditions: numbers of 32 bits.
-/
namespace Go.Proofs.Ythchbbebconojaa.Mi
open Go.RowKit
set_option linter.unusedVariables false

theorem hash2_gen (f : Nat → Nat) (a b A B : Nat) (w : World) (ha : a < 4294967296) (hb : b < 4294967296) (e1 : ((a : Int) + 2654435761) % 4294967296 = (A : Int)) (l1 : A < 4294967296) (l2 : ∀ x, f x < 4294967296) (l3 : B < 4294967296)
    (e2 : bits .xor .u32 (f A : Int) (b : Int) = (B : Int)) (c : ∀ x w, x < 4294967296 → Calls Try.prog 20 #[.int .u32 (x : Nat)] w fun e w' => e = .returned (.int .u32 (f x : Nat)) ∧ w' = w) :
    Calls Try.prog 21 #[.int .u32 (a : Nat), .int .u32 (b : Nat)] w fun e w' => e = .returned (.int .u32 (f B : Nat)) ∧ w' = w := by
  have l4 := l2 A
  have l5 := l2 B
  go_enter Try.func21, Try.ntmps21
  go_wp2_with (go_at_call 20; refine (c _ _ (by first | exact l1 | exact l3)).mono ?_; rintro e w' ⟨rfl, rfl⟩)
  go_ret
  exact ⟨rfl, rfl⟩

theorem hash2_any (a b : Nat) (w : World) (ha : a < 4294967296) (hb : b < 4294967296) :
    Calls Try.prog 21 #[.int .u32 (a : Nat), .int .u32 (b : Nat)] w fun e w' => e = .returned (.int .u32 (h2 a b : Nat)) ∧ w' = w :=
  hash2_gen mx a b ((a + 2654435761) % 4294967296) (mx ((a + 2654435761) % 4294967296) ^^^ b) w ha hb (by omega) (by omega) mx_lt (xor32 (mx_lt _) hb) (u32_xor_nat _ _ (mx_lt _) hb)
    mix_any

theorem rhash2_gen (f : Nat → Nat) (a b A B : Nat) (w : World) (ha : a < 4294967296) (hb : b < 4294967296) (e1 : ((a : Int) + 2654435761) % 4294967296 = (A : Int)) (l1 : A < 4294967296) (l2 : ∀ x, f x < 4294967296) (l3 : B < 4294967296)
    (e2 : bits .xor .u32 (f A : Int) (b : Int) = (B : Int)) (c : ∀ x w, x < 4294967296 → Calls Try.prog 24 #[.int .u32 (x : Nat)] w fun e w' => e = .returned (.int .u32 (f x : Nat)) ∧ w' = w) :
    Calls Try.prog 23 #[.int .u32 (a : Nat), .int .u32 (b : Nat)] w fun e w' => e = .returned (.int .u32 (f B : Nat)) ∧ w' = w := by
  have l4 := l2 A
  have l5 := l2 B
  go_enter Try.func23, Try.ntmps23
  go_wp2_with (go_at_call 24; refine (c _ _ (by first | exact l1 | exact l3)).mono ?_; rintro e w' ⟨rfl, rfl⟩)
  go_ret
  exact ⟨rfl, rfl⟩

theorem rhash2_any (a b : Nat) (w : World) (ha : a < 4294967296) (hb : b < 4294967296) :
    Calls Try.prog 23 #[.int .u32 (a : Nat), .int .u32 (b : Nat)] w fun e w' => e = .returned (.int .u32 (h2 a b : Nat)) ∧ w' = w :=
  rhash2_gen mx a b ((a + 2654435761) % 4294967296) (mx ((a + 2654435761) % 4294967296) ^^^ b) w ha hb (by omega) (by omega) mx_lt (xor32 (mx_lt _) hb) (u32_xor_nat _ _ (mx_lt _) hb)
    rmix_any

theorem hash3_gen (a b c A H B R : Nat) (w : World) (ha : a < 4294967296) (hb : b < 4294967296) (hc : c < 4294967296) (e1 : ((c : Int) + 2246822519) % 4294967296 = (A : Int)) (l1 : A < 4294967296) (l2 : H < 4294967296) (l3 : B < 4294967296) (l4 : R < 4294967296)
    (e2 : bits .xor .u32 (H : Int) (A : Int) = (B : Int)) (c1 : ∀ w, Calls Try.prog 21 #[.int .u32 (a : Nat), .int .u32 (b : Nat)] w fun e w' => e = .returned (.int .u32 (H : Nat)) ∧ w' = w) (c2 : ∀ w, Calls Try.prog 20 #[.int .u32 (B : Nat)] w fun e w' => e = .returned (.int .u32 (R : Nat)) ∧ w' = w) :
    Calls Try.prog 16 #[.int .u32 (a : Nat), .int .u32 (b : Nat), .int .u32 (c : Nat)] w fun e w' => e = .returned (.int .u32 (R : Nat)) ∧ w' = w := by
  go_enter Try.func16, Try.ntmps16
  go_wp2_with (first | (go_at_call 21; refine (c1 _).mono ?_; rintro e w' ⟨rfl, rfl⟩) | (go_at_call 20; refine (c2 _).mono ?_; rintro e w' ⟨rfl, rfl⟩))
  go_ret
  exact ⟨rfl, rfl⟩

theorem hash3_any (a b c : Nat) (w : World) (ha : a < 4294967296) (hb : b < 4294967296) (hc : c < 4294967296) :
    Calls Try.prog 16 #[.int .u32 (a : Nat), .int .u32 (b : Nat), .int .u32 (c : Nat)] w fun e w' => e = .returned (.int .u32 (h3 a b c : Nat)) ∧ w' = w :=
  hash3_gen a b c ((c + 2246822519) % 4294967296) (h2 a b) (h2 a b ^^^ ((c + 2246822519) % 4294967296)) (h3 a b c) w ha hb hc (by omega) (by omega) (h2_lt a b) (xor32 (h2_lt a b) (by omega)) (h3_lt a b c) (u32_xor_nat _ _ (h2_lt a b) (by omega))
    (fun w => hash2_any a b w ha hb) (fun w => mix_any _ w (xor32 (h2_lt a b) (by omega)))

theorem rhash3_gen (a b c A H B R : Nat) (w : World) (ha : a < 4294967296) (hb : b < 4294967296) (hc : c < 4294967296) (e1 : ((c : Int) + 2246822519) % 4294967296 = (A : Int)) (l1 : A < 4294967296) (l2 : H < 4294967296) (l3 : B < 4294967296) (l4 : R < 4294967296)
    (e2 : bits .xor .u32 (H : Int) (A : Int) = (B : Int)) (c1 : ∀ w, Calls Try.prog 23 #[.int .u32 (a : Nat), .int .u32 (b : Nat)] w fun e w' => e = .returned (.int .u32 (H : Nat)) ∧ w' = w) (c2 : ∀ w, Calls Try.prog 24 #[.int .u32 (B : Nat)] w fun e w' => e = .returned (.int .u32 (R : Nat)) ∧ w' = w) :
    Calls Try.prog 18 #[.int .u32 (a : Nat), .int .u32 (b : Nat), .int .u32 (c : Nat)] w fun e w' => e = .returned (.int .u32 (R : Nat)) ∧ w' = w := by
  go_enter Try.func18, Try.ntmps18
  go_wp2_with (first | (go_at_call 23; refine (c1 _).mono ?_; rintro e w' ⟨rfl, rfl⟩) | (go_at_call 24; refine (c2 _).mono ?_; rintro e w' ⟨rfl, rfl⟩))
  go_ret
  exact ⟨rfl, rfl⟩

theorem rhash3_any (a b c : Nat) (w : World) (ha : a < 4294967296) (hb : b < 4294967296) (hc : c < 4294967296) :
    Calls Try.prog 18 #[.int .u32 (a : Nat), .int .u32 (b : Nat), .int .u32 (c : Nat)] w fun e w' => e = .returned (.int .u32 (h3 a b c : Nat)) ∧ w' = w :=
  rhash3_gen a b c ((c + 2246822519) % 4294967296) (h2 a b) (h2 a b ^^^ ((c + 2246822519) % 4294967296)) (h3 a b c) w ha hb hc (by omega) (by omega) (h2_lt a b) (xor32 (h2_lt a b) (by omega)) (h3_lt a b c) (u32_xor_nat _ _ (h2_lt a b) (by omega))
    (fun w => rhash2_any a b w ha hb) (fun w => rmix_any _ w (xor32 (h2_lt a b) (by omega)))

end Go.Proofs.Ythchbbebconojaa.Mi

/-
  math/bits.Len, for numbers that have a logarithm.
  Conditions: the number is 1 to 65536.
-/
namespace Go.Proofs.Ythchbbebconojaa.Mi
set_option linter.unusedVariables false

theorem len8_all : ∀ n : Fin 256, Lib.len8 (n.val : Int) = (bitLen n.val : Int) := by decide +kernel
theorem len8_nat (n : Nat) (h : n < 256) : Lib.len8 (n : Int) = (bitLen n : Int) := len8_all ⟨n, h⟩

theorem leaf0 (u : Nat) (h : u < 256) : (Lib.len8 ((u : Int) % 256) + 9223372036854775808) % 18446744073709551616 - 9223372036854775808 = (bitLen u : Int) := by
  rw [show (u : Int) % 256 = (u : Int) by omega, len8_nat u h]
  have := bitLen_le8 u h
  omega
theorem leaf8 (u : Nat) (h0 : 256 ≤ u) (h : u < 65536) : (8 + ((Lib.len8 ((u : Int) / 256 % 256) + 9223372036854775808) % 18446744073709551616 - 9223372036854775808) + 9223372036854775808) % 18446744073709551616 - 9223372036854775808 = (bitLen u : Int) := by
  have e : bitLen u = 8 + bitLen (u / 256) := bitLen_shift u 8 (by omega)
  rw [show (u : Int) / 256 % 256 = ((u / 256 : Nat) : Int) by omega, len8_nat (u / 256) (by omega), e]
  have := bitLen_le8 (u / 256) (by omega)
  omega
theorem leaf16 (u : Nat) (h : u = 65536) : (16 + ((Lib.len8 ((u : Int) / 65536 % 256) + 9223372036854775808) % 18446744073709551616 - 9223372036854775808) + 9223372036854775808) % 18446744073709551616 - 9223372036854775808 = (bitLen u : Int) := by
  subst h
  decide +kernel

set_option maxHeartbeats 4000000 in
set_option maxRecDepth 100000 in
theorem len64_any (u : Nat) (w : World) (h1 : 1 ≤ u) (h2 : u ≤ 65536) :
    Calls Try.prog 26 #[.int .u64 u] w fun e w' => e = .returned (.int .i64 (bitLen u : Int)) ∧ w' = w := by
  have HB : id (1 ≤ u ∧ u ≤ 65536) := ⟨h1, h2⟩
  have h0 : (u : Int) ≤ 18446744073709551615 := by omega
  clear h1 h2
  go_enter Try.func26, Try.ntmps26
  go_wp2
  all_goals (go_ret; refine ⟨congrArg Ending.returned (congrArg (Value.int IntKind.i64) ?_), rfl⟩)
  all_goals obtain ⟨b1, b2⟩ : 1 ≤ u ∧ u ≤ 65536 := HB
  all_goals first
    | (exfalso; omega)
    | (have hq : u = 65536 := by omega
       exact leaf16 u hq)
    | (have hq : 256 ≤ u := by omega
       have hr : u < 65536 := by omega
       exact leaf8 u hq hr)
    | (have hq : u < 256 := by omega
       exact leaf0 u hq)

theorem len_any (u : Nat) (w : World) (h1 : 1 ≤ u) (h2 : u ≤ 65536) :
    Calls Try.prog 22 #[.int .u64 u] w fun e w' => e = .returned (.int .i64 (bitLen u : Int)) ∧ w' = w := by
  have c := fun w => len64_any u w h1 h2
  go_enter Try.func22, Try.ntmps22
  go_wp2_with (go_at_call 26; refine (c _).mono ?_; rintro e w' ⟨rfl, rfl⟩)
  go_ret
  exact ⟨rfl, rfl⟩

end Go.Proofs.Ythchbbebconojaa.Mi

/-
  A number's logarithm, the program's, over plain numbers ('MiPlain').
  Conditions: none.
-/
namespace Go.Proofs.Ythchbbebconojaa.Mi
open Go.RowKit
set_option linter.unusedVariables false

theorem or_bit (d b : Nat) (hb : b ≤ 1) (hd : d < 285212672) : bits .or .i64 ((d : Int) * 2) (b : Int) = ((d * 2 + b : Nat) : Int) := by
  have e : (d : Int) * 2 = ((d * 2 : Nat) : Int) := by omega
  rw [e]
  show IntKind.i64.wrap ((BitVec.ofInt 64 ((d * 2 : Nat) : Int) ||| BitVec.ofInt 64 (b : Int)).toNat : Int) = _
  rw [BitVec.toNat_or, ofInt_u64 _ (by omega), ofInt_u64 _ (by omega), nat_join 1 (d * 2) b (by omega) (by omega)]
  rw [IntKind.wrap_i64]
  omega

theorem wrap_y (u n y : Nat) (hy : y < 4294967296) (h : y = u * 2 ^ (31 - n)) : IntKind.u64.wrap ((u : Int) * 2 ^ (31 - n)) = (y : Int) := by
  have e : (u : Int) * 2 ^ (31 - n) = ((u * 2 ^ (31 - n) : Nat) : Int) := by simp
  rw [e, ← h, IntKind.wrap_u64]
  omega

theorem lp_dec (k y d : Nat) : d ≤ lp k y d := by
  rw [lp_add]
  have := Nat.le_mul_of_pos_right d (Nat.two_pow_pos k)
  omega

/- Log(u), of a number that has none. -/
theorem log_no (u : Int) (w : World) (h : u < 1 ∨ 65536 < u) (h1 : -9223372036854775808 ≤ u) (h2 : u ≤ 9223372036854775807) :
    Calls Try.prog 17 #[.int .i64 u] w fun e w' => e = .returned (.tuple #[.int .i64 0, .bool false]) ∧ w' = w := by
  rcases h with h | h
  all_goals (
    go_enter Try.func17, Try.ntmps17
    go_wp2_with fail
    go_ret2
    exact ⟨rfl, rfl⟩)

set_option maxHeartbeats 1600000 in
set_option maxRecDepth 100000 in
theorem log_yes (u : Nat) (w : World) (h1 : 1 ≤ u) (h2 : u ≤ 65536) :
    Calls Try.prog 17 #[.int .i64 u] w fun e w' => e = .returned (.tuple #[.int .i64 (lg u : Int), .bool true]) ∧ w' = w := by
  have c := fun w => len_any u w h1 h2
  rw [pl_len h1] at c
  have hp := pl_le h1 h2
  have hy := y0_lt h1 h2
  have hL := lg_le h1 h2
  have HL : Hid (lg u = lp 24 (y0 u) (pl u)) := rfl
  have HY : Hid (y0 u = u * 2 ^ (31 - pl u)) := rfl
  generalize pl u = n at *
  generalize y0 u = y at *
  generalize lg u = L at *
  go_enter Try.func17, Try.ntmps17
  go_wp2_with (go_at_call 22; refine (c _).mono ?_; rintro e w' ⟨rfl, rfl⟩)
  have EY : IntKind.u64.wrap ((u : Int) * 2 ^ (31 - n)) = (y : Int) := by
    exact wrap_y u n y hy HY.out
  clear c
  go_loop [4, 5, 22] (fun d z i => ∃ k D Y : Nat, k ≤ 24 ∧ D < 285212672 ∧ Y < 4294967296 ∧ d = .int .i64 D ∧ z = .int .u64 Y ∧ i = .int .i64 k ∧ Hid (L = lp (24 - k) Y D)) (fun _ _ i => 24 - (intOf i).toNat)
  case atStart => exact ⟨0, n, y, by omega, by omega, hy, rfl, by rw [EY], rfl, HL⟩
  case round =>
    obtain ⟨k, D, Y, hk, hD, hY, rfl, rfl, rfl, HR⟩ := hrel
    by_cases hlt : k < 24
    · have HS : Hid (L = lp (24 - (k + 1)) (nx Y) (D * 2 + dg Y)) := by
        have := HR.out
        rw [show 24 - k = (24 - (k + 1)) + 1 by omega, lp] at this
        exact this
      have hn := nx_lt hY
      have hd2 : D * 2 + dg Y < 285212672 := by
        have := lp_dec (24 - (k + 1)) (nx Y) (D * 2 + dg Y)
        rw [← HS.out] at this
        omega
      have hq := sq_top hY
      have e1 : (Y : Int) * (Y : Int) = ((Y * Y : Nat) : Int) := by omega
      by_cases hs : 4294967296 ≤ sq Y
      · have f1 : dg Y = 1 := if_pos hs
        have f2 : nx Y = sq Y / 2 := if_pos hs
        rw [f1] at HS hd2
        rw [f2] at HS hn
        have o1 := or_bit D 1 (by omega) hD
        unfold sq at HS hn hs
        generalize Y * Y = Q at *
        clear HR f1 f2
        have e2 : (Q : Int) / 2147483648 / 4294967296 = 1 := by omega
        go_wp2_with fail
        go_round
        case rel => exact ⟨k + 1, D * 2 + 1, Q / 2147483648 / 2, by omega, hd2, hn, congrArg (Value.int IntKind.i64) o1, by go_num, by go_num, HS⟩
        case measure => simp [intOf]; omega
      · have f1 : dg Y = 0 := if_neg hs
        have f2 : nx Y = sq Y := if_neg hs
        rw [f1] at HS hd2
        rw [f2] at HS hn
        have o1 := or_bit D 0 (by omega) hD
        unfold sq at HS hn hs
        generalize Y * Y = Q at *
        clear HR f1 f2
        have e2 : (Q : Int) / 2147483648 / 4294967296 = 0 := by omega
        go_wp2_with fail
        go_round
        case rel => exact ⟨k + 1, D * 2 + 0, Q / 2147483648, by omega, hd2, hn, congrArg (Value.int IntKind.i64) o1, by go_num, by go_num, HS⟩
        case measure => simp [intOf]; omega
    · have HE : Hid (L = D) := by
        have := HR.out
        rw [show 24 - k = 0 by omega, lp] at this
        exact this
      go_wp2_with fail
      go_ret2
      exact ⟨by rw [HE.out]; rfl, rfl⟩

end Go.Proofs.Ythchbbebconojaa.Mi

/-
  A number's logarithm, the document's, over plain numbers ('MiPlain'); the statements' own test of powers' logarithms.
  Conditions: none.
-/
namespace Go.Proofs.Ythchbbebconojaa.Mi
open Go.RowKit
set_option linter.unusedVariables false

theorem half_pl (v : Nat) (h : 1 < v) : pl v = pl (v / 2) + 1 := by
  have a := pl_spec (show 1 ≤ v / 2 by omega)
  exact pl_uniq (by omega) (by rw [Nat.pow_succ]; omega) (by rw [Nat.pow_succ]; omega)

theorem pl_one : pl 1 = 0 := by decide +kernel

theorem y0_part (u n i : Nat) (hn : n ≤ 16) (hi : i ≤ 31 - n) (h : u * 2 ^ (31 - n) < 4294967296) : u * 2 ^ i < 4294967296 := by
  have : u * 2 ^ i ≤ u * 2 ^ (31 - n) := Nat.mul_le_mul_left u (Nat.pow_le_pow_right (by omega) hi)
  omega

/- Log(u), of a number that has none. -/
theorem rlog_no (u : Int) (w : World) (h : u < 1 ∨ 65536 < u) (h1 : -9223372036854775808 ≤ u) (h2 : u ≤ 9223372036854775807) :
    Calls Try.prog 19 #[.int .i64 u] w fun e w' => e = .returned (.tuple #[.int .i64 0, .bool false]) ∧ w' = w := by
  rcases h with h | h
  all_goals (
    go_enter Try.func19, Try.ntmps19
    go_wp2_with fail
    go_ret2
    exact ⟨rfl, rfl⟩)

set_option maxHeartbeats 1600000 in
set_option maxRecDepth 100000 in
theorem rlog_yes (u : Nat) (w : World) (h1 : 1 ≤ u) (h2 : u ≤ 65536) :
    Calls Try.prog 19 #[.int .i64 u] w fun e w' => e = .returned (.tuple #[.int .i64 (lg u : Int), .bool true]) ∧ w' = w := by
  have hp := pl_le h1 h2
  have hy := y0_lt h1 h2
  have hL := lg_le h1 h2
  have HP : Hid (pl u = pl u) := rfl
  go_enter Try.func19, Try.ntmps19
  go_wp2_with fail
  go_loop [4, 5] (fun a b => ∃ m v : Nat, 1 ≤ v ∧ v ≤ 65536 ∧ m ≤ 16 ∧ a = .int .i64 m ∧ b = .int .i64 v ∧ Hid (m + pl v = pl u)) (fun _ b => (intOf b).toNat)
  case atStart => exact ⟨0, u, h1, h2, by omega, rfl, rfl, Nat.zero_add _⟩
  case round =>
    obtain ⟨m, v, hv1, hv2, hm, rfl, rfl, HR⟩ := hrel
    by_cases hlt : 1 < v
    · have HS : Hid (m + 1 + pl (v / 2) = pl u) := by
        have := HR.out
        rw [half_pl v hlt] at this
        have e : m + 1 + pl (v / 2) = pl u := by omega
        exact e
      have hm1 : m + 1 ≤ 16 := by
        have := HS.out
        omega
      generalize pl u = n at *
      generalize lg u = L at *
      generalize y0 u = y at *
      go_wp2_with fail
      go_round
      case rel => exact ⟨m + 1, v / 2, by omega, by omega, hm1, by go_num, by go_num, HS⟩
      case measure => simp [intOf]; omega
    · have hm2 : m = pl u := by
        have := HR.out
        rw [show v = 1 by omega, pl_one] at this
        exact this
      have hv3 : v = 1 := by omega
      have HL : Hid (lg u = m * 16777216 + lp 24 (y0 u) 0) := by
        have := lg_eq u
        rw [← hm2] at this
        exact this
      have HY : Hid (y0 u = u * 2 ^ (31 - m)) := by
        rw [hm2]
        exact rfl
      subst hv3
      clear HR HP hm2 hp
      generalize y0 u = y at *
      go_wp2_with fail
      go_loop [6, 7] (fun a b => ∃ i Y : Nat, i ≤ 31 - m ∧ Y < 4294967296 ∧ a = .int .u64 Y ∧ b = .int .i64 i ∧ Hid (Y = u * 2 ^ i)) (fun _ b => 31 - (intOf b).toNat)
      case atStart => exact ⟨0, u, by omega, by omega, rfl, rfl, (Nat.mul_one u).symm⟩
      case round =>
        obtain ⟨i, Y, hi, hY, rfl, rfl, HR⟩ := hrel
        by_cases hlt : i < 31 - m
        · have HS : Hid (Y * 2 = u * 2 ^ (i + 1)) := by
            rw [HR.out, Nat.pow_succ, Nat.mul_assoc]
            exact rfl
          have hY2 : Y * 2 < 4294967296 := by
            rw [HS.out]
            exact y0_part u m (i + 1) hm (by omega) (by rw [← HY.out]; exact hy)
          go_wp2_with fail
          go_round
          case rel => exact ⟨i + 1, Y * 2, by omega, hY2, by go_num, by go_num, HS⟩
          case measure => simp [intOf]; omega
        · have HE : Hid (Y = y) := by
            rw [HR.out, HY.out, show i = 31 - m by omega]
            exact rfl
          have HL2 : Hid (lg u = m * 16777216 + lp 24 Y 0) := by
            rw [HE.out]
            exact HL.out
          clear HE HR HY HL
          go_wp2_with fail
          go_loop [6, 8, 9] (fun z d j => ∃ k D Z : Nat, k ≤ 24 ∧ D < 16777216 ∧ Z < 4294967296 ∧ z = .int .u64 Z ∧ d = .int .i64 D ∧ j = .int .i64 k ∧ Hid (lg u = m * 16777216 + lp (24 - k) Z D)) (fun _ _ j => 24 - (intOf j).toNat)
          case atStart => exact ⟨0, 0, Y, by omega, by omega, hY, rfl, rfl, rfl, HL2⟩
          case round =>
            obtain ⟨k, D, Z, hk, hD, hZ, rfl, rfl, rfl, HR⟩ := hrel
            by_cases hlt : k < 24
            · have HS : Hid (lg u = m * 16777216 + lp (24 - (k + 1)) (nx Z) (D * 2 + dg Z)) := by
                have := HR.out
                rw [show 24 - k = (24 - (k + 1)) + 1 by omega, lp] at this
                exact this
              have hn := nx_lt hZ
              have hd2 : D * 2 + dg Z < 16777216 := by
                have a1 := lp_dec (24 - (k + 1)) (nx Z) (D * 2 + dg Z)
                have a2 := HS.out
                have a3 := HL2.out
                have a4 := lp_lt 24 Y
                omega
              have hq := sq_top hZ
              have e1 : (Z : Int) * (Z : Int) = ((Z * Z : Nat) : Int) := by omega
              by_cases hs : 4294967296 ≤ sq Z
              · have f1 : dg Z = 1 := if_pos hs
                have f2 : nx Z = sq Z / 2 := if_pos hs
                rw [f1] at HS hd2
                rw [f2] at HS hn
                unfold sq at HS hn hs
                generalize Z * Z = Q at *
                clear HR f1 f2 HL2
                have hS : Q / 2147483648 < 8589934592 := by omega
                have e2 : (Q : Int) / 2147483648 = ((Q / 2147483648 : Nat) : Int) := by omega
                have e3 : (Q : Int).tdiv 2147483648 = ((Q / 2147483648 : Nat) : Int) := by rw [Int.tdiv_eq_ediv_of_nonneg (by omega)]; exact e2
                generalize Q / 2147483648 = S at *
                have hs2 : decide ((4294967296 : Int) ≤ (S : Int)) = true := decide_eq_true (by omega)
                have hs3 : (4294967296 : Int) ≤ (S : Int) := by omega
                clear hs
                go_wp2_with fail
                go_round
                case rel => exact ⟨k + 1, D * 2 + 1, S / 2, by omega, hd2, hn, by go_num, by go_num, by go_num, HS⟩
                case measure => simp [intOf]; omega
              · have f1 : dg Z = 0 := if_neg hs
                have f2 : nx Z = sq Z := if_neg hs
                rw [f1] at HS hd2
                rw [f2] at HS hn
                unfold sq at HS hn hs
                generalize Z * Z = Q at *
                clear HR f1 f2 HL2
                have hS : Q / 2147483648 < 8589934592 := by omega
                have e2 : (Q : Int) / 2147483648 = ((Q / 2147483648 : Nat) : Int) := by omega
                have e3 : (Q : Int).tdiv 2147483648 = ((Q / 2147483648 : Nat) : Int) := by rw [Int.tdiv_eq_ediv_of_nonneg (by omega)]; exact e2
                generalize Q / 2147483648 = S at *
                have hs2 : decide ((4294967296 : Int) ≤ (S : Int)) = false := decide_eq_false (by omega)
                have HN : Hid (S < 4294967296) := hn
                clear hs hn
                go_wp2_with fail
                go_round
                case rel => exact ⟨k + 1, D * 2 + 0, S, by omega, hd2, HN.out, by go_num, by go_num, by go_num, HS⟩
                case measure => simp [intOf]; omega
            · have HE : Hid (((lg u : Nat) : Int) = (m : Int) * 16777216 + (D : Int)) := by
                have := HR.out
                rw [show 24 - k = 0 by omega, lp] at this
                have e : ((lg u : Nat) : Int) = (m : Int) * 16777216 + (D : Int) := by omega
                exact e
              clear HR
              go_wp2_with fail
              go_ret2
              exact ⟨by rw [HE.out]; rfl, rfl⟩

def lgs (u : Int) : Int := if 1 ≤ u ∧ u ≤ 65536 then (lg u.toNat : Int) else 0

theorem log_any (u : Int) (w : World) (h1 : -9223372036854775808 ≤ u) (h2 : u ≤ 9223372036854775807) :
    Calls Try.prog 17 #[.int .i64 u] w fun e w' => e = .returned (.tuple #[.int .i64 (lgs u), .bool (decide (1 ≤ u ∧ u ≤ 65536))]) ∧ w' = w := by
  by_cases h : 1 ≤ u ∧ u ≤ 65536
  · obtain ⟨n, rfl⟩ := Int.eq_ofNat_of_zero_le (show 0 ≤ u by omega)
    refine (log_yes n w (by omega) (by omega)).mono ?_
    rintro e w' ⟨rfl, rfl⟩
    exact ⟨by rw [decide_eq_true h, lgs, if_pos h, Int.toNat_natCast], rfl⟩
  · refine (log_no u w (by omega) h1 h2).mono ?_
    rintro e w' ⟨rfl, rfl⟩
    exact ⟨by rw [decide_eq_false h, lgs, if_neg h], rfl⟩

theorem rlog_any (u : Int) (w : World) (h1 : -9223372036854775808 ≤ u) (h2 : u ≤ 9223372036854775807) :
    Calls Try.prog 19 #[.int .i64 u] w fun e w' => e = .returned (.tuple #[.int .i64 (lgs u), .bool (decide (1 ≤ u ∧ u ≤ 65536))]) ∧ w' = w := by
  by_cases h : 1 ≤ u ∧ u ≤ 65536
  · obtain ⟨n, rfl⟩ := Int.eq_ofNat_of_zero_le (show 0 ≤ u by omega)
    refine (rlog_yes n w (by omega) (by omega)).mono ?_
    rintro e w' ⟨rfl, rfl⟩
    exact ⟨by rw [decide_eq_true h, lgs, if_pos h, Int.toNat_natCast], rfl⟩
  · refine (rlog_no u w (by omega) h1 h2).mono ?_
    rintro e w' ⟨rfl, rfl⟩
    exact ⟨by rw [decide_eq_false h, lgs, if_neg h], rfl⟩

end Go.Proofs.Ythchbbebconojaa.Mi

/-
  Package straw: who draws, what it draws; and the document's draw.
  Conditions: numbers of 32 bits; what a number of 64 bits can be.
-/
namespace Go.Proofs.Ythchbbebconojaa.Sr
open Go.RowKit By Fl Mi
set_option linter.unusedVariables false
set_option linter.unusedSimpArgs false
set_option maxRecDepth 100000

/- draws(w). -/
theorem draws_any (a : Wd) (w : World) : Calls Try.prog 15 #[vW a] w fun e w' => e = .returned (.bool (okB a)) ∧ Below w.heap.size w w' := by
  obtain ⟨id, wt⟩ := a
  unfold vW okB
  dsimp only
  have b0 := al w (.cells #[.int .i64 id, .int .i64 wt] 23)
  by_cases h1 : 1 ≤ wt
  · by_cases h2 : wt ≤ 1073741824
    · go_enter Try.func15, Try.ntmps15
      go_wp2_with fail
      go_ret
      exact ⟨by rw [decide_eq_true ⟨h1, h2⟩]; rfl, b0⟩
    · have h3 : decide (wt ≤ 1073741824) = false := decide_eq_false h2
      go_enter Try.func15, Try.ntmps15
      go_wp2_with fail
      go_ret
      exact ⟨rfl, b0⟩
  · have h3 : decide (1 ≤ wt) = false := decide_eq_false h1
    go_enter Try.func15, Try.ntmps15
    go_wp2_with fail
    go_ret
    exact ⟨rfl, b0⟩

theorem draw_no (a : Wd) (x r : Nat) (w : World) (h : okB a = false) :
    Calls Try.prog 8 #[vW a, .int .u32 (x : Nat), .int .u32 (r : Nat)] w fun e w' => e = .returned (.tuple #[.int .i64 0, .bool false]) ∧ Below w.heap.size w w' := by
  have c1 := fun W => draws_any a W
  rw [h] at c1
  clear h
  obtain ⟨id, wt⟩ := a
  unfold vW at c1 ⊢
  dsimp only at c1 ⊢
  have b0 := al w (.cells #[.int .i64 id, .int .i64 wt] 23)
  go_enter Try.func8, Try.ntmps8
  go_wp2_with (go_at_call 15; refine (c1 _).mono ?_; rintro e w1 ⟨rfl, hb1⟩)
  go_ret2
  exact ⟨rfl, on b0 hb1⟩

theorem draw_yes (a : Wd) (x r : Nat) (w : World) (hx : x < 4294967296) (hr : r < 4294967296) (h : okB a = true) :
    Calls Try.prog 8 #[vW a, .int .u32 (x : Nat), .int .u32 (r : Nat)] w fun e w' => e = .returned (.tuple #[.int .i64 (dr x r a : Nat), .bool true]) ∧ Below w.heap.size w w' := by
  have c1 := fun W => draws_any a W
  rw [h] at c1
  have hok : 1 ≤ a.wt ∧ a.wt ≤ 1073741824 := of_decide_eq_true h
  clear h
  obtain ⟨id, wt⟩ := a
  dsimp only at hok
  obtain ⟨k1, k2⟩ := hok
  have c2 := fun W => hash3_any x (idm id) r W hx (idm_lt id) hr
  have c3 := fun W => log_yes (up x r id + 1) W (by omega) (by have := up_lt x r id; omega)
  have hl := lo_le x r id
  have hu := up_lt x r id
  have hh := h3_lt x (idm id) r
  have e1 := idm_eq id
  have e2 : ((h3 x (idm id) r : Nat) : Int) % 65536 = ((up x r id : Nat) : Int) := by unfold up; omega
  have e3 : ((h3 x (idm id) r : Nat) : Int).tmod 65536 = ((up x r id : Nat) : Int) := by rw [Int.tmod_eq_emod_of_nonneg (by omega)]; exact e2
  have hm := idm_lt id
  unfold dr
  obtain ⟨wn, rfl⟩ := Int.eq_ofNat_of_zero_le (show 0 ≤ wt by omega)
  dsimp only [Int.toNat_natCast]
  have HD : Hid ((((268435456 - lo x r id) * 65536 / wn : Nat) : Int) = (268435456 - (lo x r id : Int)) * 65536 / (wn : Int)) := by
    have : (((268435456 - lo x r id) * 65536 / wn : Nat) : Int) = (268435456 - (lo x r id : Int)) * 65536 / (wn : Int) := by
      rw [Int.natCast_ediv, Int.natCast_mul, Int.natCast_sub hl]
      rfl
    exact this
  have c3' : ∀ W : World, Calls Try.prog 17 #[.int .i64 ((up x r id : Int) + 1)] W fun e w' => e = .returned (.tuple #[.int .i64 (lo x r id : Int), .bool true]) ∧ w' = W := fun W => c3 W
  clear c3
  unfold vW at c1 ⊢
  dsimp only at c1 ⊢
  generalize ((268435456 - lo x r id) * 65536 / wn) = D at *
  generalize h3 x (idm id) r = H at *
  generalize idm id = I at *
  generalize up x r id = U at *
  generalize lo x r id = L at *
  have b0 := al w (.cells #[.int .i64 id, .int .i64 (wn : Int)] 23)
  have q0 : (w.alloc (.cells #[.int .i64 id, .int .i64 (wn : Int)] 23)).cell? ⟨w.heap.size, 0, none⟩ = some (.int .i64 id) := by go_simp
  have q1 : (w.alloc (.cells #[.int .i64 id, .int .i64 (wn : Int)] 23)).cell? ⟨w.heap.size, 1, none⟩ = some (.int .i64 (wn : Int)) := by go_simp
  go_enter Try.func8, Try.ntmps8
  go_wp2_with (first
    | (go_at_call 15; refine (c1 _).mono ?_; rintro e w1 ⟨rfl, hb1⟩; have p0 := keep hb1 q0; have p1 := keep hb1 q1)
    | (go_at_call 16; refine (c2 _).mono ?_; rintro e w2 ⟨rfl, rfl⟩)
    | (go_at_call 17; refine (c3' _).mono ?_; rintro e w2 ⟨rfl, rfl⟩))
  go_ret2
  exact ⟨by rw [HD.out]; rfl, on b0 hb1⟩

theorem rdraw_no (a : Wd) (x r : Nat) (w : World) (h : okB a = false) :
    Calls Try.prog 9 #[vW a, .int .u32 (x : Nat), .int .u32 (r : Nat)] w fun e w' => e = .returned (.tuple #[.int .i64 0, .bool false]) ∧ Below w.heap.size w w' := by
  have hok : ¬ (1 ≤ a.wt ∧ a.wt ≤ 1073741824) := of_decide_eq_false h
  clear h
  obtain ⟨id, wt⟩ := a
  unfold vW
  dsimp only at hok ⊢
  have b0 := al w (.cells #[.int .i64 id, .int .i64 wt] 23)
  by_cases h1 : wt < 1
  · clear hok
    go_enter Try.func9, Try.ntmps9
    go_wp2_with fail
    go_ret2
    exact ⟨rfl, b0⟩
  · have h2 : 1073741824 < wt := by omega
    have h3 : 1 ≤ wt := by omega
    clear hok h1
    go_enter Try.func9, Try.ntmps9
    go_wp2_with fail
    go_ret2
    exact ⟨rfl, b0⟩

theorem rdraw_yes (a : Wd) (x r : Nat) (w : World) (hx : x < 4294967296) (hr : r < 4294967296) (h : okB a = true) :
    Calls Try.prog 9 #[vW a, .int .u32 (x : Nat), .int .u32 (r : Nat)] w fun e w' => e = .returned (.tuple #[.int .i64 (dr x r a : Nat), .bool true]) ∧ Below w.heap.size w w' := by
  have hok : 1 ≤ a.wt ∧ a.wt ≤ 1073741824 := of_decide_eq_true h
  clear h
  obtain ⟨id, wt⟩ := a
  dsimp only at hok
  obtain ⟨k1, k2⟩ := hok
  have c2 := fun W => rhash3_any x (idm id) r W hx (idm_lt id) hr
  have c3 := fun W => rlog_yes (up x r id + 1) W (by omega) (by have := up_lt x r id; omega)
  have hl := lo_le x r id
  have hu := up_lt x r id
  have hh := h3_lt x (idm id) r
  have e1 := idm_eq id
  have e2 : ((h3 x (idm id) r : Nat) : Int) % 65536 = ((up x r id : Nat) : Int) := by unfold up; omega
  have e3 : ((h3 x (idm id) r : Nat) : Int).tmod 65536 = ((up x r id : Nat) : Int) := by rw [Int.tmod_eq_emod_of_nonneg (by omega)]; exact e2
  have hm := idm_lt id
  unfold dr
  obtain ⟨wn, rfl⟩ := Int.eq_ofNat_of_zero_le (show 0 ≤ wt by omega)
  dsimp only [Int.toNat_natCast]
  have HD : Hid ((((268435456 - lo x r id) * 65536 / wn : Nat) : Int) = (268435456 - (lo x r id : Int)) * 65536 / (wn : Int)) := by
    have : (((268435456 - lo x r id) * 65536 / wn : Nat) : Int) = (268435456 - (lo x r id : Int)) * 65536 / (wn : Int) := by
      rw [Int.natCast_ediv, Int.natCast_mul, Int.natCast_sub hl]
      rfl
    exact this
  have c3' : ∀ W : World, Calls Try.prog 19 #[.int .i64 ((up x r id : Int) + 1)] W fun e w' => e = .returned (.tuple #[.int .i64 (lo x r id : Int), .bool true]) ∧ w' = W := fun W => c3 W
  clear c3
  unfold vW
  dsimp only
  generalize ((268435456 - lo x r id) * 65536 / wn) = D at *
  generalize h3 x (idm id) r = H at *
  generalize idm id = I at *
  generalize up x r id = U at *
  generalize lo x r id = L at *
  have b0 := al w (.cells #[.int .i64 id, .int .i64 (wn : Int)] 23)
  have q0 : (w.alloc (.cells #[.int .i64 id, .int .i64 (wn : Int)] 23)).cell? ⟨w.heap.size, 0, none⟩ = some (.int .i64 id) := by go_simp
  have q1 : (w.alloc (.cells #[.int .i64 id, .int .i64 (wn : Int)] 23)).cell? ⟨w.heap.size, 1, none⟩ = some (.int .i64 (wn : Int)) := by go_simp
  go_enter Try.func9, Try.ntmps9
  go_wp2_with (first
    | (go_at_call 18; refine (c2 _).mono ?_; rintro e w2 ⟨rfl, rfl⟩)
    | (go_at_call 19; refine (c3' _).mono ?_; rintro e w2 ⟨rfl, rfl⟩))
  go_ret2
  exact ⟨by rw [HD.out]; rfl, b0⟩

theorem draw_any (a : Wd) (x r : Nat) (w : World) (hx : x < 4294967296) (hr : r < 4294967296) :
    Calls Try.prog 8 #[vW a, .int .u32 (x : Nat), .int .u32 (r : Nat)] w fun e w' => e = .returned (.tuple #[.int .i64 (dV x r a), .bool (okB a)]) ∧ Below w.heap.size w w' := by
  unfold dV
  cases h : okB a with
  | true => exact draw_yes a x r w hx hr h
  | false => exact draw_no a x r w h

theorem rdraw_any (a : Wd) (x r : Nat) (w : World) (hx : x < 4294967296) (hr : r < 4294967296) :
    Calls Try.prog 9 #[vW a, .int .u32 (x : Nat), .int .u32 (r : Nat)] w fun e w' => e = .returned (.tuple #[.int .i64 (dV x r a), .bool (okB a)]) ∧ Below w.heap.size w w' := by
  unfold dV
  cases h : okB a with
  | true => exact rdraw_yes a x r w hx hr h
  | false => exact rdraw_no a x r w h

end Go.Proofs.Ythchbbebconojaa.Sr
