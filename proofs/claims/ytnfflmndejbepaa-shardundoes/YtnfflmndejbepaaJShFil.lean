/-
  2 texts of this proof, one behind the other: ShFil, ShApp.
-/
import Derived.Test.YtnfflmndejbepaaJShRMay2
import Derived.Test.YtnfflmndejbepaaShRBk
import Derived.Laws.AppendOwnNone
/-
  A list of one's own that is pushed behind, one element at a time, of those that are asked for.
  Conditions: none.
-/
namespace Go.Proofs.Ytnfflmndejbepaa.Sh
set_option linter.unusedSectionVars false
variable [Inhabited DZ]
open Go.RowKit By Fl
set_option linter.unusedVariables false
set_option linter.unusedSimpArgs false
set_option maxRecDepth 100000

section
variable {w w' : World} {F G : Nat → Prop}
theorem CAt.ltF {c : CV} (h : CAt w F c) : CAt w (fun q => F q ∧ q < w.heap.size) c :=
  ⟨h.s, h.sm, fun h0 a ha => ⟨h.fp h0 a ha, (CAt.lt h).fp h0 a ha⟩⟩
theorem Lis.ltF {α : Type} {en : α → List Value} {sz : Nat} {A : World → (Nat → Prop) → α → Prop} {x : Option Addr} {n c : Nat} {L : List α} (h : Lis en sz A w F x n c L) (hA : ∀ a, A w F a → A w G a) (hG : ∀ q, F q → q < w.heap.size → G q) : Lis en sz A w G x n c L :=
  ⟨h.len, h.le, h.small, h.nil, h.row.imp id fun ⟨b, o, h1, h2, h3, h4⟩ => ⟨b, o, h1, h2, hG _ h3 h2, h4⟩, fun a ha => hA a (h.each a ha)⟩
theorem SAt.ltF {v : SV} (h : SAt w F v) : SAt w (fun q => F q ∧ q < w.heap.size) v :=
  ⟨Lis.ltF h.i (fun a ha => ⟨ha.1, CAt.ltF ha.2⟩) fun _ q r => ⟨q, r⟩, Lis.ltF h.e (fun a ha => ha) fun _ q r => ⟨q, r⟩, Lis.ltF h.u (fun a ha => ⟨ha.1, CAt.ltF ha.2⟩) fun _ q r => ⟨q, r⟩⟩
theorem HAt.ltF {v : HV} (h : HAt w F v) : HAt w (fun q => F q ∧ q < w.heap.size) v := ⟨h.s.ltF, Lis.ltF h.n (fun a ha => SAt.ltF ha) fun _ q r => ⟨q, r⟩⟩
theorem HAt.lt {v : HV} (h : HAt w F v) : HAt w (fun q => q < w.heap.size) v := ⟨h.s.lt, Lis.lt h.n (fun a ha => SAt.lt ha) fun _ q => q⟩
end

section
variable {α : Type} {w1 wr : World} {B : Nat} {T e : TypeId} {sz bt : Nat} {enc : α → List Value} {R : Value} {K N : List α} {p : α → Bool} {a : α} {k : Nat}

theorem push_one2 (A : Array Value) (hA : A.toList = enc a) (r : Row T e sz bt enc) (h1 : Own wr B e sz enc R K) (hB : B ≤ wr.heap.size) (hs : K.length + 1 ≤ 100000000) :
    ∃ x' n' c' w3, (Builtin.append_ #[T, T] T #[R, .slice (some ⟨wr.heap.size, 0, none⟩) 1 1]).run Try.prog (wr.alloc (.cells A e)) = .ok (.slice x' n' c') w3 ∧ Own w3 B e sz enc (.slice x' n' c') (K ++ [a]) ∧ Below B wr w3 ∧ Turns (fun q => R.ownBlock = some q) wr w3 ∧ (∀ g, (Value.slice x' n' c').ownBlock = some g → R.ownBlock = some g ∨ wr.heap.size ≤ g) := by
  have b := al wr (.cells A e)
  have l := heap_alloc_new wr (.cells A e)
  obtain ⟨x', c', w3, hap, H⟩ := push2 (h1.below b) r (Nat.le_trans hB b.size) ⟨wr.heap.size, 0, none⟩ 1 1 [a] rfl (fun j u hj => by
    rw [show ((⟨wr.heap.size, 0, none⟩ : Addr).add j) = ⟨wr.heap.size, j, none⟩ by rw [add_at, Nat.zero_add]]
    refine cell_heap l ?_
    rw [flat_one, ← hA] at hj
    simpa using hj) hs
  have tt : Turns (fun q => R.ownBlock = some q) wr w3 := (Turns.of_below b).trans H.out.2.1
  exact ⟨x', _, c', w3, hap, H.out.1, tt.below (fun q hq => (World.ownsRow.lt h1 q hq).1) hB, tt, fun g hg => (H.out.2.2 g hg).imp id fun h => by rw [h]; exact b.size⟩

/- k elements seen. -/
def FilSt (e : TypeId) (sz : Nat) (enc : α → List Value) (B : Nat) (wr : World) (N : List α) (p : α → Bool) (k : Nat) (R : Value) : Prop := Own wr B e sz enc R ((N.take k).filter p)

theorem FilSt.len : ((N.take k).filter p).length ≤ k := Nat.le_trans (List.length_filter_le _ _) (by rw [List.length_take]; exact Nat.min_le_left _ _)

theorem FilSt.skip (h : FilSt e sz enc B wr N p k R) (ha : N[k]? = some a) (hp : p a = false) : FilSt e sz enc B wr N p (k + 1) R := by
  unfold FilSt at h ⊢
  rw [List.take_add_one, ha, List.filter_append, show List.filter p (some a).toList = [] by simp [hp], List.append_nil]
  exact h

theorem FilSt.push (A : Array Value) (h : FilSt e sz enc B wr N p k R) (ha : N[k]? = some a) (hp : p a = true) (hA : A.toList = enc a) (r : Row T e sz bt enc) (hB : B ≤ wr.heap.size) (hs : k < 99999999) :
    ∃ x' n' c' w3, (Builtin.append_ #[T, T] T #[R, .slice (some ⟨wr.heap.size, 0, none⟩) 1 1]).run Try.prog (wr.alloc (.cells A e)) = .ok (.slice x' n' c') w3 ∧ Hid (FilSt e sz enc B w3 N p (k + 1) (.slice x' n' c') ∧ Below B wr w3 ∧ Turns (fun q => R.ownBlock = some q) wr w3 ∧ (∀ g, (Value.slice x' n' c').ownBlock = some g → R.ownBlock = some g ∨ wr.heap.size ≤ g)) := by
  have hl := FilSt.len (N := N) (p := p) (k := k)
  obtain ⟨x', n', c', w3, hap, ho, hb, ht⟩ := push_one2 A hA r h hB (by omega)
  refine ⟨x', n', c', w3, hap, hid ⟨?_, hb, ht⟩⟩
  unfold FilSt
  rw [List.take_add_one, ha, List.filter_append, show List.filter p (some a).toList = [a] by simp [hp]]
  exact ho

theorem FilSt.all (h : FilSt e sz enc B wr N p k R) (hk : k = N.length) : Own wr B e sz enc R (N.filter p) := by
  unfold FilSt at h
  rw [hk, List.take_length] at h
  exact h

theorem FilSt.form (h : FilSt e sz enc B wr N p k R) : ∃ x n c, R = .slice x n c := by
  obtain ⟨x', c', e, _⟩ := Own.form h
  exact ⟨_, _, _, e⟩

theorem Own.lower {B' : Nat} (h : Own wr B e sz enc R K) (hb : B' ≤ B) : Own wr B' e sz enc R K := ⟨h.1, h.2.imp id (fun ⟨g, cap, cur, q1, q2, q3⟩ => ⟨g, cap, cur, q1, Nat.le_trans hb q2, q3⟩)⟩
end

end Go.Proofs.Ytnfflmndejbepaa.Sh

/-
  A list that is copied behind an empty one; one more behind it; a region that draws in which one of two may come up.
  Conditions: none.
-/
namespace Go.Proofs.Ytnfflmndejbepaa
open Go
section
variable {P : Program} {ops : Array Oper} {Q : Exit → Act → World → Prop} {md : Region.Mode} {S : World → Prop} {ls : List Nat}
theorem wpAnyT_two {i j : Nat} {oi oj : Oper} {fuel : Nat} {listed : Array Bool} {a : Act} {w : World} (hr : Region.ready md ops listed = [i, j]) (hi : ops[i]? = some oi) (hj : ops[j]? = some oj)
    (h1 : ∀ K' : Act → World → Prop, Shut (∀ a w, (i ∉ ls → S w) → wpAnyT P md ops Q S ls fuel (listed.setIfInBounds i true) a w → K' a w) → if Region.wanted oi (yielded ops a.tmps) = true then Oper.wp P oi a w K' Q else K' (a.put oi.dst undef) w)
    (h2 : ∀ K' : Act → World → Prop, Shut (∀ a w, (j ∉ ls → S w) → wpAnyT P md ops Q S ls fuel (listed.setIfInBounds j true) a w → K' a w) → if Region.wanted oj (yielded ops a.tmps) = true then Oper.wp P oj a w K' Q else K' (a.put oj.dst undef) w) :
    wpAnyT P md ops Q S ls (fuel + 1) listed a w :=
  ⟨fun h0 => (by rw [hr] at h0; cases h0), fun k hk => by
    rw [hr] at hk
    rcases List.mem_cons.1 hk with e | e
    · subst e
      exact wpOp_step hi (fun K' hK => h1 K' (fun a w hS hW => hK a w ⟨hS, hW⟩))
    · have e2 : k = j := by simpa using e
      subst e2
      exact wpOp_step hj (fun K' hK => h2 K' (fun a w hS hW => hK a w ⟨hS, hW⟩))⟩
end
end Go.Proofs.Ytnfflmndejbepaa
namespace Go.Proofs.Ytnfflmndejbepaa.Sh
set_option linter.unusedSectionVars false
variable [Inhabited DZ]
open Go.RowKit By Fl
set_option linter.unusedVariables false
set_option linter.unusedSimpArgs false
set_option maxRecDepth 100000

section
variable {α : Type} {w : World} {B : Nat} {T e : TypeId} {sz bt : Nat} {enc : α → List Value} {R : Value} {K L : List α} {a : α}

/- A list that is read, behind an empty one of one's own. -/
theorem app_all (r : Row T e sz bt enc) {A : World → (Nat → Prop) → α → Prop} {F : Nat → Prop} {x : Option Addr} {n c : Nat} (h : Lis enc sz A w F x n c L) (hO : Own w B e sz enc R []) (hB : B ≤ w.heap.size) :
    ∃ y cy w', (Builtin.append_ #[T, T] T #[R, .slice x n c]).run Try.prog w = .ok (.slice y n cy) w' ∧ Own w' B e sz enc (.slice y n cy) L ∧ Turns (fun q => R.ownBlock = some q) w w' := by
  cases x with
  | none =>
    obtain ⟨hn, hc⟩ := h.nil rfl
    subst hn hc
    have hL : L = [] := List.eq_nil_of_length_eq_zero h.len
    subst hL
    obtain ⟨y, cy, hR, _⟩ := hO.form
    have hR' : R = .slice y 0 cy := hR
    obtain ⟨i, z, i1, i2, i3, i4, i5⟩ := r.info
    refine ⟨y, cy, w, ?_, by rw [← hR']; exact hO, Turns.refl _ _⟩
    have hrun := run_append_owned_none (P := Try.prog) (w := w) B T T e i sz r.und i1 R _ _ hO
    rw [hR'] at hrun ⊢
    exact hrun
  | some ad =>
    have hcell : ∀ j u, (flat enc L)[j]? = some u → w.cell? (ad.add j) = some u := by
      rcases h.row with hn | ⟨b, o, hx, hbl, _, hc⟩
      · intro j u hu
        have := (List.getElem?_eq_some_iff.1 hu).1
        rw [flat_len r.len, h.len, hn, Nat.zero_mul] at this
        omega
      · injection hx with hx
        subst hx
        intro j u hu
        have h1 := flat_cells r.len r.pos hc j u hu
        rw [add_at] at h1 ⊢
        exact h1
    obtain ⟨x', c', w', hr, H⟩ := push2 hO r hB ad n c L h.len hcell (by have := h.small; simp; omega)
    have e0 : ([] : List α).length + n = n := by simp
    rw [e0] at hr H
    exact ⟨x', c', w', hr, by simpa using H.out.1, H.out.2.1⟩

/- One more that lies in a block. -/
theorem app_one (r : Row T e sz bt enc) {g : Nat} {A : Array Value} (hO : Own w B e sz enc R K) (hB : B ≤ w.heap.size) (hg : w.heap[g]? = some (.cells A e (0, 0))) (hA : A.toList = enc a) (hs : K.length + 1 ≤ 100000000) :
    ∃ y cy w', (Builtin.append_ #[T, T] T #[R, .slice (some ⟨g, 0, none⟩) 1 1]).run Try.prog w = .ok (.slice y (K.length + 1) cy) w' ∧ Own w' B e sz enc (.slice y (K.length + 1) cy) (K ++ [a]) ∧ Turns (fun q => R.ownBlock = some q) w w' := by
  obtain ⟨x', c', w3, hap, H⟩ := push2 hO r hB ⟨g, 0, none⟩ 1 1 [a] rfl (fun j u hj => by
    rw [show ((⟨g, 0, none⟩ : Addr).add j) = ⟨g, j, none⟩ by rw [add_at, Nat.zero_add]]
    refine cell_heap hg ?_
    rw [flat_one, ← hA] at hj
    simpa using hj) hs
  exact ⟨x', c', w3, hap, H.out.1, H.out.2.1⟩
end

end Go.Proofs.Ytnfflmndejbepaa.Sh
