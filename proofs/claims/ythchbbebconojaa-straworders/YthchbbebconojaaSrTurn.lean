/-
  One place of a list is turned: which place, where the copy lies, what each draws.
  Conditions: none.
-/
import Derived.Test.YthchbbebconojaaSrTotal
namespace Go.Proofs.Ythchbbebconojaa.Sr
open Go.RowKit By Fl Mi
set_option linter.unusedVariables false
set_option linter.unusedSimpArgs false
set_option maxRecDepth 100000

/- one[0] % len(l), and len(l) more where that is below 0. -/
theorem place_of (a : Int) (n : Nat) (h : 1 ≤ n) : -(n : Int) < a.tmod n ∧ a.tmod n < n ∧ ∃ i : Nat, i < n ∧ ((a.tmod n < 0 ∧ a.tmod n + n = i) ∨ (0 ≤ a.tmod n ∧ a.tmod n = i)) := by
  have h1 : -(n : Int) < a.tmod n := by
    have := Int.lt_tmod_of_pos a (b := (n : Int)) (by omega)
    omega
  have h2 : a.tmod n < n := Int.tmod_lt_of_pos a (by omega)
  refine ⟨h1, h2, ?_⟩
  by_cases e : a.tmod n < 0
  · exact ⟨(a.tmod n + n).toNat, by omega, .inl ⟨e, by omega⟩⟩
  · exact ⟨(a.tmod n).toNat, by omega, .inr ⟨by omega, by omega⟩⟩

theorem own_some {w : World} {B n c : Nat} {x : Option Addr} {L : List Wd} (h : Own w B 23 2 enW (.slice x n c) L) (hl : L.length = n) (hn : 1 ≤ n) : ∃ g, x = some ⟨g, 0, none⟩ ∧ B ≤ g ∧ g < w.heap.size ∧ n ≤ c := by
  obtain ⟨g, c', e, h1, h2, h3, h4⟩ := h.there (fun e => by rw [e] at hl; simp at hl; omega)
  injection e with e1 e2 e3
  subst e1 e3
  exact ⟨g, rfl, h3, h4, by omega⟩

theorem DL_set {y r : Nat} (L : List Wd) {i k : Nat} (a : Wd) (h : k ≠ i) : DL y r (L.set i a) k = DL y r L k := by
  unfold DL
  rw [List.getElem?_set_ne (Ne.symm h)]

theorem DL_at {y r : Nat} {L : List Wd} {i : Nat} (a : Wd) (h : i < L.length) : DL y r (L.set i a) i = dO y r a := by
  unfold DL
  rw [List.getElem?_set_self h]
  rfl

end Go.Proofs.Ythchbbebconojaa.Sr
