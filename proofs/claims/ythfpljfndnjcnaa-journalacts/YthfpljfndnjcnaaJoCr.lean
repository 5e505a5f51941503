/-
  What holds between the acts of a journal's life and the statement's own list of what was put.
  Conditions: none.
-/
import Derived.Test.YthfpljfndnjcnaaJoList
import Derived.Test.YthfpljfndnjcnaaJoItem
namespace Go.Proofs.Ythfpljfndnjcnaa
open Go.RowKit By Dk Su Jo
set_option linter.unusedVariables false
set_option linter.unusedSimpArgs false

def Agr (m : Nat) (lnA ln : Nat → Nat) (ftA ft : Nat → Nat → Nat) : Prop := ∀ i, i < m → lnA i = ln i ∧ ∀ j, j < lnA i → ftA i j = ft i j

def Cr (w wr : World) (p n jp gx m c ms k : Nat) : Prop := ∃ K Vv g st ln ft F mm f A D R Aa C A' lnA C' ftA, Life w.heap.size w wr K Vv p n jp g m st ms ln ft F mm f A D R Aa C ∧ g ≤ k + 1 ∧ AllG wr w.heap.size gx m c A' lnA C' ftA ∧ ¬ K gx ∧ Agr m lnA ln ftA ft

theorem bytes_elt {w v : World} {x : Option Addr} {l c : Nat} {f : Nat → Nat} (h : BytesIn w x l c f) (hb : Below w.heap.size w v) : EltW v x l c f :=
  ⟨h.row.below hb, h.nil, h.le, by have := h.le; have := h.small; omega, h.lt⟩

theorem bytes_low {w : World} {x : Option Addr} {l c : Nat} {f : Nat → Nat} (h : BytesIn w x l c f) (h0 : l ≠ 0) : ∀ ad, x = some ad → ad.block < w.heap.size := fun ad e => by
  rcases h.row with h1 | ⟨g, o, e1, h2, h3⟩
  · exact absurd h1 h0
  · rw [e] at e1
    injection e1 with e1
    subst e1
    exact h2

theorem BoolsAt.belowB {w v : World} {x : Option Addr} {l : Nat} {b : Nat → Bool} (h : BoolsAt w x l b) (hb : Below w.heap.size w v) : BoolsAt v x l b := by
  rcases h with h | ⟨g, o, e, h2, h3⟩
  · exact .inl h
  · exact .inr ⟨g, o, e, Nat.lt_of_lt_of_le h2 hb.size, fun i hi => (hb.cell (p := ⟨g, o + i, none⟩) h2).trans (h3 i hi)⟩

theorem BoolsAt.low {w : World} {x : Option Addr} {l : Nat} {b : Nat → Bool} (h : BoolsAt w x l b) (h0 : l ≠ 0) : ∀ a, x = some a → a.block < w.heap.size := fun a e => by
  rcases h with h | ⟨g, o, e1, h2, h3⟩
  · exact absurd h h0
  · rw [e] at e1
    injection e1 with e1
    subst e1
    exact h2

end Go.Proofs.Ythfpljfndnjcnaa
