/-
  Matrices that came in, and may be, as matrices in memory; and what Mul of package matrix answers of any two lists of rows.
  Conditions: none.
-/
import Derived.Test.YtkdjjmjfpembpaaMxLaw
import Derived.Test.YtkdjjmjfpembpaaMxAssoc
import Derived.Test.YtkdjjmjfpembpaaMxSame
import Derived.Test.YtkdjjmjfpembpaaMxAwake
namespace Go.Proofs.Ytkdjjmjfpembpaa
open Go.RowKit Gf
set_option linter.unusedVariables false

theorem IsGrid.below {w w' : World} {a : Option Addr} {len : Nat} {A : Nat → Option Addr} {L C : Nat → Nat} {f : Nat → Nat → Nat} (h : IsGrid w a len A L C f) (k : Below w.heap.size w w') : IsGrid w' a len A L C f :=
  ⟨h.1.below (Nat.le_refl _) k, fun r hr => (h.2.1 r hr).below k, h.2.2⟩

theorem grid_mat {w : World} {a : Option Addr} {len : Nat} {A : Nat → Option Addr} {L C : Nat → Nat} {f : Nat → Nat → Nat} (h : IsGrid w a len A L C f) (hm : MayN len L) :
    ∃ b o G O, a = some ⟨b, o, none⟩ ∧ Mat w b o len (L 0) G O C f := by
  obtain ⟨h1, h2, h3, h4, h5⟩ := hm
  obtain ⟨ht, hr, hlt⟩ := h
  rcases ht with h0 | ⟨b, o, rfl, hb, ht⟩
  · omega
  · have hA : ∀ r, r < len → ∃ g q, A r = some ⟨g, q, none⟩ ∧ g < w.heap.size ∧ ∀ i, i < L 0 → w.cell? ⟨g, q + i, none⟩ = some (.int .u8 (f r i : Int)) := fun r hrl => by
      have e := h5 r hrl
      rcases hr r hrl with h0 | ⟨g, q, hA, hg, hc⟩
      · omega
      · exact ⟨g, q, hA, hg, fun i hi => hc i (by omega)⟩
    refine ⟨b, o, fun r => match A r with | some x => x.block | none => 0, fun r => match A r with | some x => x.off | none => 0, rfl, hb, fun r hrl => ?_, fun r hrl => ?_, fun r hrl j hj => ?_, hlt⟩
    · obtain ⟨g, q, e, hg, _⟩ := hA r hrl
      simp only [e]; exact hg
    · obtain ⟨g, q, e, hg, _⟩ := hA r hrl
      rw [ht r hrl, h5 r hrl, e]
    · obtain ⟨g, q, e, hg, hc⟩ := hA r hrl
      simp only [e]; exact hc j hj

def Fits (n : Nat) (L : Nat → Nat) (n' : Nat) (L' : Nat → Nat) : Prop := MayN n L ∧ MayN n' L' ∧ L 0 = n'

theorem mul_bad (x y : Option Addr) (n n' c c' : Nat) (A A' : Nat → Option Addr) (L C L' C' : Nat → Nat) (f f' : Nat → Nat → Nat) (w : World) (h : IsGrid w x n A L C f) (h' : IsGrid w y n' A' L' C' f') (hx : ¬ Fits n L n' L') :
    Calls Try.prog 10 #[.slice x n c, .slice y n' c'] w fun e w' => e = .returned (.tuple #[.slice none 0 0, .int .i64 1]) ∧ w' = w := by
  refine mul_out x y n n' c c' A A' L C L' C' w h.1 h'.1 ?_
  by_cases h1 : MayN n L
  · by_cases h2 : MayN n' L'
    · exact .inr (.inr fun e => hx ⟨h1, h2, e⟩)
    · exact .inr (.inl h2)
  · exact .inl h1

theorem mul_some (x y : Option Addr) (n n' c c' : Nat) (A A' : Nat → Option Addr) (L C L' C' : Nat → Nat) (f f' : Nat → Nat → Nat) (w : World) (h : IsGrid w x n A L C f) (h' : IsGrid w y n' A' L' C' f') :
    Calls Try.prog 10 #[.slice x n c, .slice y n' c'] w fun e w' => ∃ v z, e = .returned (.tuple #[v, .int .i64 z]) ∧ Below w.heap.size w w' := by
  by_cases hx : Fits n L n' L'
  · obtain ⟨b, o, G, O, rfl, hM⟩ := grid_mat h hx.1
    obtain ⟨b', o', G', O', rfl, hM'⟩ := grid_mat h' hx.2.1
    have e := hx.2.2
    rw [← e] at hM' ⊢
    have m1 := hx.1
    have m2 := hx.2.1
    unfold MayN at m1 m2
    exact (mul_yes b o b' o' n (L 0) (L' 0) c c' G O C G' O' C' f f' w hM hM' m1.1 m1.2.1 m1.2.2.1 m1.2.2.2.1 m2.2.2.1 m2.2.2.2.1).mono fun e w' h => by
      obtain ⟨h1, B, G1, C1, h2, _⟩ := h
      exact ⟨_, _, h2, h1⟩
  · exact (mul_bad x y n n' c c' A A' L C L' C' f f' w h h' hx).mono fun e w' h => ⟨_, _, h.1, by rw [h.2]; exact Below.refl _ _⟩

end Go.Proofs.Ytkdjjmjfpembpaa
