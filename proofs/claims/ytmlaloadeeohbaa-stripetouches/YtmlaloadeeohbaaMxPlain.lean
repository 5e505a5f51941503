/-
  The elimination that package matrix does, as a plain function, and the document's.
  Conditions: none.
-/
import Derived.Test.YtmlaloadeeohbaaGfPlain
namespace Go.Proofs.Ytmlaloadeeohbaa
open Gf
set_option linter.unusedVariables false

def swp (d i s : Nat) : Nat := if s = d then i else if s = i then d else s

def leadGo (f : Nat → Nat → Nat) (c : Nat) : Nat → Nat → Option Nat
  | 0, _ => none
  | k + 1, i => if f i c ≠ 0 then some i else leadGo f c k (i + 1)

def lead (f : Nat → Nat → Nat) (c n d : Nat) : Option Nat := leadGo f c (n - d) d

theorem leadGo_some (f : Nat → Nat → Nat) (c : Nat) : ∀ k d i, leadGo f c k d = some i → d ≤ i ∧ i < d + k ∧ f i c ≠ 0 ∧ ∀ j, d ≤ j → j < i → f j c = 0
  | 0, d, i, h => by cases h
  | k + 1, d, i, h => by
    unfold leadGo at h
    by_cases h0 : f d c ≠ 0
    · rw [if_pos h0] at h
      injection h with h
      subst h
      exact ⟨Nat.le_refl _, by omega, h0, fun j h1 h2 => by omega⟩
    · rw [if_neg h0] at h
      obtain ⟨h1, h2, h3, h4⟩ := leadGo_some f c k (d + 1) i h
      refine ⟨by omega, by omega, h3, fun j hj1 hj2 => ?_⟩
      by_cases e : j = d
      · subst e; exact Decidable.byContradiction h0
      · exact h4 j (by omega) hj2

theorem leadGo_none (f : Nat → Nat → Nat) (c : Nat) : ∀ k d, leadGo f c k d = none → ∀ j, d ≤ j → j < d + k → f j c = 0
  | 0, d, h => fun j h1 h2 => by omega
  | k + 1, d, h => by
    unfold leadGo at h
    by_cases h0 : f d c ≠ 0
    · rw [if_pos h0] at h; cases h
    · rw [if_neg h0] at h
      intro j h1 h2
      by_cases e : j = d
      · subst e; exact Decidable.byContradiction h0
      · exact leadGo_none f c k (d + 1) h j (by omega) (by omega)

theorem lead_some {f : Nat → Nat → Nat} {c n d i : Nat} (h : lead f c n d = some i) : d ≤ i ∧ i < n ∧ f i c ≠ 0 ∧ ∀ j, d ≤ j → j < i → f j c = 0 := by
  obtain ⟨h1, h2, h3, h4⟩ := leadGo_some f c _ d i h
  exact ⟨h1, by omega, h3, h4⟩

theorem lead_none {f : Nat → Nat → Nat} {c n d : Nat} (h : lead f c n d = none) : ∀ j, d ≤ j → j < n → f j c = 0 := fun j h1 h2 => leadGo_none f c _ d h j h1 (by omega)

def sweepF (f : Nat → Nat → Nat) (one c : Nat) : Nat → Nat → Nat := fun s j => if s = one then f s j else f s j ^^^ tmul (f s c) (f one j)
def scaleF (f : Nat → Nat → Nat) (d c : Nat) : Nat → Nat → Nat := fun s j => if s = d then tmul (f d j) (tinv (f d c)) else f s j
def pivot (f : Nat → Nat → Nat) (d c i : Nat) : Nat → Nat → Nat := sweepF (scaleF (fun s => f (swp d i s)) d c) d c

def redStep (n c : Nat) (st : Nat × (Nat → Nat → Nat)) : Nat × (Nat → Nat → Nat) :=
  match lead st.2 c n st.1 with
  | none => st
  | some i => (st.1 + 1, pivot st.2 st.1 c i)

def red (n : Nat) (f : Nat → Nat → Nat) : Nat → Nat × (Nat → Nat → Nat)
  | 0 => (0, f)
  | c + 1 => redStep n c (red n f c)

theorem redStep_none {n c : Nat} {st : Nat × (Nat → Nat → Nat)} (h : lead st.2 c n st.1 = none) : redStep n c st = st := by
  unfold redStep; rw [h]

theorem redStep_some {n c i : Nat} {st : Nat × (Nat → Nat → Nat)} (h : lead st.2 c n st.1 = some i) : redStep n c st = (st.1 + 1, pivot st.2 st.1 c i) := by
  unfold redStep; rw [h]

theorem red_le (n : Nat) (f : Nat → Nat → Nat) : ∀ c, (red n f c).1 ≤ n
  | 0 => Nat.zero_le _
  | c + 1 => by
    unfold red
    cases h : lead (red n f c).2 c n (red n f c).1 with
    | none => rw [redStep_none h]; exact red_le n f c
    | some i =>
      rw [redStep_some h]
      have := lead_some h
      show (red n f c).1 + 1 ≤ n
      omega

theorem red_le_col (n : Nat) (f : Nat → Nat → Nat) : ∀ c, (red n f c).1 ≤ c
  | 0 => Nat.le_refl _
  | c + 1 => by
    unfold red
    have ih := red_le_col n f c
    cases h : lead (red n f c).2 c n (red n f c).1 with
    | none => rw [redStep_none h]; omega
    | some i => rw [redStep_some h]; show (red n f c).1 + 1 ≤ c + 1; omega

theorem sweepF_lt {f : Nat → Nat → Nat} (one c : Nat) (hf : ∀ r j, f r j < 256) (s j : Nat) : sweepF f one c s j < 256 := by
  unfold sweepF
  split
  · exact hf _ _
  · exact xor_lt _ _ (hf _ _) (tmul_lt _ _ (hf _ _) (hf _ _))

theorem scaleF_lt {f : Nat → Nat → Nat} (d c : Nat) (hf : ∀ r j, f r j < 256) (s j : Nat) : scaleF f d c s j < 256 := by
  unfold scaleF
  split
  · exact tmul_lt _ _ (hf _ _) (tinv_lt _)
  · exact hf _ _

theorem pivot_lt {f : Nat → Nat → Nat} (d c i : Nat) (hf : ∀ r j, f r j < 256) (s j : Nat) : pivot f d c i s j < 256 := sweepF_lt d c (scaleF_lt d c (fun r j => hf _ _)) s j

theorem red_lt (n : Nat) (f : Nat → Nat → Nat) (hf : ∀ r j, f r j < 256) : ∀ c r j, (red n f c).2 r j < 256
  | 0 => hf
  | c + 1 => by
    intro r j
    unfold red
    cases h : lead (red n f c).2 c n (red n f c).1 with
    | none => rw [redStep_none h]; exact red_lt n f hf c r j
    | some i => rw [redStep_some h]; exact pivot_lt _ _ _ (red_lt n f hf c) r j

end Go.Proofs.Ytmlaloadeeohbaa
