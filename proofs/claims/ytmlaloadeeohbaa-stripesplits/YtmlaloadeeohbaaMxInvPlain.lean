/-
  What the elimination of a matrix beside the identity ends in: its inverse, from either side; or a vector, not nothing, that the matrix turns to nothing.
  Conditions: the elements are below 256.
-/
import Derived.Test.YtmlaloadeeohbaaMxElim
import Derived.Test.YtmlaloadeeohbaaMxInvert
namespace Go.Proofs.Ytmlaloadeeohbaa
open Gf
set_option linter.unusedVariables false

theorem aug_right (f : Nat → Nat → Nat) (n r k : Nat) : aug f n r (n + k) = delta r k := by
  unfold aug delta
  rw [if_neg (by omega)]
  by_cases h : r = k
  · subst h; rw [if_pos rfl, if_pos rfl]
  · rw [if_neg (by omega), if_neg h]

theorem aug_left (f : Nat → Nat → Nat) (n r j : Nat) (hj : j < n) : aug f n r j = f r j := by unfold aug; rw [if_pos hj]

theorem delta_comm (r j : Nat) : delta r j = delta j r := by
  unfold delta
  by_cases h : r = j
  · subst h; rfl
  · rw [if_neg h, if_neg (fun e => h e.symm)]

theorem aug_lin {f : Nat → Nat → Nat} (hf : ∀ r j, f r j < 256) {n r : Nat} (hr : r < n) : Lin f n (aug f n r) := fun j hj => by
  have e : (fun k => aug f n r (n + k)) = fun k => delta r k := by funext k; exact aug_right f n r k
  rw [e, dot_delta_row (fun k => f k j) (fun k => hf k j) r n hr, aug_left f n r j hj]

def right (f : Nat → Nat → Nat) (n : Nat) : Nat → Nat → Nat := fun r j => (red n (aug f n) n).2 r (n + j)

theorem right_lt {f : Nat → Nat → Nat} (hf : ∀ r j, f r j < 256) (n r j : Nat) : right f n r j < 256 := red_lt n (aug f n) (aug_lt hf n) n r (n + j)

theorem inv_left {f : Nat → Nat → Nat} (hf : ∀ r j, f r j < 256) {n : Nat} (h : (red n (aug f n) n).1 = n) {r j : Nat} (hr : r < n) (hj : j < n) : mulF (right f n) f n r j = delta r j := by
  have h1 := red_unit n n (aug f n) (aug_lt hf n) n h r hr j hj
  have h2 := red_lin n f (aug f n) hf (aug_lt hf n) (fun r hr => aug_lin hf hr) n r hr j hj
  rw [h1] at h2
  exact h2.symm

theorem inv_right {f : Nat → Nat → Nat} (hf : ∀ r j, f r j < 256) {n : Nat} (h : (red n (aug f n) n).1 = n) {r j : Nat} (hr : r < n) (hj : j < n) : mulF f (right f n) n r j = delta r j := by
  obtain ⟨Q, hQ, hs⟩ := red_span n (2 * n) (aug f n) (aug_lt hf n) n
  have hu := red_unit n n (aug f n) (aug_lt hf n) n h
  have e1 : ∀ k, k < n → f r k = Q r k := fun k hk => by
    have h1 := hs r hr k (by omega)
    rw [dot_congr (f' := Q r) (g' := fun l => delta k l) (fun _ _ => rfl) (fun l hl => by rw [hu l hl k hk, delta_comm]), dot_comm, dot_delta_row (Q r) (hQ r) k n hk] at h1
    rw [← h1, aug_left f n r k hk]
  have h2 := hs r hr (n + j) (by omega)
  have e2 := aug_right f n r j
  rw [e2] at h2
  rw [h2]
  exact dot_congr e1 (fun _ _ => rfl)

theorem first_fail (n : Nat) (g : Nat → Nat → Nat) : ∀ k, (red n g k).1 = k ∨ ∃ c, c < k ∧ (red n g c).1 = c ∧ (red n g (c + 1)).1 = c
  | 0 => .inl rfl
  | k + 1 => by
    rcases first_fail n g k with h | ⟨c, h1, h2, h3⟩
    · have := red_step_le n g k
      by_cases e : (red n g (k + 1)).1 = k + 1
      · exact .inl e
      · exact .inr ⟨k, by omega, h, by omega⟩
    · exact .inr ⟨c, by omega, h2, h3⟩

theorem dot_zero_terms {f g : Nat → Nat} : ∀ n, (∀ i, i < n → tmul (f i) (g i) = 0) → dot f g n = 0
  | 0, _ => rfl
  | n + 1, h => by unfold dot; rw [dot_zero_terms n (fun i hi => h i (by omega)), h n (by omega)]; rfl

theorem dot_terms {f g f' g' : Nat → Nat} : ∀ n, (∀ i, i < n → tmul (f i) (g i) = tmul (f' i) (g' i)) → dot f g n = dot f' g' n
  | 0, _ => rfl
  | n + 1, h => by unfold dot; rw [dot_terms n (fun i hi => h i (by omega)), h n (by omega)]

theorem inv_fails {f : Nat → Nat → Nat} (hf : ∀ r j, f r j < 256) {n : Nat} (h : (red n (aug f n) n).1 < n) :
    ∃ v : Nat → Nat, (∀ i, v i < 256) ∧ (∃ j, j < n ∧ v j ≠ 0) ∧ ∀ r, r < n → dot (f r) v n = 0 := by
  rcases first_fail n (aug f n) n with h0 | ⟨c, hc, h1, h2⟩
  · omega
  · have hlt := red_lt n (aug f n) (aug_lt hf n) c
    have hu := red_unit n n (aug f n) (aug_lt hf n) c h1
    obtain ⟨Q, hQ, hs⟩ := red_span n (2 * n) (aug f n) (aug_lt hf n) c
    have hz : ∀ j, c ≤ j → j < n → (red n (aug f n) c).2 j c = 0 := by
      cases hL : lead (red n (aug f n) c).2 c n (red n (aug f n) c).1 with
      | none => rw [h1] at hL; exact lead_none hL
      | some i =>
        have : (red n (aug f n) (c + 1)).1 = (red n (aug f n) c).1 + 1 := by show (redStep n c (red n (aug f n) c)).1 = _; rw [redStep_some hL]
        omega
    generalize (red n (aug f n) c).2 = F at hlt hu hs hz
    let v1 : Nat → Nat := fun j => if j < c then F j c else 0
    let v2 : Nat → Nat := fun j => if j = c then 1 else 0
    have hv1 : ∀ j, v1 j < 256 := fun j => by show (if j < c then F j c else 0) < 256; split; exact hlt _ _; omega
    have hv2 : ∀ j, v2 j < 256 := fun j => by show (if j = c then 1 else 0) < 256; split <;> omega
    have hFv : ∀ r, r < n → dot (F r) (fun j => v1 j ^^^ v2 j) n = 0 := fun r hr => by
      rw [dot_add_right (hlt r) hv1 hv2]
      have e1 : dot (F r) v1 n = v1 r := by
        rw [dot_terms (f' := fun l => delta r l) (g' := v1) n (fun i hi => by
          by_cases e : i < c
          · rw [hu r hr i e]
          · have : v1 i = 0 := by show (if i < c then F i c else 0) = 0; rw [if_neg e]
            rw [this, tmul_zero_right, tmul_zero_right])]
        exact dot_delta_row v1 hv1 r n hr
      have e2 : dot (F r) v2 n = F r c := by
        rw [dot_comm]
        show dot (fun l => if l = c then 1 else 0) (F r) n = _
        rw [dot_delta (F r) (hlt r) 1 c n, if_pos hc, one_tmul _ (hlt _ _)]
      rw [e1, e2]
      show (if r < c then F r c else 0) ^^^ F r c = 0
      by_cases e : r < c
      · rw [if_pos e, Nat.xor_self]
      · rw [if_neg e, hz r (by omega) hr]; rfl
    refine ⟨fun j => v1 j ^^^ v2 j, fun j => xor_lt _ _ (hv1 j) (hv2 j), ⟨c, hc, ?_⟩, fun r hr => ?_⟩
    · show (if c < c then F c c else 0) ^^^ (if c = c then 1 else 0) ≠ 0
      simp
    · have e : ∀ j, j < n → f r j = mulF Q F n r j := fun j hj => by
        have := hs r hr j (by omega)
        rwa [aug_left f n r j hj] at this
      rw [dot_congr (f' := fun j => mulF Q F n r j) (g' := fun j => v1 j ^^^ v2 j) e (fun _ _ => rfl)]
      have := mul_assoc3 Q F (fun j _ => v1 j ^^^ v2 j) hQ hlt (fun j _ => xor_lt _ _ (hv1 j) (hv2 j)) n r 0 n
      have e3 : mulF (mulF Q F n) (fun j _ => v1 j ^^^ v2 j) n r 0 = dot (fun j => mulF Q F n r j) (fun j => v1 j ^^^ v2 j) n := rfl
      rw [← e3, this]
      exact dot_zero_terms n (fun i hi => by
        show tmul (Q r i) (dot (F i) (fun k => v1 k ^^^ v2 k) n) = 0
        rw [hFv i hi, tmul_zero_right])

end Go.Proofs.Ytmlaloadeeohbaa
