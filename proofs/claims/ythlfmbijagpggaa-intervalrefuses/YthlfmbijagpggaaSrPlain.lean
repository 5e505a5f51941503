/-
  Straws, in plain numbers: what one draws, who is chosen; only what must moves.
  Conditions: none. Nothing here names the program.
-/
import Derived.Test.YthlfmbijagpggaaJMiPlain
namespace Go.Proofs.Ythlfmbijagpggaa.Sr
open Mi

structure Wd where
  id : Int
  wt : Int

def okB (a : Wd) : Bool := decide (1 ≤ a.wt ∧ a.wt ≤ 1073741824)
def idm (z : Int) : Nat := (z % 4294967296).toNat
theorem idm_lt (z : Int) : idm z < 4294967296 := by unfold idm; omega
theorem idm_eq (z : Int) : z % 4294967296 = (idm z : Int) := by unfold idm; omega

def up (x r : Nat) (z : Int) : Nat := h3 x (idm z) r % 65536
theorem up_lt (x r : Nat) (z : Int) : up x r z < 65536 := Nat.mod_lt _ (by omega)
def lo (x r : Nat) (z : Int) : Nat := lg (up x r z + 1)
theorem lo_le (x r : Nat) (z : Int) : lo x r z ≤ 268435456 := by
  have h := up_lt x r z
  have := lg_mono (show 1 ≤ up x r z + 1 by omega) (show up x r z + 1 ≤ 65536 by omega)
  rw [lg_top] at this
  exact this

/- What one draws, if it draws. -/
def dr (x r : Nat) (a : Wd) : Nat := (268435456 - lo x r a.id) * 65536 / a.wt.toNat
def dO (x r : Nat) (a : Wd) : Option Nat := if okB a = true then some (dr x r a) else none
def dV (x r : Nat) (a : Wd) : Int := if okB a = true then (dr x r a : Int) else 0

theorem dr_lt (x r : Nat) (a : Wd) : dr x r a ≤ 17592186044416 := by
  unfold dr
  have := lo_le x r a.id
  exact Nat.le_trans (Nat.div_le_self _ _) (by omega)

theorem dr_mono (x r : Nat) {a b : Wd} (hi : a.id = b.id) (ha : 1 ≤ a.wt) (h : a.wt ≤ b.wt) : dr x r b ≤ dr x r a := by
  unfold dr
  rw [hi]
  exact Nat.div_le_div_left (by omega) (by omega)

/- Who is chosen, and what it draws, of the first k. -/
def st (D : Nat → Option Nat) : Nat → Int × Nat
  | 0 => (-1, 0)
  | k + 1 => match D k with
    | none => st D k
    | some d => if (st D k).1 < 0 ∨ d < (st D k).2 then ((k : Int), d) else st D k

def cho (D : Nat → Option Nat) (n : Nat) : Int := (st D n).1

theorem st_none {D : Nat → Option Nat} {k : Nat} (h : D k = none) : st D (k + 1) = st D k := by rw [st, h]
theorem st_take {D : Nat → Option Nat} {k d : Nat} (h : D k = some d) (hc : (st D k).1 < 0 ∨ d < (st D k).2) : st D (k + 1) = ((k : Int), d) := by rw [st, h]; simp only [if_pos hc]
theorem st_keep {D : Nat → Option Nat} {k d : Nat} (h : D k = some d) (h1 : 0 ≤ (st D k).1) (h2 : (st D k).2 ≤ d) : st D (k + 1) = st D k := by
  rw [st, h]
  simp only
  rw [if_neg (by omega)]

/- c is chosen of the first n, and draws d. -/
def Is (D : Nat → Option Nat) (n : Nat) (c : Int) (d : Nat) : Prop :=
  (c = -1 ∧ ∀ k, k < n → D k = none) ∨ ∃ i, i < n ∧ c = (i : Int) ∧ D i = some d ∧ (∀ j e, j < n → D j = some e → d ≤ e) ∧ (∀ j e, j < i → D j = some e → d < e)

theorem st_is (D : Nat → Option Nat) (n : Nat) : Is D n (st D n).1 (st D n).2 := by
  induction n with
  | zero => exact .inl ⟨rfl, fun k hk => by omega⟩
  | succ n ih =>
    cases hD : D n with
    | none =>
      rw [st_none hD]
      rcases ih with ⟨h1, h2⟩ | ⟨i, h1, h2, h3, h4, h5⟩
      · refine .inl ⟨h1, fun k hk => ?_⟩
        by_cases e : k = n
        · rw [e]; exact hD
        · exact h2 k (by omega)
      · refine .inr ⟨i, by omega, h2, h3, fun j e hj he => ?_, h5⟩
        by_cases q : j = n
        · rw [q, hD] at he; cases he
        · exact h4 j e (by omega) he
    | some d =>
      rcases ih with ⟨h1, h2⟩ | ⟨i, h1, h2, h3, h4, h5⟩
      · rw [st_take hD (.inl (by omega))]
        refine .inr ⟨n, by omega, rfl, hD, fun j e hj he => ?_, fun j e hj he => ?_⟩
        · by_cases q : j = n
          · rw [q, hD] at he; cases he; exact Nat.le_refl _
          · rw [h2 j (by omega)] at he; cases he
        · rw [h2 j hj] at he; cases he
      · by_cases hc : d < (st D n).2
        · rw [st_take hD (.inr hc)]
          refine .inr ⟨n, by omega, rfl, hD, fun j e hj he => ?_, fun j e hj he => ?_⟩
          · by_cases q : j = n
            · rw [q, hD] at he; cases he; exact Nat.le_refl _
            · have := h4 j e (by omega) he
              show d ≤ e
              omega
          · have := h4 j e (by omega) he
            show d < e
            omega
        · rw [st_keep hD (by omega) (by omega)]
          refine .inr ⟨i, by omega, h2, h3, fun j e hj he => ?_, h5⟩
          by_cases q : j = n
          · rw [q, hD] at he; cases he; omega
          · exact h4 j e (by omega) he

theorem cho_none {D : Nat → Option Nat} {n : Nat} (h : ∀ k, k < n → D k = none) : cho D n = -1 := by
  rcases st_is D n with ⟨h1, _⟩ | ⟨i, h1, h2, h3, _, _⟩
  · exact h1
  · rw [h i h1] at h3; cases h3

theorem cho_ge (D : Nat → Option Nat) (n : Nat) : -1 ≤ cho D n ∧ cho D n < (n : Int) := by
  unfold cho
  rcases st_is D n with ⟨h1, _⟩ | ⟨i, h1, h2, _⟩ <;> omega

/- Who has the least draw, the first of several, is chosen. -/
theorem cho_of {D : Nat → Option Nat} {n i d : Nat} (hi : i < n) (hd : D i = some d) (h1 : ∀ j e, j < n → D j = some e → d ≤ e) (h2 : ∀ j e, j < i → D j = some e → d < e) : cho D n = (i : Int) := by
  unfold cho
  rcases st_is D n with ⟨_, h⟩ | ⟨j, q1, q2, q3, q4, q5⟩
  · rw [h i hi] at hd; cases hd
  · rw [q2]
    have a := h1 j _ q1 q3
    have b := q4 i d hi hd
    by_cases e1 : i < j
    · have := q5 i d e1 hd; omega
    · by_cases e2 : j < i
      · have := h2 j _ e2 q3; omega
      · omega

theorem cho_out {D : Nat → Option Nat} {n i : Nat} (h : cho D n = (i : Int)) : ∃ d, i < n ∧ D i = some d ∧ (∀ j e, j < n → D j = some e → d ≤ e) ∧ (∀ j e, j < i → D j = some e → d < e) := by
  unfold cho at h
  rcases st_is D n with ⟨h1, _⟩ | ⟨j, q1, q2, q3, q4, q5⟩
  · omega
  · obtain rfl : i = j := by omega
    exact ⟨_, q1, q3, q4, q5⟩

theorem cho_neg {D : Nat → Option Nat} {n : Nat} (h : cho D n < 0) : ∀ k, k < n → D k = none := by
  unfold cho at h
  rcases st_is D n with ⟨_, h1⟩ | ⟨j, q1, q2, _⟩
  · exact h1
  · omega

/- Only what must moves: D and E are alike but at i. -/
theorem moves {D E : Nat → Option Nat} {n i : Nat} (h : ∀ k, k ≠ i → D k = E k) : cho D n = cho E n ∨ cho D n = (i : Int) ∨ cho E n = (i : Int) := by
  have gD := cho_ge D n
  have gE := cho_ge E n
  by_cases a : cho D n = (i : Int)
  · exact .inr (.inl a)
  by_cases b : cho E n = (i : Int)
  · exact .inr (.inr b)
  left
  have key : ∀ (D E : Nat → Option Nat), (∀ k, k ≠ i → D k = E k) → cho D n ≠ (i : Int) → cho E n ≠ (i : Int) → 0 ≤ cho D n → cho D n = cho E n := by
    intro D E h a b hp
    obtain ⟨p, hp'⟩ := Int.eq_ofNat_of_zero_le hp
    obtain ⟨d, p1, p2, p3, p4⟩ := cho_out hp'
    have hpi : p ≠ i := fun e => a (by rw [hp', e])
    by_cases hq : 0 ≤ cho E n
    · obtain ⟨q, hq'⟩ := Int.eq_ofNat_of_zero_le hq
      obtain ⟨e, q1, q2, q3, q4⟩ := cho_out hq'
      have hqi : q ≠ i := fun e => b (by rw [hq', e])
      have u1 := p3 q e q1 (by rw [h q hqi]; exact q2)
      have u2 := q3 p d p1 (by rw [← h p hpi]; exact p2)
      rw [hp', hq']
      by_cases l1 : p < q
      · have := q4 p d l1 (by rw [← h p hpi]; exact p2); omega
      · by_cases l2 : q < p
        · have := p4 q e l2 (by rw [h q hqi]; exact q2); omega
        · omega
    · have := cho_neg (D := E) (n := n) (by omega) p p1
      rw [← h p hpi, p2] at this
      cases this
  by_cases hp : 0 ≤ cho D n
  · exact key D E h a b hp
  · by_cases hq : 0 ≤ cho E n
    · exact (key E D (fun k hk => (h k hk).symm) b a hq).symm
    · omega

/- Who is chosen stays so, if its draw falls. -/
theorem grows {D E : Nat → Option Nat} {n i : Nat} (h : ∀ k, k ≠ i → D k = E k) (ha : cho D n = (i : Int)) (he : ∃ e, E i = some e ∧ ∀ d, D i = some d → e ≤ d) : cho E n = (i : Int) := by
  obtain ⟨d, h1, h2, h3, h4⟩ := cho_out ha
  obtain ⟨e, e1, e2⟩ := he
  have e3 := e2 d h2
  refine cho_of h1 e1 (fun j f hj hf => ?_) (fun j f hj hf => ?_)
  · by_cases q : j = i
    · rw [q, e1] at hf; cases hf; exact Nat.le_refl _
    · have := h3 j f hj (by rw [h j q]; exact hf); omega
  · have := h4 j f hj (by rw [h j (by omega)]; exact hf); omega

/- In which order unlike draws stand does not matter. -/
theorem turned {D E : Nat → Option Nat} {n : Nat} (h : ∀ k, k < n → E k = D (n - 1 - k)) (hu : ∀ i j d, i < n → j < n → D i = some d → D j = some d → i = j) : (cho D n < 0 ∧ cho E n < 0) ∨ (0 ≤ cho D n ∧ 0 ≤ cho E n ∧ cho D n = (n : Int) - 1 - cho E n) := by
  have gD := cho_ge D n
  have gE := cho_ge E n
  by_cases a : 0 ≤ cho E n
  · obtain ⟨p, hp⟩ := Int.eq_ofNat_of_zero_le a
    obtain ⟨d, h1, h2, h3, h4⟩ := cho_out hp
    have hc : cho D n = ((n - 1 - p : Nat) : Int) := by
      rw [h p h1] at h2
      refine cho_of (by omega) h2 (fun j f hj hf => ?_) (fun j f hj hf => ?_)
      · refine h3 (n - 1 - j) f (by omega) ?_
        rw [h _ (by omega), show n - 1 - (n - 1 - j) = j by omega]
        exact hf
      · have l := h3 (n - 1 - j) f (by omega) (by rw [h _ (by omega), show n - 1 - (n - 1 - j) = j by omega]; exact hf)
        by_cases q : d = f
        · subst q
          have := hu _ _ _ (by omega) (by omega) h2 hf
          omega
        · omega
    right
    rw [hc, hp]
    omega
  · have := cho_neg (show cho E n < 0 by omega)
    have := cho_none (D := D) (n := n) (fun k hk => by
      have q := this (n - 1 - k) (by omega)
      rw [h _ (by omega), show n - 1 - (n - 1 - k) = k by omega] at q
      exact q)
    left
    omega

def DL (x r : Nat) (L : List Wd) (k : Nat) : Option Nat := (L[k]?).bind (dO x r)

/- All weights that draw, added, as the program adds (wr: its numbers' wrap). -/
def tot (wr : Int → Int) (L : List Wd) : Nat → Int
  | 0 => 0
  | k + 1 => match L[k]? with
    | none => tot wr L k
    | some a => if okB a = true then wr (tot wr L k + a.wt) else tot wr L k

theorem tot_yes {wr : Int → Int} {L : List Wd} {k : Nat} {a : Wd} (h : L[k]? = some a) (h1 : okB a = true) : tot wr L (k + 1) = wr (tot wr L k + a.wt) := by rw [tot, h]; simp only [if_pos h1]
theorem tot_no {wr : Int → Int} {L : List Wd} {k : Nat} {a : Wd} (h : L[k]? = some a) (h1 : okB a = false) : tot wr L (k + 1) = tot wr L k := by rw [tot, h]; simp only [h1]; rfl

theorem DL_yes {x r : Nat} {L : List Wd} {k : Nat} {a : Wd} (h : L[k]? = some a) (h1 : okB a = true) : DL x r L k = some (dr x r a) := by unfold DL dO; rw [h]; simp [h1]
theorem DL_no {x r : Nat} {L : List Wd} {k : Nat} {a : Wd} (h : L[k]? = some a) (h1 : okB a = false) : DL x r L k = none := by unfold DL dO; rw [h]; simp [h1]

end Go.Proofs.Ythlfmbijagpggaa.Sr
