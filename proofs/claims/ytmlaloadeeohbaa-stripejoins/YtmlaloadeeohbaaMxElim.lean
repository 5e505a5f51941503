/-
  The elimination that package matrix does, over numbers: the rank that it counts is the one that the document's counts; what it makes of a matrix beside the identity is its inverse, from either side; where it fails there is a vector that the matrix turns to nothing.
  Conditions: the elements are below 256.
-/
import Derived.Test.YtmlaloadeeohbaaMxAssoc
namespace Go.Proofs.Ytmlaloadeeohbaa
open Gf
set_option linter.unusedVariables false

/- The document's elimination. -/
def elimF (f : Nat → Nat → Nat) (d c : Nat) : Nat → Nat → Nat := fun s j => if d < s then f s j ^^^ tmul (tmul (f s c) (tinv (f d c))) (f d j) else f s j

def rnkStep (n c : Nat) (st : Nat × (Nat → Nat → Nat)) : Nat × (Nat → Nat → Nat) :=
  match lead st.2 c n st.1 with
  | none => st
  | some i => (st.1 + 1, elimF (fun s => st.2 (swp i st.1 s)) st.1 c)

def rnk (n : Nat) (f : Nat → Nat → Nat) : Nat → Nat × (Nat → Nat → Nat)
  | 0 => (0, f)
  | c + 1 => rnkStep n c (rnk n f c)

theorem rnkStep_none {n c : Nat} {st : Nat × (Nat → Nat → Nat)} (h : lead st.2 c n st.1 = none) : rnkStep n c st = st := by unfold rnkStep; rw [h]

theorem rnkStep_some {n c i : Nat} {st : Nat × (Nat → Nat → Nat)} (h : lead st.2 c n st.1 = some i) : rnkStep n c st = (st.1 + 1, elimF (fun s => st.2 (swp i st.1 s)) st.1 c) := by unfold rnkStep; rw [h]

theorem elimF_lt {f : Nat → Nat → Nat} (d c : Nat) (hf : ∀ r j, f r j < 256) (s j : Nat) : elimF f d c s j < 256 := by
  unfold elimF
  split
  · exact xor_lt _ _ (hf _ _) (tmul_lt _ _ (tmul_lt _ _ (hf _ _) (tinv_lt _)) (hf _ _))
  · exact hf _ _

theorem rnk_lt (n : Nat) (f : Nat → Nat → Nat) (hf : ∀ r j, f r j < 256) : ∀ c r j, (rnk n f c).2 r j < 256
  | 0 => hf
  | c + 1 => by
    intro r j
    unfold rnk
    cases h : lead (rnk n f c).2 c n (rnk n f c).1 with
    | none => rw [rnkStep_none h]; exact rnk_lt n f hf c r j
    | some i => rw [rnkStep_some h]; exact elimF_lt (f := fun s => (rnk n f c).2 (swp i (rnk n f c).1 s)) _ _ (fun r j => rnk_lt n f hf c _ j) r j

theorem rnk_le (n : Nat) (f : Nat → Nat → Nat) : ∀ c, (rnk n f c).1 ≤ n
  | 0 => Nat.zero_le _
  | c + 1 => by
    unfold rnk
    cases h : lead (rnk n f c).2 c n (rnk n f c).1 with
    | none => rw [rnkStep_none h]; exact rnk_le n f c
    | some i =>
      rw [rnkStep_some h]
      have := lead_some h
      show (rnk n f c).1 + 1 ≤ n
      omega

theorem leadGo_congr {f g : Nat → Nat → Nat} (c : Nat) : ∀ k d, (∀ s, d ≤ s → s < d + k → f s c = g s c) → leadGo f c k d = leadGo g c k d
  | 0, d, h => rfl
  | k + 1, d, h => by
    unfold leadGo
    rw [h d (Nat.le_refl _) (by omega), leadGo_congr c k (d + 1) (fun s h1 h2 => h s (by omega) (by omega))]

theorem lead_congr {f g : Nat → Nat → Nat} {c n d : Nat} (h : ∀ s, d ≤ s → s < n → f s c = g s c) : lead f c n d = lead g c n d := leadGo_congr c _ d (fun s h1 h2 => h s h1 (by omega))

theorem swp_comm (d i s : Nat) : swp d i s = swp i d s := by
  unfold swp
  split <;> split <;> simp_all

theorem swp_ge {d i s : Nat} (hi : d ≤ i) (hs : d ≤ s) : d ≤ swp d i s := by
  unfold swp
  split
  · exact hi
  · split <;> omega

theorem swp_below {d i s n : Nat} (hd : d < n) (hi : i < n) (hs : s < n) : swp d i s < n := by
  unfold swp
  split
  · exact hi
  · split <;> omega

theorem swp_self (d i : Nat) : swp d i d = i := by simp [swp]

theorem swp_swp (d i s : Nat) : swp d i (swp d i s) = s := by
  unfold swp
  split <;> split <;> (try split) <;> omega

theorem pivot_at (f : Nat → Nat → Nat) (d c i j : Nat) : pivot f d c i d j = tmul (f i j) (tinv (f i c)) := by
  simp [pivot, sweepF, scaleF, swp_self]

theorem pivot_off (f : Nat → Nat → Nat) (d c i s j : Nat) (h : s ≠ d) : pivot f d c i s j = f (swp d i s) j ^^^ tmul (f (swp d i s) c) (tmul (f i j) (tinv (f i c))) := by
  simp [pivot, sweepF, scaleF, swp_self, h]

/- Both count the same. -/
theorem red_rnk (n m : Nat) (f g : Nat → Nat → Nat) (h : ∀ s, s < n → ∀ j, j < m → f s j = g s j) : ∀ c, c ≤ m → (red n f c).1 = (rnk n g c).1 ∧ ∀ s, (red n f c).1 ≤ s → s < n → ∀ j, j < m → (red n f c).2 s j = (rnk n g c).2 s j
  | 0, _ => ⟨rfl, fun s _ hs j hj => h s hs j hj⟩
  | c + 1, hc => by
    obtain ⟨h1, h2⟩ := red_rnk n m f g h c (by omega)
    unfold red rnk
    generalize red n f c = R at h1 h2
    generalize rnk n g c = K at h1 h2
    obtain ⟨d, F⟩ := R
    obtain ⟨d', E⟩ := K
    simp only at h1 h2
    subst h1
    have hl : lead F c n d = lead E c n d := lead_congr (fun s h3 h4 => h2 s h3 h4 c (by omega))
    cases hL : lead F c n d with
    | none =>
      rw [redStep_none hL, rnkStep_none (by rw [← hl]; exact hL)]
      exact ⟨rfl, h2⟩
    | some i =>
      rw [redStep_some hL, rnkStep_some (i := i) (by rw [← hl]; exact hL)]
      obtain ⟨hi1, hi2, _, _⟩ := lead_some hL
      refine ⟨rfl, fun s hs1 hs2 j hj => ?_⟩
      simp only at hs1 ⊢
      have hsd : s ≠ d := by omega
      have e1 : swp i d s = swp d i s := swp_comm i d s
      have e2 : swp i d d = i := by rw [swp_comm, swp_self]
      rw [pivot_off F d c i s j hsd]
      unfold elimF
      rw [if_pos (by omega)]
      show _ = E (swp i d s) j ^^^ tmul (tmul (E (swp i d s) c) (tinv (E (swp i d d) c))) (E (swp i d d) j)
      rw [e1, e2, h2 (swp d i s) (swp_ge hi1 (by omega)) (swp_below (by omega) hi2 hs2) j hj, h2 (swp d i s) (swp_ge hi1 (by omega)) (swp_below (by omega) hi2 hs2) c (by omega),
        h2 i hi1 hi2 j hj, h2 i hi1 hi2 c (by omega), tmul_comm (E i j), ← tmul_assoc]

theorem red_step_le (n : Nat) (f : Nat → Nat → Nat) (c : Nat) : (red n f c).1 ≤ (red n f (c + 1)).1 ∧ (red n f (c + 1)).1 ≤ (red n f c).1 + 1 := by
  show (red n f c).1 ≤ (redStep n c (red n f c)).1 ∧ (redStep n c (red n f c)).1 ≤ (red n f c).1 + 1
  cases h : lead (red n f c).2 c n (red n f c).1 with
  | none => rw [redStep_none h]; omega
  | some i => rw [redStep_some h]; show _ ≤ (red n f c).1 + 1 ∧ (red n f c).1 + 1 ≤ _; omega

theorem red_more (n : Nat) (f : Nat → Nat → Nat) (c : Nat) : ∀ k, (red n f (c + k)).1 ≤ (red n f c).1 + k
  | 0 => Nat.le_refl _
  | k + 1 => by
    have := (red_step_le n f (c + k)).2
    have := red_more n f c k
    show (red n f (c + k + 1)).1 ≤ _
    omega

def delta (r j : Nat) : Nat := if r = j then 1 else 0

/- The columns that are done. -/
theorem red_unit (n m : Nat) (f : Nat → Nat → Nat) (hf : ∀ r j, f r j < 256) : ∀ c, (red n f c).1 = c → ∀ r, r < n → ∀ j, j < c → (red n f c).2 r j = delta r j
  | 0, _ => fun r _ j hj => absurd hj (Nat.not_lt_zero _)
  | c + 1, h => by
    have h0 : (red n f c).1 = c := by
      have := (red_step_le n f c).2
      have := red_le_col n f c
      omega
    have ih := red_unit n m f hf c h0
    have hlt := red_lt n f hf c
    cases hL : lead (red n f c).2 c n (red n f c).1 with
    | none =>
      have : (red n f (c + 1)).1 = (red n f c).1 := by show (redStep n c (red n f c)).1 = _; rw [redStep_none hL]
      omega
    | some i =>
      have e : red n f (c + 1) = ((red n f c).1 + 1, pivot (red n f c).2 (red n f c).1 c i) := redStep_some hL
      rw [e, h0]
      rw [h0] at hL
      generalize (red n f c).2 = F at ih hlt hL
      obtain ⟨hi1, hi2, hi3, _⟩ := lead_some hL
      intro r hr j hj
      show pivot F c c i r j = _
      by_cases er : r = c
      · subst er
        rw [pivot_at]
        by_cases ej : j = r
        · subst ej
          rw [tmul_tinv _ (hlt _ _) hi3]; simp [delta]
        · rw [ih i hi2 j (by omega)]
          have : i ≠ j := by omega
          simp [delta, this, tmul_zero_left]
          omega
      · rw [pivot_off F c c i r j er]
        have hs : swp c i r < n := swp_below (by omega) hi2 hr
        by_cases ej : j = c
        · subst ej
          rw [tmul_tinv _ (hlt _ _) hi3, tmul_one _ (hlt _ _)]
          simp [delta, er]
        · rw [ih i hi2 j (by omega), ih _ hs j (by omega)]
          have h1 : i ≠ j := by omega
          have h2 : delta i j = 0 := by simp [delta, h1]
          rw [h2, tmul_zero_left, tmul_zero_right, Nat.xor_zero]
          unfold delta swp
          by_cases e1 : r = i
          · subst e1
            have h3 : c ≠ j := by omega
            simp [er, h3, h1]
          · simp [er, e1]

/- A row that is so is so when it is multiplied, and so is the sum of two. -/
theorem dot_add_left {f g h : Nat → Nat} (hf : ∀ i, f i < 256) (hg : ∀ i, g i < 256) (hh : ∀ i, h i < 256) (n : Nat) : dot (fun i => g i ^^^ h i) f n = dot g f n ^^^ dot h f n := by
  rw [dot_comm, dot_add_right hf hg hh, dot_comm f g, dot_comm f h]

theorem dot_mul_left {f g : Nat → Nat} (hf : ∀ i, f i < 256) (hg : ∀ i, g i < 256) {c : Nat} (hc : c < 256) (n : Nat) : dot (fun i => tmul (g i) c) f n = tmul (dot g f n) c := by
  rw [dot_comm, dot_mul_right hf hg hc, dot_comm f g]

theorem dot_delta (g : Nat → Nat) (hg : ∀ i, g i < 256) (x a : Nat) : ∀ n, dot (fun l => if l = a then x else 0) g n = if a < n then tmul x (g a) else 0
  | 0 => by simp [dot]
  | n + 1 => by
    unfold dot
    rw [dot_delta g hg x a n]
    by_cases e : n = a
    · subst e
      rw [if_neg (Nat.lt_irrefl _), if_pos rfl, if_pos (by omega)]; simp
    · rw [if_neg e, tmul_zero_left, Nat.xor_zero]
      by_cases h : a < n
      · rw [if_pos h, if_pos (by omega)]
      · rw [if_neg h, if_neg (by omega)]

theorem one_tmul (a : Nat) (ha : a < 256) : tmul 1 a = a := by rw [tmul_comm, tmul_one a ha]

theorem dot_delta_row (g : Nat → Nat) (hg : ∀ i, g i < 256) (r n : Nat) (hr : r < n) : dot (fun l => delta r l) g n = g r := by
  have e : (fun l => delta r l) = fun l => if l = r then 1 else 0 := by
    funext l
    unfold delta
    by_cases h : r = l
    · subst h; simp
    · have h' : ¬ l = r := fun e => h e.symm
      simp [h, h']
  rw [e, dot_delta g hg 1 r n, if_pos hr, one_tmul _ (hg r)]

def Lin (f : Nat → Nat → Nat) (n : Nat) (u : Nat → Nat) : Prop := ∀ j, j < n → u j = dot (fun k => u (n + k)) (fun k => f k j) n

theorem lin_mul {f : Nat → Nat → Nat} (hf : ∀ r j, f r j < 256) {n : Nat} {u : Nat → Nat} (hu : ∀ i, u i < 256) {c : Nat} (hc : c < 256) (h : Lin f n u) : Lin f n (fun i => tmul (u i) c) := fun j hj => by
  show tmul (u j) c = dot (fun k => tmul (u (n + k)) c) (fun k => f k j) n
  rw [dot_mul_left (fun k => hf k j) (fun k => hu (n + k)) hc, ← h j hj]

theorem lin_add {f : Nat → Nat → Nat} (hf : ∀ r j, f r j < 256) {n : Nat} {u v : Nat → Nat} (hu : ∀ i, u i < 256) (hv : ∀ i, v i < 256) (h : Lin f n u) (k : Lin f n v) : Lin f n (fun i => u i ^^^ v i) := fun j hj => by
  show u j ^^^ v j = dot (fun l => u (n + l) ^^^ v (n + l)) (fun l => f l j) n
  rw [dot_add_left (fun l => hf l j) (fun l => hu (n + l)) (fun l => hv (n + l)), ← h j hj, ← k j hj]

theorem lin_pivot {f F : Nat → Nat → Nat} (hf : ∀ r j, f r j < 256) (hF : ∀ r j, F r j < 256) {n d c i : Nat} (hd : d < n) (hi : i < n) (h : ∀ r, r < n → Lin f n (F r)) : ∀ r, r < n → Lin f n (pivot F d c i r) := by
  intro r hr
  by_cases e : r = d
  · subst e
    have : pivot F r c i r = fun j => tmul (F i j) (tinv (F i c)) := by funext j; exact pivot_at F r c i j
    rw [this]
    exact lin_mul hf (hF i) (tinv_lt _) (h i hi)
  · have : pivot F d c i r = fun j => F (swp d i r) j ^^^ tmul (tmul (F i j) (tinv (F i c))) (F (swp d i r) c) := by
      funext j
      rw [pivot_off F d c i r j e, tmul_comm (F (swp d i r) c)]
    rw [this]
    exact lin_add hf (hF _) (fun j => tmul_lt _ _ (tmul_lt _ _ (hF _ _) (tinv_lt _)) (hF _ _)) (h _ (swp_below hd hi hr)) (lin_mul hf (fun j => tmul_lt _ _ (hF _ _) (tinv_lt _)) (hF _ _) (lin_mul hf (hF i) (tinv_lt _) (h i hi)))

theorem red_lin (n : Nat) (f g : Nat → Nat → Nat) (hf : ∀ r j, f r j < 256) (hg : ∀ r j, g r j < 256) (h : ∀ r, r < n → Lin f n (g r)) : ∀ c r, r < n → Lin f n ((red n g c).2 r)
  | 0 => h
  | c + 1 => by
    have ih := red_lin n f g hf hg h c
    have hlt := red_lt n g hg c
    intro r hr
    show Lin f n ((redStep n c (red n g c)).2 r)
    cases hL : lead (red n g c).2 c n (red n g c).1 with
    | none => rw [redStep_none hL]; exact ih r hr
    | some i =>
      rw [redStep_some hL]
      obtain ⟨h1, h2, _, _⟩ := lead_some hL
      exact lin_pivot hf hlt (by omega) h2 ih r hr

/- The rows that were there, of those that have come. -/
theorem pivot_back {F : Nat → Nat → Nat} (hF : ∀ r j, F r j < 256) {n d c i : Nat} (hd : d < n) (hi : i < n) (h0 : F i c ≠ 0) (k j : Nat) (hk : k < n) :
    F k j = dot (fun l => (if l = swp d i k then (if swp d i k = d then 0 else 1) else 0) ^^^ (if l = d then F k c else 0)) (fun l => pivot F d c i l j) n := by
  have hP := pivot_lt (f := F) d c i hF
  rw [dot_add_left (fun l => hP l j) (fun l => by split <;> (try split) <;> omega) (fun l => by split; exact hF _ _; omega), dot_delta _ (fun l => hP l j), dot_delta _ (fun l => hP l j), if_pos (swp_below hd hi hk), if_pos hd, pivot_at]
  by_cases e : swp d i k = d
  · have ek : k = i := by have := swp_swp d i k; rw [e, swp_self] at this; exact this.symm
    subst ek
    rw [if_pos e, tmul_zero_left, Nat.zero_xor, tmul_comm (F k j), ← tmul_assoc, tmul_tinv _ (hF _ _) h0, one_tmul _ (hF _ _)]
  · rw [if_neg e, one_tmul _ (hP _ _), pivot_off F d c i _ j e, swp_swp, Nat.xor_assoc, Nat.xor_self, Nat.xor_zero]

def Span (n m : Nat) (g F : Nat → Nat → Nat) : Prop := ∃ Q : Nat → Nat → Nat, (∀ r k, Q r k < 256) ∧ ∀ r, r < n → ∀ j, j < m → g r j = dot (Q r) (fun k => F k j) n

theorem span_pivot {g F : Nat → Nat → Nat} (hg : ∀ r j, g r j < 256) (hF : ∀ r j, F r j < 256) {n m d c i : Nat} (hd : d < n) (hi : i < n) (h0 : F i c ≠ 0) (h : Span n m g F) : Span n m g (pivot F d c i) := by
  obtain ⟨Q, hQ, hs⟩ := h
  have hP := pivot_lt (f := F) d c i hF
  let E : Nat → Nat → Nat := fun k l => (if l = swp d i k then (if swp d i k = d then 0 else 1) else 0) ^^^ (if l = d then F k c else 0)
  have hE : ∀ k l, E k l < 256 := fun k l => xor_lt _ _ (by split <;> (try split) <;> omega) (by split; exact hF _ _; omega)
  refine ⟨mulF Q E n, fun r k => mulF_lt hQ hE n r k, fun r hr j hj => ?_⟩
  rw [hs r hr j hj, dot_congr (f := Q r) (f' := Q r) (g := fun k => F k j) (g' := fun k => mulF E (pivot F d c i) n k j) (fun _ _ => rfl) (fun k hk => pivot_back hF hd hi h0 k j hk)]
  exact (mul_assoc3 Q E (pivot F d c i) hQ hE hP n r j n).symm

theorem red_span (n m : Nat) (g : Nat → Nat → Nat) (hg : ∀ r j, g r j < 256) : ∀ c, Span n m g (red n g c).2
  | 0 => ⟨delta, fun r k => by unfold delta; split <;> omega, fun r hr j hj => (dot_delta_row (fun k => g k j) (fun k => hg k j) r n hr).symm⟩
  | c + 1 => by
    have ih := red_span n m g hg c
    have hlt := red_lt n g hg c
    show Span n m g (redStep n c (red n g c)).2
    cases hL : lead (red n g c).2 c n (red n g c).1 with
    | none => rw [redStep_none hL]; exact ih
    | some i =>
      rw [redStep_some hL]
      obtain ⟨h1, h2, h3, _⟩ := lead_some hL
      exact span_pivot hg hlt (by omega) h2 h3 ih

end Go.Proofs.Ytmlaloadeeohbaa
