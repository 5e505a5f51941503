/-
  Texts in order: strictly, wholly, and by their runes just as by their bytes.
  Conditions: none.
-/
import Derived.Test.YtjhbfcfipfmnbaaNaStr
namespace Go.Proofs.Ytjhbfcfipfmnbaa.Na
set_option linter.unusedVariables false
set_option linter.unusedSimpArgs false

theorem less_cons (a b : Nat) (x y : List Nat) : lessN (a :: x) (b :: y) = true ↔ a < b ∨ (a = b ∧ lessN x y = true) := by
  simp [lessN]

theorem less_irrefl : ∀ x : List Nat, lessN x x = false
  | [] => rfl
  | a :: x => by simp [lessN, less_irrefl x]

theorem less_trans : ∀ x y z : List Nat, lessN x y = true → lessN y z = true → lessN x z = true
  | _, [], _, h, _ => by cases ‹List Nat› <;> simp [lessN] at h
  | _, _ :: _, [], _, h => by simp [lessN] at h
  | [], _ :: _, _ :: _, _, _ => rfl
  | a :: x, b :: y, c :: z, h, k => by
    rw [less_cons] at h k ⊢
    rcases h with h | ⟨h, h'⟩
    · rcases k with k | ⟨k, k'⟩
      · exact .inl (by omega)
      · exact .inl (by omega)
    · rcases k with k | ⟨k, k'⟩
      · exact .inl (by omega)
      · exact .inr ⟨by omega, less_trans x y z h' k'⟩

theorem less_asym (x y : List Nat) (h : lessN x y = true) : lessN y x = false := by
  cases hh : lessN y x with
  | false => rfl
  | true =>
    have := less_trans x y x h hh
    rw [less_irrefl] at this
    cases this

theorem less_total : ∀ x y : List Nat, x ≠ y → lessN x y ≠ lessN y x
  | [], [], h => absurd rfl h
  | [], _ :: _, _ => by simp [lessN]
  | _ :: _, [], _ => by simp [lessN]
  | a :: x, b :: y, h => by
    intro e
    by_cases hab : a < b
    · have h1 : lessN (a :: x) (b :: y) = true := (less_cons ..).2 (.inl hab)
      have h2 := less_asym _ _ h1
      rw [h1, h2] at e
      cases e
    · by_cases hba : b < a
      · have h1 : lessN (b :: y) (a :: x) = true := (less_cons ..).2 (.inl hba)
        have h2 := less_asym _ _ h1
        rw [h1, h2] at e
        cases e
      · obtain rfl : a = b := by omega
        refine less_total x y (fun hx => h (by rw [hx])) ?_
        simpa [lessN] using e

theorem less_left : ∀ x y z : List Nat, lessN (x ++ y) (x ++ z) = lessN y z
  | [], _, _ => rfl
  | a :: x, y, z => by
    simp only [List.cons_append, lessN]
    rw [less_left x y z]
    simp

theorem enc_less {a b : Nat} (ha : ok a) (hb : ok b) (h : a < b) (y z : List Nat) : lessN (encN a ++ y) (encN b ++ z) = true := by
  unfold ok at ha hb
  by_cases a1 : a < 128
  · rw [enc_one a1]
    by_cases b1 : b < 128
    · rw [enc_one b1]; exact (less_cons ..).2 (.inl h)
    · by_cases b2 : b < 2048
      · rw [enc_two (by omega) b2]; exact (less_cons ..).2 (.inl (by omega))
      · by_cases b3 : b < 65536
        · rw [enc_three (by omega) b3]; exact (less_cons ..).2 (.inl (by omega))
        · rw [enc_four (by omega)]; exact (less_cons ..).2 (.inl (by omega))
  · by_cases a2 : a < 2048
    · rw [enc_two (by omega) a2]
      by_cases b2 : b < 2048
      · rw [enc_two (by omega) b2]
        simp only [List.cons_append, List.nil_append, less_cons]
        by_cases e0 : a / 64 < b / 64
        · exact .inl (by omega)
        · exact .inr ⟨by omega, .inl (by omega)⟩
      · by_cases b3 : b < 65536
        · rw [enc_three (by omega) b3]; exact (less_cons ..).2 (.inl (by omega))
        · rw [enc_four (by omega)]; exact (less_cons ..).2 (.inl (by omega))
    · by_cases a3 : a < 65536
      · rw [enc_three (by omega) a3]
        by_cases b3 : b < 65536
        · rw [enc_three (by omega) b3]
          simp only [List.cons_append, List.nil_append, less_cons]
          by_cases e0 : a / 4096 < b / 4096
          · exact .inl (by omega)
          · refine .inr ⟨by omega, ?_⟩
            by_cases e1 : a / 64 % 64 < b / 64 % 64
            · exact .inl (by omega)
            · exact .inr ⟨by omega, .inl (by omega)⟩
        · rw [enc_four (by omega)]; exact (less_cons ..).2 (.inl (by omega))
      · rw [enc_four (by omega), enc_four (by omega)]
        simp only [List.cons_append, List.nil_append, less_cons]
        by_cases e0 : a / 262144 < b / 262144
        · exact .inl (by omega)
        · refine .inr ⟨by omega, ?_⟩
          by_cases e1 : a / 4096 % 64 < b / 4096 % 64
          · exact .inl (by omega)
          · refine .inr ⟨by omega, ?_⟩
            by_cases e2 : a / 64 % 64 < b / 64 % 64
            · exact .inl (by omega)
            · exact .inr ⟨by omega, .inl (by omega)⟩

theorem flat_less : ∀ l k : List Nat, (∀ r ∈ l, ok r) → (∀ r ∈ k, ok r) → lessN (flat l) (flat k) = lessN l k
  | l, [], _, _ => by
    have : flat [] = [] := rfl
    rw [this]
    cases l <;> cases flat _ <;> rfl
  | [], b :: k, _, _ => by
    have h1 := width_pos b
    rw [flat_cons]
    have : flat [] = [] := rfl
    rw [this]
    cases he : encN b with
    | nil =>
      have := enc_length b
      rw [he] at this
      simp at this
      omega
    | cons x t => rfl
  | a :: l, b :: k, hl, hk => by
    have ha := hl a (by simp)
    have hb := hk b (by simp)
    rw [flat_cons, flat_cons]
    by_cases hab : a < b
    · rw [enc_less ha hb hab, (less_cons ..).2 (.inl hab)]
    · by_cases hba : b < a
      · rw [less_asym _ _ (enc_less hb ha hba (flat k) (flat l)), less_asym _ _ ((less_cons b a k l).2 (.inl hba))]
      · obtain rfl : a = b := by omega
        rw [less_left, flat_less l k (fun r hr => hl r (by simp [hr])) (fun r hr => hk r (by simp [hr]))]
        simp [lessN]

theorem less_at : ∀ (l k : List Nat) (i : Nat), i < l.length → i < k.length → (∀ j, j < i → l.getD j 0 = k.getD j 0) → l.getD i 0 ≠ k.getD i 0 → lessN l k = decide (l.getD i 0 < k.getD i 0)
  | [], _, i, h, _, _, _ => by simp at h
  | _ :: _, [], i, _, h, _, _ => by simp at h
  | a :: l, b :: k, 0, _, _, _, h => by
    simp only [List.getD_cons_zero] at h ⊢
    simp [lessN, h]
  | a :: l, b :: k, i + 1, h1, h2, h3, h4 => by
    have h0 := h3 0 (by omega)
    simp only [List.getD_cons_zero] at h0
    subst h0
    simp only [List.getD_cons_succ] at h4 ⊢
    rw [← less_at l k i (by simpa using h1) (by simpa using h2) (fun j hj => by have := h3 (j + 1) (by omega); simpa using this) h4]
    simp [lessN]

theorem less_end : ∀ l k : List Nat, (∀ j, j < l.length → j < k.length → l.getD j 0 = k.getD j 0) → lessN l k = decide (l.length < k.length)
  | [], [], _ => rfl
  | [], _ :: _, _ => by simp [lessN]
  | _ :: _, [], _ => by simp [lessN]
  | a :: l, b :: k, h => by
    have h0 := h 0 (by simp) (by simp)
    simp only [List.getD_cons_zero] at h0
    subst h0
    have := less_end l k (fun j h1 h2 => by have := h (j + 1) (by simpa using h1) (by simpa using h2); simpa using this)
    simp [lessN, this]

end Go.Proofs.Ytjhbfcfipfmnbaa.Na
