/-
  Capitals made small: of runes just as of bytes; a fold's runes, and whether it may be.
  Conditions: none.
-/
import Derived.Test.YtjhbfcfipfmnbaaNaWhy
import Derived.Test.YtjhbfcfipfmnbaaNaHead
import Derived.Lib.RuneBytes
namespace Go.Proofs.Ytjhbfcfipfmnbaa.Na
set_option linter.unusedVariables false
set_option linter.unusedSimpArgs false

def foldN (r : Nat) : Nat := if 65 ≤ r ∧ r ≤ 90 then r + 32 else r

theorem fold_yes' {r : Nat} (h1 : 65 ≤ r) (h2 : r ≤ 90) : foldN r = r + 32 := by unfold foldN; rw [if_pos ⟨h1, h2⟩]
theorem fold_no' {r : Nat} (h : ¬ (65 ≤ r ∧ r ≤ 90)) : foldN r = r := by unfold foldN; rw [if_neg h]

theorem ok_fold {r : Nat} (h : ok r) : ok (foldN r) := by
  unfold ok at *
  unfold foldN
  split <;> omega

theorem fold_fold (r : Nat) : foldN (foldN r) = foldN r := by
  unfold foldN
  split
  · rw [if_neg (by omega)]
  · rfl

theorem width_fold (r : Nat) : width (foldN r) = width r := by
  by_cases h : 65 ≤ r ∧ r ≤ 90
  · rw [fold_yes' h.1 h.2]
    simp [width, show r < 128 by omega, show r + 32 < 128 by omega]
  · rw [fold_no' h]

theorem enc_fold (r : Nat) : encN (foldN r) = (encN r).map foldN := by
  by_cases h1 : r < 128
  · have h2 : foldN r < 128 := by unfold foldN; split <;> omega
    rw [enc_one h1, enc_one h2]
    rfl
  · rw [fold_no' (by omega)]
    by_cases h2 : r < 2048
    · rw [enc_two (by omega) h2]
      simp only [List.map_cons, List.map_nil]
      rw [fold_no' (by omega), fold_no' (by omega)]
    · by_cases h3 : r < 65536
      · rw [enc_three (by omega) h3]
        simp only [List.map_cons, List.map_nil]
        rw [fold_no' (by omega), fold_no' (by omega), fold_no' (by omega)]
      · rw [enc_four (by omega)]
        simp only [List.map_cons, List.map_nil]
        rw [fold_no' (by omega), fold_no' (by omega), fold_no' (by omega), fold_no' (by omega)]

theorem flat_fold (rs : List Nat) : flat (rs.map foldN) = (flat rs).map foldN := by
  induction rs with
  | nil => rfl
  | cons r rs ih => rw [List.map_cons, flat_cons, flat_cons, List.map_append, ih, enc_fold]

theorem ok_folds {rs : List Nat} (h : ∀ r ∈ rs, ok r) : ∀ r ∈ rs.map foldN, ok r := by
  intro r hr
  obtain ⟨x, hx, rfl⟩ := List.mem_map.1 hr
  exact ok_fold (h x hx)

theorem folds_folds (rs : List Nat) : (rs.map foldN).map foldN = rs.map foldN := by
  rw [List.map_map]
  exact List.map_congr_left fun r _ => fold_fold r

theorem getD_fold (rs : List Nat) (i : Nat) : (rs.map foldN).getD i 0 = foldN (rs.getD i 0) := by
  by_cases h : i < rs.length
  · simp [List.getD, List.getElem?_eq_getElem h]
  · simp [List.getD, List.getElem?_eq_none (Nat.le_of_not_lt h), foldN]

theorem fold_blank (r : Nat) : foldN r = 32 ↔ r = 32 := by
  unfold foldN
  split <;> omega

theorem fine_fold (r : Nat) : fine (foldN r) = fine r := by
  by_cases h : 65 ≤ r ∧ r ≤ 90
  · rw [fold_yes' h.1 h.2]
    cases h1 : fine (r + 32) with
    | false => have := fine_no h1; omega
    | true =>
      cases h2 : fine r with
      | false => have := fine_no h2; omega
      | true => rfl
  · rw [fold_no' h]

theorem all_fold (rs : List Nat) : (rs.map foldN).all fine = rs.all fine := by
  induction rs with
  | nil => rfl
  | cons r rs ih => rw [List.map_cons, List.all_cons, List.all_cons, ih, fine_fold]

theorem why_fold (rs : List Nat) : why (rs.map foldN) [] = why rs [] := by
  unfold why
  simp only [List.length_map, getD_fold, fold_blank, all_fold]

theorem pos_fold (rs : List Nat) (k : Nat) (hk : k ≤ rs.length) : (flat ((rs.take k).map foldN)).length = pos rs k := by
  rw [flat_fold, List.length_map]
  rfl

/- As the library writes a rune. -/
theorem encode_nat {r : Nat} (h : ok r) : Lib.encodeRune (r : Int) = (encN r).map UInt8.ofNat := by
  unfold ok at h
  unfold Lib.encodeRune
  by_cases h1 : r < 128
  · rw [enc_one h1, Lib.encodeRuneZ_one (by omega) (by omega)]
    rfl
  · by_cases h2 : r < 2048
    · rw [enc_two (by omega) h2, Lib.encodeRuneZ_two (by omega) (by omega)]
      simp only [List.map_cons, List.map_nil]
      rw [show ((192 : Int) + (r : Int) / 64).toNat = 192 + r / 64 by omega, show ((128 : Int) + (r : Int) % 64).toNat = 128 + r % 64 by omega]
    · by_cases h3 : r < 65536
      · rw [enc_three (by omega) h3, Lib.encodeRuneZ_three (by omega)]
        simp only [List.map_cons, List.map_nil]
        rw [show ((224 : Int) + (r : Int) / 4096).toNat = 224 + r / 4096 by omega, show ((128 : Int) + (r : Int) / 64 % 64).toNat = 128 + r / 64 % 64 by omega, show ((128 : Int) + (r : Int) % 64).toNat = 128 + r % 64 by omega]
      · rw [enc_four (by omega), Lib.encodeRuneZ_four (by omega) (by omega)]
        simp only [List.map_cons, List.map_nil]
        rw [show ((240 : Int) + (r : Int) / 262144).toNat = 240 + r / 262144 by omega, show ((128 : Int) + (r : Int) / 4096 % 64).toNat = 128 + r / 4096 % 64 by omega, show ((128 : Int) + (r : Int) / 64 % 64).toNat = 128 + r / 64 % 64 by omega, show ((128 : Int) + (r : Int) % 64).toNat = 128 + r % 64 by omega]

def acc (rs : List Nat) (k : Nat) : List UInt8 := (flat ((rs.take k).map foldN)).map UInt8.ofNat

theorem acc_succ {rs : List Nat} {k : Nat} (hk : k < rs.length) (ho : ∀ r ∈ rs, ok r) : acc rs (k + 1) = acc rs k ++ Lib.encodeRune ((foldN (rs.getD k 0) : Nat) : Int) := by
  rw [encode_nat (ok_fold (ho _ (getD_mem hk)))]
  unfold acc
  rw [take_snoc hk, List.map_append, flat_append, List.map_append]
  congr 1
  simp [flat]

theorem acc_length (rs : List Nat) (k : Nat) (hk : k ≤ rs.length) : (acc rs k).length = pos rs k := by
  unfold acc
  rw [List.length_map, pos_fold rs k hk]

theorem acc_all (rs : List Nat) : (⟨(acc rs rs.length).toArray⟩ : ByteArray) = str (flat (rs.map foldN)) := by
  unfold acc str
  rw [List.take_length]

end Go.Proofs.Ytjhbfcfipfmnbaa.Na
