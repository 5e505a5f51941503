/-
  Numbers and bytes in their one form, and what a reader finds in bytes: plain numbers and lists.
  Conditions: none. Nothing here names the program.
-/
import Derived.WalkKit
namespace Go.Proofs.Ytjodeceaogngfaa.Wi

/- A number without sign. -/
def uvF : Nat → Nat → List Nat
  | 0, n => [n]
  | k + 1, n => if n < 128 then [n] else (n % 128 + 128) :: uvF k (n / 128)

theorem uvF_enough : ∀ k m n, n ≤ k → n ≤ m → uvF k n = uvF m n
  | 0, 0, _, _, _ => rfl
  | 0, m + 1, n, h, _ => by
    obtain rfl : n = 0 := by omega
    rfl
  | k + 1, 0, n, _, h => by
    obtain rfl : n = 0 := by omega
    rfl
  | k + 1, m + 1, n, h1, h2 => by
    unfold uvF
    by_cases h : n < 128
    · rw [if_pos h, if_pos h]
    · rw [if_neg h, if_neg h, uvF_enough k m (n / 128) (by omega) (by omega)]

def uv (n : Nat) : List Nat := uvF n n

theorem uv_small {n : Nat} (h : n < 128) : uv n = [n] := by
  unfold uv
  cases n with
  | zero => rfl
  | succ n => unfold uvF; rw [if_pos h]

theorem uv_big {n : Nat} (h : 128 ≤ n) : uv n = (n % 128 + 128) :: uv (n / 128) := by
  unfold uv
  cases n with
  | zero => omega
  | succ n =>
    conv => lhs; unfold uvF
    rw [if_neg (by omega), uvF_enough n ((n + 1) / 128) ((n + 1) / 128) (by omega) (Nat.le_refl _)]

theorem uv_pos (n : Nat) : 0 < (uv n).length := by
  by_cases h : n < 128
  · rw [uv_small h]; simp
  · rw [uv_big (by omega)]; simp

theorem uv_len : ∀ k n, n < 128 ^ (k + 1) → (uv n).length ≤ k + 1
  | 0, n, h => by rw [uv_small (by omega)]; simp
  | k + 1, n, h => by
    by_cases h1 : n < 128
    · rw [uv_small h1]; simp
    · rw [uv_big (by omega)]
      have := uv_len k (n / 128) (by rw [Nat.div_lt_iff_lt_mul (by omega)]; rw [Nat.pow_succ] at h; exact h)
      simp only [List.length_cons]
      omega

theorem uv_ten {n : Nat} (h : n < 18446744073709551616) : (uv n).length ≤ 10 := uv_len 9 n (by omega)

theorem uv_lt (n : Nat) : ∀ v ∈ uv n, v < 256 := by
  induction n using Nat.strongRecOn with
  | ind n ih =>
    intro v hv
    by_cases h : n < 128
    · rw [uv_small h] at hv
      simp at hv
      omega
    · rw [uv_big (by omega)] at hv
      rcases List.mem_cons.1 hv with hv | hv
      · omega
      · exact ih (n / 128) (by omega) v hv

/- Bytes of a number, the lowest first. -/
def fx (n k : Nat) : List Nat := (List.range k).map fun i => n / 256 ^ i % 256

theorem fx_len (n k : Nat) : (fx n k).length = k := by simp [fx]

theorem fx_lt (n k : Nat) : ∀ v ∈ fx n k, v < 256 := by
  intro v hv
  simp only [fx, List.mem_map] at hv
  obtain ⟨i, _, rfl⟩ := hv
  exact Nat.mod_lt _ (by omega)

theorem fx_succ (n k : Nat) : fx n (k + 1) = fx n k ++ [n / 256 ^ k % 256] := by simp [fx, List.range_succ]

theorem fx_four (n : Nat) : fx n 4 = [n % 256, n / 256 % 256, n / 65536 % 256, n / 16777216 % 256] := by
  simp [fx, List.range_succ]

theorem fx_eight (n : Nat) : fx (n % 4294967296) 4 ++ fx (n / 4294967296) 4 = fx n 8 := by
  rw [fx_four, fx_four]
  simp only [fx, List.range_succ, List.range_zero]
  simp
  omega

theorem fx_low (n : Nat) : fx (n % 4294967296) 4 = fx n 4 := by
  rw [fx_four, fx_four]
  simp
  omega

def le : List Nat → Nat
  | [] => 0
  | v :: l => v + 256 * le l

theorem le_fx : ∀ k n, n < 256 ^ k → le (fx n k) = n
  | 0, n, h => by simp [fx, le]; omega
  | k + 1, n, h => by
    have e : fx n (k + 1) = (n % 256) :: fx (n / 256) k := by
      unfold fx
      rw [List.range_succ_eq_map, List.map_cons, List.map_map]
      congr 1
      · simp
      · refine List.map_congr_left fun i _ => ?_
        simp only [Function.comp]
        rw [Nat.pow_succ', Nat.div_div_eq_div_mul]
    rw [e, le, le_fx k (n / 256) (by rw [Nat.div_lt_iff_lt_mul (by omega)]; rw [Nat.pow_succ] at h; exact h)]
    omega

theorem le_lt : ∀ l : List Nat, (∀ v ∈ l, v < 256) → le l < 256 ^ l.length
  | [], _ => by simp [le]
  | v :: l, h => by
    have h1 := le_lt l (fun x hx => h x (List.mem_cons_of_mem _ hx))
    have h2 := h v List.mem_cons_self
    simp only [le, List.length_cons, Nat.pow_succ]
    omega

theorem le_snoc : ∀ (l : List Nat) (v : Nat), le (l ++ [v]) = le l + v * 256 ^ l.length
  | [], v => by simp [le]
  | x :: l, v => by
    simp only [List.cons_append, le, le_snoc l v, List.length_cons, Nat.pow_succ]
    have : 256 * (v * 256 ^ l.length) = v * (256 ^ l.length * 256) := by
      rw [← Nat.mul_assoc, Nat.mul_comm 256 v, Nat.mul_assoc, Nat.mul_comm 256 (256 ^ _)]
    omega

theorem le_take_succ (l : List Nat) (k : Nat) (h : k < l.length) : le (l.take (k + 1)) = le (l.take k) + l.getD k 0 * 256 ^ k := by
  rw [List.take_add_one, List.getElem?_eq_getElem h]
  simp only [Option.toList_some]
  rw [le_snoc, List.length_take, Nat.min_eq_left (by omega)]
  simp [List.getD, h]

/- Numbers with sign. -/
def zz (n : Int) : Nat := if n < 0 then (-(2 * n) - 1).toNat else (2 * n).toNat
def unzz (n : Nat) : Int := if n % 2 = 1 then -((n / 2 : Nat) : Int) - 1 else ((n / 2 : Nat) : Int)

theorem unzz_zz (n : Int) : unzz (zz n) = n := by
  unfold zz unzz
  split <;> split <;> omega

theorem zz_unzz (n : Nat) : zz (unzz n) = n := by
  unfold zz unzz
  split <;> split <;> omega

theorem zz_lt {n : Int} (h1 : -9223372036854775808 ≤ n) (h2 : n ≤ 9223372036854775807) : zz n < 18446744073709551616 := by
  unfold zz
  split <;> omega

/- The number that bytes begin with, and how many of them it has. -/
def leadF : List Nat → Nat → Nat → Option (Nat × Nat)
  | [], _, _ => none
  | v :: l, i, n => if 10 ≤ i then none else if 128 ≤ v then leadF l (i + 1) (n + (v - 128) * 128 ^ i) else if (0 < i ∧ v = 0) ∨ (i = 9 ∧ 1 < v) then none else some (n + v * 128 ^ i, i + 1)

def lead (l : List Nat) : Option (Nat × Nat) := leadF l 0 0

theorem leadF_ten (l : List Nat) (i n : Nat) (h : 10 ≤ i) : leadF l i n = none := by
  cases l with
  | nil => rfl
  | cons v l => rw [leadF, if_pos h]

theorem leadF_uv (r : List Nat) (N : Nat) : ∀ i acc, acc + N * 128 ^ i < 18446744073709551616 → i ≤ 9 → (i = 0 ∨ N ≠ 0) → leadF (uv N ++ r) i acc = some (acc + N * 128 ^ i, i + (uv N).length) := by
  induction N using Nat.strongRecOn with
  | ind N ih =>
    intro i acc h hi h0
    by_cases hN : N < 128
    · rw [uv_small hN]
      simp only [List.cons_append, List.nil_append, List.length_cons, List.length_nil]
      rw [leadF, if_neg (by omega), if_neg (by omega), if_neg]
      rintro (⟨h1, h2⟩ | ⟨h1, h2⟩)
      · omega
      · subst h1
        omega
    · rw [uv_big (by omega)]
      simp only [List.cons_append, List.length_cons]
      have hp : 128 * 128 ^ i ≤ N * 128 ^ i := Nat.mul_le_mul_right _ (by omega)
      have hi9 : i + 1 ≤ 9 := by
        by_cases e : i = 9
        · subst e; omega
        · omega
      have e : N * 128 ^ i = N % 128 * 128 ^ i + N / 128 * 128 ^ (i + 1) := by
        rw [Nat.pow_succ, Nat.mul_comm (128 ^ i) 128, ← Nat.mul_assoc, ← Nat.add_mul]
        congr 1
        omega
      rw [leadF, if_neg (by omega), if_pos (by omega), Nat.add_sub_cancel, ih (N / 128) (by omega) (i + 1) _ (by omega) hi9 (by omega)]
      congr 2 <;> omega

theorem lead_uv {n : Nat} (h : n < 18446744073709551616) (r : List Nat) : lead (uv n ++ r) = some (n, (uv n).length) := by
  have := leadF_uv r n 0 0 (by omega) (by omega) (.inl rfl)
  unfold lead
  simpa using this

theorem leadF_canon : ∀ (l : List Nat) (i acc n k : Nat), (∀ v ∈ l, v < 256) → acc < 128 ^ i → leadF l i acc = some (n, k) →
    ∃ N, n = acc + N * 128 ^ i ∧ k = i + (uv N).length ∧ l.take (uv N).length = uv N ∧ (uv N).length ≤ l.length ∧ n < 18446744073709551616 ∧ (0 < i → N ≠ 0)
  | [], _, _, _, _, _, _, h => by cases h
  | v :: l, i, acc, n, k, hl, ha, h => by
    have hv := hl v List.mem_cons_self
    rw [leadF] at h
    by_cases h10 : 10 ≤ i
    · rw [if_pos h10] at h; cases h
    · rw [if_neg h10] at h
      by_cases h128 : 128 ≤ v
      · rw [if_pos h128] at h
        have hacc : acc + (v - 128) * 128 ^ i < 128 ^ (i + 1) := by
          have : (v - 128) * 128 ^ i ≤ 127 * 128 ^ i := Nat.mul_le_mul_right _ (by omega)
          rw [Nat.pow_succ]
          omega
        obtain ⟨N, h1, h2, h3, h4, h5, h6⟩ := leadF_canon l (i + 1) _ n k (fun x hx => hl x (List.mem_cons_of_mem _ hx)) hacc h
        have hN : N ≠ 0 := h6 (by omega)
        have e : uv (N * 128 + (v - 128)) = v :: uv N := by
          rw [uv_big (by omega)]
          congr 1
          · omega
          · congr 1; omega
        refine ⟨N * 128 + (v - 128), ?_, by rw [e, h2]; simp; omega, by rw [e]; simp [h3], by rw [e]; simp; omega, h5, fun _ => by omega⟩
        rw [h1, Nat.add_mul, Nat.mul_assoc, ← Nat.pow_succ', Nat.add_comm (N * _), ← Nat.add_assoc]
      · rw [if_neg h128] at h
        by_cases hc : (0 < i ∧ v = 0) ∨ (i = 9 ∧ 1 < v)
        · rw [if_pos hc] at h; cases h
        · rw [if_neg hc] at h
          injection h with h
          injection h with h1 h2
          have e : uv v = [v] := uv_small (by omega)
          refine ⟨v, h1.symm, by rw [e, ← h2]; simp, by rw [e]; simp, by rw [e]; simp, ?_, fun h0 hv0 => hc (.inl ⟨h0, hv0⟩)⟩
          rw [← h1]
          by_cases h9 : i = 9
          · subst h9
            have : v ≤ 1 := by omega
            omega
          · have hp : 128 ^ i ≤ 128 ^ 8 := Nat.pow_le_pow_right (by omega) (by omega)
            have : v * 128 ^ i ≤ 127 * 128 ^ i := Nat.mul_le_mul_right _ (by omega)
            omega

theorem lead_canon {l : List Nat} {n k : Nat} (hl : ∀ v ∈ l, v < 256) (h : lead l = some (n, k)) : l.take k = uv n ∧ k = (uv n).length ∧ k ≤ l.length ∧ n < 18446744073709551616 := by
  obtain ⟨N, h1, h2, h3, h4, h5, _⟩ := leadF_canon l 0 0 n k hl (by omega) h
  have e : n = N := by simpa using h1
  subst e
  rw [Nat.zero_add] at h2
  exact ⟨by rw [h2]; exact h3, h2, by omega, h5⟩

theorem lead_pos {l : List Nat} {n k : Nat} (hl : ∀ v ∈ l, v < 256) (h : lead l = some (n, k)) : 0 < k := by
  have := (lead_canon hl h).2.1
  have h2 := uv_pos n
  omega

/- A reader: what is behind the place, and what was wrong first. What it tells, what is then behind the place, what was wrong. -/
def rUv (l : List Nat) (e : Nat) : Nat × List Nat × Nat :=
  if e ≠ 0 then (0, l, e) else match lead l with | none => (0, l, 5) | some (n, k) => (n, l.drop k, 0)

def rFx (s : Nat) (l : List Nat) (e : Nat) : Nat × List Nat × Nat :=
  if e ≠ 0 then (0, l, e) else if l.length < s then (0, l, 5) else (le (l.take s), l.drop s, 0)

def rNum (most : Int) (l : List Nat) (e : Nat) : Nat × List Nat × Nat :=
  if e ≠ 0 then (0, l, e) else if (rUv l e).2.2 ≠ 0 then (0, (rUv l e).2.1, (rUv l e).2.2) else if most < 0 ∨ most < ((rUv l e).1 : Int) then (0, l, 3) else rUv l e

def rBy (most : Int) (l : List Nat) (e : Nat) : List Nat × List Nat × Nat :=
  if e ≠ 0 then ([], l, e) else if (rNum most l e).2.2 ≠ 0 then ([], (rNum most l e).2.1, (rNum most l e).2.2)
  else if (rNum most l e).2.1.length < (rNum most l e).1 then ([], l, 5) else ((rNum most l e).2.1.take (rNum most l e).1, (rNum most l e).2.1.drop (rNum most l e).1, 0)

def rDone (l : List Nat) (e : Nat) : Nat := if e ≠ 0 then e else if 0 < l.length then 5 else 0

theorem rUv_bad {l : List Nat} {e : Nat} (h : e ≠ 0) : rUv l e = (0, l, e) := by unfold rUv; rw [if_pos h]
theorem rUv_no {l : List Nat} (h : lead l = none) : rUv l 0 = (0, l, 5) := by unfold rUv; rw [if_neg (by omega), h]
theorem rUv_yes {l : List Nat} {n k : Nat} (h : lead l = some (n, k)) : rUv l 0 = (n, l.drop k, 0) := by unfold rUv; rw [if_neg (by omega), h]

theorem rUv_lt (l : List Nat) (e : Nat) (hl : ∀ v ∈ l, v < 256) : (rUv l e).1 < 18446744073709551616 := by
  by_cases h : e = 0
  · subst h
    cases h2 : lead l with
    | none => rw [rUv_no h2]; show 0 < _; omega
    | some q => obtain ⟨n, k⟩ := q; rw [rUv_yes h2]; exact (lead_canon hl h2).2.2.2
  · rw [rUv_bad h]; show 0 < _; omega

/- Where the place is: what is left is what was left, but for some at its beginning. -/
theorem rUv_drop (l : List Nat) (e : Nat) : ∃ k, (rUv l e).2.1 = l.drop k := by
  by_cases h : e = 0
  · subst h
    cases h2 : lead l with
    | none => rw [rUv_no h2]; exact ⟨0, rfl⟩
    | some q => obtain ⟨n, k⟩ := q; rw [rUv_yes h2]; exact ⟨k, rfl⟩
  · rw [rUv_bad h]; exact ⟨0, rfl⟩

end Go.Proofs.Ytjodeceaogngfaa.Wi
