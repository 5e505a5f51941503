/-
  What each call of package gf does: contracts over plain numbers ('GfPlain').
  Conditions: the elements are below 256; numbers are of the kind int.
-/
import Derived.Test.YtmlaloadeeohbaaGfWalks
import Derived.OpenShut
import Derived.Test.YtmlaloadeeohbaaGfPowPlain
namespace Go.Proofs.Ytmlaloadeeohbaa
open Go.RowKit Gf

theorem u8_nat {x : Int} (h : (Lit.int .u8 x).wf = true) : ∃ n : Nat, x = n ∧ n < 256 := by
  have := bounds_u8 h
  exact ⟨x.toNat, by omega, by omega⟩

theorem ret_int {k : IntKind} {a b : Int} (h : a = b) : Ending.returned (.int k a) = .returned (.int k b) := by rw [h]

/- remainder(n). -/
theorem remainder_any (n : Int) (w : World) (h1 : -9223372036854775808 ≤ n) (h2 : n ≤ 9223372036854775807) :
    Calls Try.prog 55 #[.int .i64 n] w fun e w' => e = .returned (.int .i64 (n % 255)) ∧ w' = w := by
  have ht : n.tmod 255 = if n % 255 = 0 ∨ 0 ≤ n then n % 255 else n % 255 - 255 := by
    rw [Int.tmod_eq_emod]
    simp only [Int.dvd_iff_emod_eq_zero]
    split <;> split <;> first | omega | rfl
  by_cases hc : n % 255 = 0 ∨ 0 ≤ n
  · rw [if_pos hc] at ht
    go_enter Try.func55, Try.ntmps55
    go_wp2
    all_goals go_ret
    all_goals exact ⟨ret_int (by omega), rfl⟩
  · rw [if_neg hc] at ht
    go_enter Try.func55, Try.ntmps55
    go_wp2
    all_goals go_ret
    all_goals exact ⟨ret_int (by omega), rfl⟩

/- Exp(n). -/
theorem exp_any (n : Int) (w : World) (h1 : -9223372036854775808 ≤ n) (h2 : n ≤ 9223372036854775807) :
    Calls Try.prog 50 #[.int .i64 n] w fun e w' => e = .returned (.int .u8 (E (n % 255).toNat : Int)) ∧ w' = w := by
  have hp : ∀ w : World, Calls Try.prog 54 #[.int .i64 (n % 255)] w fun e w' => e = .returned (.int .u8 (E (n % 255).toNat : Int)) ∧ w' = w := by
    intro w
    have := power_any (n % 255).toNat w (by omega)
    rwa [Int.toNat_of_nonneg (by omega)] at this
  go_enter Try.func50, Try.ntmps50
  go_wp2_with (first | (go_at_call 55; refine (remainder_any n _ h1 h2).mono ?_; rintro e w' ⟨rfl, rfl⟩) | (go_at_call 54; refine (hp _).mono ?_; rintro e w' ⟨rfl, rfl⟩))
  go_ret
  exact ⟨rfl, rfl⟩

/- Add(a, b). -/
theorem add_any (a b : Nat) (w : World) (ha : a < 256) (hb : b < 256) :
    Calls Try.prog 46 #[.int .u8 a, .int .u8 b] w fun e w' => e = .returned (.int .u8 ((a ^^^ b : Nat) : Int)) ∧ w' = w := by
  have hx := u8_xor_nat a b ha hb
  go_enter Try.func46, Try.ntmps46
  go_wp2
  go_ret
  exact ⟨rfl, rfl⟩

/- Mul(a, b). -/
theorem mul_any (a b : Nat) (w : World) (ha : a < 256) (hb : b < 256) :
    Calls Try.prog 47 #[.int .u8 a, .int .u8 b] w fun e w' => e = .returned (.int .u8 (tmul a b : Int)) ∧ w' = w := by
  by_cases h0 : a = 0
  · subst h0
    go_enter Try.func47, Try.ntmps47
    go_wp2_with fail
    go_ret
    exact ⟨by rw [tmul_zero_left]; rfl, rfl⟩
  · by_cases h1 : b = 0
    · subst h1
      go_enter Try.func47, Try.ntmps47
      go_wp2_with fail
      go_ret
      exact ⟨by rw [tmul_zero_right]; rfl, rfl⟩
    · have la := L_lt a ha
      have lb := L_lt b hb
      have HE : Hid (E (((L a : Int) + (L b : Int)) % 255).toNat = tmul a b) := by
        unfold tmul
        rw [if_neg (by omega)]
        congr 1
      have g0 : ((a : Int) == 0) = false := by simp; omega
      have g1 : ((b : Int) == 0) = false := by simp; omega
      go_enter Try.func47, Try.ntmps47
      go_wp2_with (first | (go_at_call 51; refine (log_any _ _ (by assumption)).mono ?_; rintro e w' ⟨rfl, rfl⟩) | (go_at_call 50; refine (exp_any _ _ (by omega) (by omega)).mono ?_; rintro e w' ⟨rfl, rfl⟩))
      go_ret
      exact ⟨by rw [← HE.out]; rfl, rfl⟩

/- Inv(a). -/
theorem inv_any (a : Nat) (w : World) (ha : a < 256) :
    Calls Try.prog 43 #[.int .u8 a] w fun e w' => e = .returned (.tuple #[.int .u8 (tinv a : Int), .bool (a != 0)]) ∧ w' = w := by
  by_cases h0 : a = 0
  · subst h0
    go_enter Try.func43, Try.ntmps43
    go_wp2_with fail
    go_ret2
    exact ⟨rfl, rfl⟩
  · have la := L_lt a ha
    have g0 : ((a : Int) == 0) = false := by simp; omega
    have gb : (a != 0) = true := by simp [h0]
    have HE : Hid (E ((-(L a : Int)) % 255).toNat = tinv a) := by
      unfold tinv
      rw [if_neg h0]
      congr 1
      omega
    go_enter Try.func43, Try.ntmps43
    go_wp2_with (first | (go_at_call 51; refine (log_any _ _ (by assumption)).mono ?_; rintro e w' ⟨rfl, rfl⟩) | (go_at_call 50; refine (exp_any _ _ (by omega) (by omega)).mono ?_; rintro e w' ⟨rfl, rfl⟩))
    go_ret2
    exact ⟨by rw [HE.out, gb]; rfl, rfl⟩

end Go.Proofs.Ytmlaloadeeohbaa
