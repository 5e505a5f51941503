/-
  What the document's powers of package gf do: contracts over plain numbers ('GfPowPlain').
  Conditions: the element is below 256; the number is of the kind int.
-/
import Derived.Test.YtfjegmmojdkdeaaGfAwake
namespace Go.Proofs.Ytfjegmmojdkdeaa
open Go.RowKit Gf

/- Pow(a, n), a not 0, n not below 0. -/
set_option maxHeartbeats 400000 in
set_option maxRecDepth 100000 in
theorem rpow_up (a : Nat) (n : Int) (w : World) (ha : a < 256) (h0 : a ≠ 0) (h1 : 0 ≤ n) (h2 : n ≤ 9223372036854775807) :
    Calls Try.prog 16 #[.int .u8 a, .int .i64 n] w fun e w' => e = .returned (.tuple #[.int .u8 (tpow a n : Int), .bool true]) ∧ w' = w := by
  have HN : Hid (a ≠ 0) := h0
  have g0 : ((a : Int) == 0) = false := by simp; omega
  clear h0
  go_enter Try.func16, Try.ntmps16
  go_wp2_with fail
  go_loop [8, 9] (fun o i => ∃ k O : Nat, (k : Int) ≤ n % 255 ∧ O < 256 ∧ Hid (O = E ((k * L a) % 255)) ∧ o = .int .u8 O ∧ i = .int .i64 k) (fun _ i => 255 - (intOf i).toNat)
  case atStart => exact ⟨0, 1, by omega, by omega, by rw [Nat.zero_mul, Nat.zero_mod, E_zero]; exact rfl, rfl, rfl⟩
  case round =>
    obtain ⟨k, O, hk, hO, HO, rfl, rfl⟩ := hrel
    by_cases hlt : (k : Int) < n % 255
    · have HM : Hid (rmul O a = E (((k + 1) * L a) % 255)) := by
        have := rmul_E_L k a ha HN.out
        rw [← HO.out] at this
        exact this
      have hl := rmul_lt O a hO
      clear HO
      go_wp2_with (go_at_call 13; refine (rmul_any _ _ _ hO ha).mono ?_; rintro e w' ⟨rfl, rfl⟩)
      go_round
      case rel => exact ⟨k + 1, rmul O a, by omega, hl, HM, rfl, by go_num⟩
      case measure => simp [intOf]; omega
    · have HK : Hid ((k : Int) = n % 255) := by
        have : (k : Int) = n % 255 := by omega
        exact this
      go_wp2_with fail
      go_ret2
      exact ⟨by rw [tpow_ne a n HN.out, ← HK.out, ← E_nat, ← HO.out]; rfl, rfl⟩

/- Pow(a, n). -/
set_option maxHeartbeats 400000 in
set_option maxRecDepth 100000 in
theorem rpow_any (a : Nat) (n : Int) (w : World) (ha : a < 256) (h1 : -9223372036854775808 ≤ n) (h2 : n ≤ 9223372036854775807) :
    Calls Try.prog 16 #[.int .u8 a, .int .i64 n] w fun e w' => e = .returned (.tuple #[.int .u8 (tpow a n : Int), .bool (decide (a ≠ 0 ∨ 0 ≤ n))]) ∧ w' = w := by
  by_cases h0 : a = 0
  · subst h0
    by_cases hn : n = 0
    · subst hn
      go_enter Try.func16, Try.ntmps16
      go_wp2_with fail
      go_ret2
      exact ⟨by simp [tpow], rfl⟩
    · have gn : (n == 0) = false := by simp [hn]
      have e1 : Hid (decide ((0 : Nat) ≠ 0 ∨ 0 ≤ n) = decide (0 < n)) := by
        have : decide ((0 : Nat) ≠ 0 ∨ 0 ≤ n) = decide (0 < n) := by rw [decide_eq_decide]; omega
        exact this
      have e2 : tpow 0 n = 0 := by simp [tpow, hn]
      go_enter Try.func16, Try.ntmps16
      go_wp2_with fail
      go_ret2
      exact ⟨by rw [e1.out, e2]; rfl, rfl⟩
  · have e1 : Hid (decide (a ≠ 0 ∨ 0 ≤ n) = true) := decide_eq_true (Or.inl h0)
    by_cases hn : 0 ≤ n
    · refine (rpow_up a n w ha h0 hn h2).mono ?_
      rintro e w' ⟨rfl, rfl⟩
      exact ⟨by rw [e1.out], rfl⟩
    · have g0 : ((a : Int) == 0) = false := by simp; omega
      have gb : (a != 0) = true := by simp [h0]
      have hv := tinv_lt a
      have hv0 := tinv_ne a h0
      have hp := tpow_lt (tinv a) (-(n + 1))
      have HE : Hid (rmul (tpow (tinv a) (-(n + 1))) (tinv a) = tpow a n) := rmul_neg a n ha h0
      go_enter Try.func16, Try.ntmps16
      go_wp2_with (first | (go_at_call 8; refine (rinv_any _ _ ha).mono ?_; rintro e w' ⟨rfl, rfl⟩) | (go_at_call 16; refine (rpow_up _ _ _ hv hv0 (by omega) (by omega)).mono ?_; rintro e w' ⟨rfl, rfl⟩) | (go_at_call 13; refine (rmul_any _ _ _ hp hv).mono ?_; rintro e w' ⟨rfl, rfl⟩))
      go_ret2
      exact ⟨by rw [← HE.out, e1.out]; rfl, rfl⟩

/- Exp(n). -/
theorem rexp_any (n : Int) (w : World) (h1 : -9223372036854775808 ≤ n) (h2 : n ≤ 9223372036854775807) :
    Calls Try.prog 20 #[.int .i64 n] w fun e w' => e = .returned (.int .u8 (E (n % 255).toNat : Int)) ∧ w' = w := by
  have hp : ∀ w : World, Calls Try.prog 16 #[.int .u8 2, .int .i64 n] w fun e w' => e = .returned (.tuple #[.int .u8 (E (n % 255).toNat : Int), .bool true]) ∧ w' = w := by
    intro w
    refine (rpow_any 2 n w (by omega) h1 h2).mono ?_
    rintro e w' ⟨rfl, rfl⟩
    exact ⟨by rw [tpow_two, decide_eq_true (Or.inl (by omega))], rfl⟩
  go_enter Try.func20, Try.ntmps20
  go_wp2_with (go_at_call 16; refine (hp _).mono ?_; rintro e w' ⟨rfl, rfl⟩)
  go_ret
  exact ⟨rfl, rfl⟩

end Go.Proofs.Ytfjegmmojdkdeaa
