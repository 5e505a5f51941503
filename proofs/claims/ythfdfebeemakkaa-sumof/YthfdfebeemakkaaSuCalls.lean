/-
  What the calls of package sum that only reckon do, and the document's sum: contracts over plain numbers ('SuPlain').
  Conditions: bytes that are looked at lie in memory.
-/
import Derived.Test.YthfdfebeemakkaaByRows
import Derived.Test.YthfdfebeemakkaaSuPlain
import Derived.Laws.BitsAllLaws
namespace Go.Proofs.Ythfdfebeemakkaa
open Go.RowKit Su By
set_option linter.unusedVariables false

theorem ret_int {k : IntKind} {a b : Int} (h : a = b) : Ending.returned (.int k a) = .returned (.int k b) := by rw [h]

theorem and_one (a : Nat) (ha : a < 4294967296) : bits .and .u32 (a : Int) 1 = ((a % 2 : Nat) : Int) := by
  have := u32_and_nat a 1 ha (by omega)
  rw [Nat.and_one_is_mod] at this
  exact this

theorem and_top (a : Nat) (ha : a < 4294967296) : bits .and .u32 (a : Int) 2147483648 = if a.testBit 31 then 2147483648 else 0 := by
  have h := u32_and_nat a 2147483648 ha (by omega)
  have e : a &&& 2147483648 = if a.testBit 31 then 2147483648 else 0 := by
    apply Nat.eq_of_testBit_eq
    intro i
    rw [Nat.testBit_and, show (2147483648 : Nat) = 2 ^ 31 from rfl, Nat.testBit_two_pow]
    by_cases hi : 31 = i
    · subst hi
      cases h2 : a.testBit 31
      · simp
      · simp only [if_true]
        rw [Nat.testBit_two_pow]
        simp
    · cases h2 : a.testBit 31
      · simp [hi]
      · simp only [if_true]
        rw [Nat.testBit_two_pow]
        simp [hi]
  rw [e] at h
  refine h.trans ?_
  cases a.testBit 31 <;> rfl

/- timesX(a). -/
theorem timesx_any (a : Nat) (w : World) (ha : a < 4294967296) :
    Calls Try.prog 21 #[.int .u32 a] w fun e w' => e = .returned (.int .u32 (T a : Int)) ∧ w' = w := by
  have h1 := and_one a ha
  by_cases h : a % 2 = 1
  · rw [h] at h1
    have hx : bits .xor .u32 ((a : Int) / 2) 2197175160 = ((T a : Nat) : Int) := by
      have := u32_xor_nat (a / 2) 2197175160 (by omega) (by omega)
      rw [show T a = (a / 2) ^^^ 2197175160 by unfold T; rw [if_pos h]; rfl]
      exact this
    clear h
    go_enter Try.func21, Try.ntmps21
    go_wp2_with fail
    go_ret
    exact ⟨rfl, rfl⟩
  · rw [show a % 2 = 0 by omega] at h1
    have hx : (T a : Int) = (a : Int) / 2 := by unfold T; rw [if_neg h]; rfl
    clear h
    go_enter Try.func21, Try.ntmps21
    go_wp2_with fail
    go_ret
    exact ⟨by rw [hx]; rfl, rfl⟩

/- product(a, b). -/
set_option maxHeartbeats 400000 in
set_option maxRecDepth 100000 in
theorem product_any (a b : Nat) (w : World) (ha : a < 4294967296) (hb : b < 4294967296) :
    Calls Try.prog 19 #[.int .u32 a, .int .u32 b] w fun e w' => e = .returned (.int .u32 (mul a b : Int)) ∧ w' = w := by
  go_enter Try.func19, Try.ntmps19
  go_wp2
  go_loop [0, 1, 5] (fun x y o => ∃ k A B O : Nat, k ≤ 32 ∧ A < 4294967296 ∧ B < 4294967296 ∧ O < 4294967296 ∧ x = .int .u32 A ∧ y = .int .u32 B ∧ o = .int .u32 O ∧ Hid (A = Tn k a ∧ B = b * 2 ^ k % 4294967296 ∧ O = mulS a b k)) (fun _ y _ => left 33 (intOf y).toNat)
  case atStart => exact ⟨0, a, b, 0, by omega, ha, hb, by omega, rfl, rfl, rfl, rfl, by omega, rfl⟩
  case round =>
    obtain ⟨k, A, B, O, hk, hA, hB, hO, rfl, rfl, rfl, HR⟩ := hrel
    by_cases h0 : B = 0
    · have HO : Hid (O = mul a b) := by
        obtain ⟨h1, h2, h3⟩ := HR.out
        rw [h0] at h2
        rw [h3]
        exact (mulS_done a b k h2.symm 32 hk (by omega)).symm
      clear HR
      subst h0
      go_wp2
      go_ret
      exact ⟨by rw [← HO.out]; rfl, rfl⟩
    · have hk2 : k < 32 := by
        by_cases e : k < 32
        · exact e
        · have e2 : k = 32 := by omega
          have := HR.out.2.1
          rw [e2] at this
          omega
      have HL : Hid (left 33 (B * 2 % 4294967296) < left 33 B) := left_lt B h0
      have hT := T_lt A hA
      have hn := and_top B hB
      have hne : ((B : Int) != 0) = true := by simp; omega
      by_cases ht : B.testBit 31
      · rw [if_pos ht] at hn
        have HS : Hid (T A = Tn (k + 1) a ∧ B * 2 % 4294967296 = b * 2 ^ (k + 1) % 4294967296 ∧ O ^^^ A = mulS a b (k + 1)) := by
          obtain ⟨h1, h2, h3⟩ := HR.out
          refine ⟨by rw [h1]; rfl, by rw [h2]; exact shl_next b k, ?_⟩
          rw [h2, bit_top b k hk2] at ht
          rw [h3, h1, mulS, if_pos ht]
        have hx := u32_xor_nat O A hO hA
        have hxl := xor32 hO hA
        clear HR ht h0
        go_wp2_with (go_at_call 21; refine (timesx_any _ _ hA).mono ?_; rintro e w' ⟨rfl, rfl⟩)
        go_round
        case rel => exact ⟨k + 1, T A, B * 2 % 4294967296, O ^^^ A, by omega, hT, by omega, hxl, rfl, by go_num, rfl, HS⟩
        case measure => simp [intOf]; exact HL.out
      · rw [if_neg ht] at hn
        have HS : Hid (T A = Tn (k + 1) a ∧ B * 2 % 4294967296 = b * 2 ^ (k + 1) % 4294967296 ∧ O = mulS a b (k + 1)) := by
          obtain ⟨h1, h2, h3⟩ := HR.out
          refine ⟨by rw [h1]; rfl, by rw [h2]; exact shl_next b k, ?_⟩
          rw [h2, bit_top b k hk2] at ht
          rw [h3, mulS, if_neg ht, Nat.xor_zero]
        clear HR ht h0
        go_wp2_with (go_at_call 21; refine (timesx_any _ _ hA).mono ?_; rintro e w' ⟨rfl, rfl⟩)
        go_round
        case rel => exact ⟨k + 1, T A, B * 2 % 4294967296, O, by omega, hT, by omega, hO, rfl, by go_num, rfl, HS⟩
        case measure => simp [intOf]; exact HL.out

/- powerOfBytes(n). -/
theorem i64_and_one (n : Nat) (h : n ≤ 1048576) : bits .and .i64 (n : Int) 1 = ((n % 2 : Nat) : Int) := by
  have := bits_mask .i64 62 (by decide) (fun n h0 h1 => by rw [IntKind.wrap_i64]; omega) 1 (by omega) (n : Int) (by omega) (by omega)
  exact this

set_option maxHeartbeats 400000 in
set_option maxRecDepth 100000 in
theorem power_any (n : Nat) (w : World) (hn : n ≤ 1048576) :
    Calls Try.prog 20 #[.int .i64 n] w fun e w' => e = .returned (.int .u32 (Tn (8 * n) 2147483648 : Int)) ∧ w' = w := by
  go_enter Try.func20, Try.ntmps20
  go_wp2
  go_loop [0, 3, 4] (fun x o s => ∃ N O S : Nat, N ≤ 1048576 ∧ O < 4294967296 ∧ S < 4294967296 ∧ x = .int .i64 N ∧ o = .int .u32 O ∧ s = .int .u32 S ∧ Hid (∃ R E, O = Tn R 2147483648 ∧ S = Tn E 2147483648 ∧ R + E * N = 8 * n)) (fun x _ _ => (intOf x).toNat)
  case atStart => exact ⟨n, 2147483648, 8388608, hn, by omega, by omega, rfl, rfl, rfl, 0, 8, rfl, Tn_8.symm, by omega⟩
  case round =>
    obtain ⟨N, O, S, hN, hO, hS, rfl, rfl, rfl, HR⟩ := hrel
    by_cases h0 : N = 0
    · have HO : Hid (O = Tn (8 * n) 2147483648) := by
        obtain ⟨R, E, h1, h2, h3⟩ := HR.out
        rw [h1]
        congr 1
        rw [h0] at h3
        simpa using h3
      clear HR
      subst h0
      go_wp2
      go_ret
      exact ⟨by rw [← HO.out]; rfl, rfl⟩
    · have hss := mul_lt S S hS
      have hos := mul_lt O S hO
      have hb := i64_and_one N hN
      by_cases ho : N % 2 = 1
      · rw [ho] at hb
        have HS : Hid (∃ R E, mul O S = Tn R 2147483648 ∧ mul S S = Tn E 2147483648 ∧ R + E * (N / 2) = 8 * n) := by
          obtain ⟨R, E, h1, h2, h3⟩ := HR.out
          refine ⟨E + R, E + E, by rw [h2, mul_Tn O E hO, h1, ← Tn_add], by rw [show mul S S = mul S (Tn E 2147483648) by rw [← h2], mul_Tn S E hS, h2, ← Tn_add], ?_⟩
          rw [← h3]
          have e : N = 2 * (N / 2) + 1 := by omega
          generalize N / 2 = q at e
          subst e
          rw [Nat.mul_add, Nat.mul_one, ← Nat.mul_assoc, Nat.mul_comm E 2, Nat.two_mul]
          omega
        clear HR
        have p1 := product_any O S w hO hS
        have p2 := product_any S S w hS hS
        generalize mul O S = X1 at *
        generalize mul S S = X2 at *
        go_wp2_with (first | (go_at_call 19; refine p1.mono ?_; rintro e w' ⟨rfl, rfl⟩; clear p1) | (go_at_call 19; refine p2.mono ?_; rintro e w' ⟨rfl, rfl⟩; clear p2))
        go_round
        case rel => exact ⟨N / 2, X1, X2, by omega, hos, hss, by go_num, rfl, rfl, HS⟩
        case measure => simp [intOf]; omega
      · rw [show N % 2 = 0 by omega] at hb
        have HS : Hid (∃ R E, O = Tn R 2147483648 ∧ mul S S = Tn E 2147483648 ∧ R + E * (N / 2) = 8 * n) := by
          obtain ⟨R, E, h1, h2, h3⟩ := HR.out
          refine ⟨R, E + E, h1, by rw [show mul S S = mul S (Tn E 2147483648) by rw [← h2], mul_Tn S E hS, h2, ← Tn_add], ?_⟩
          rw [← h3]
          have e : N = 2 * (N / 2) := by omega
          generalize N / 2 = q at e
          subst e
          rw [← Nat.mul_assoc, Nat.mul_comm E 2, Nat.two_mul]
        clear HR
        have p2 := product_any S S w hS hS
        clear hos
        generalize mul S S = X2 at *
        go_wp2_with (go_at_call 19; refine p2.mono ?_; rintro e w' ⟨rfl, rfl⟩; clear p2)
        go_round
        case rel => exact ⟨N / 2, O, X2, by omega, hO, hss, by go_num, rfl, rfl, HS⟩
        case measure => simp [intOf]; omega

/- Join(a, b, n). -/
theorem join_no (a b : Nat) (n : Int) (w : World) (hn : n < 0 ∨ 1048576 < n) :
    Calls Try.prog 14 #[.int .u32 a, .int .u32 b, .int .i64 n] w fun e w' => e = .returned (.tuple #[.int .u32 0, .bool false]) ∧ w' = w := by
  by_cases h : n < 0
  · clear hn
    go_enter Try.func14, Try.ntmps14
    go_wp2_with fail
    go_ret2
    exact ⟨rfl, rfl⟩
  · have h2 : 1048576 < n := by omega
    clear hn
    go_enter Try.func14, Try.ntmps14
    go_wp2_with fail
    go_ret2
    exact ⟨rfl, rfl⟩

theorem join_yes (a b n : Nat) (w : World) (ha : a < 4294967296) (hb : b < 4294967296) (hn : n ≤ 1048576) :
    Calls Try.prog 14 #[.int .u32 a, .int .u32 b, .int .i64 n] w fun e w' => e = .returned (.tuple #[.int .u32 ((Tn (8 * n) a ^^^ b : Nat) : Int), .bool true]) ∧ w' = w := by
  have hp := power_any n w hn
  have hl := Tn_lt (8 * n) 2147483648 (by omega)
  have hm := product_any a (Tn (8 * n) 2147483648) w ha hl
  rw [mul_Tn a (8 * n) ha] at hm
  have hx := u32_xor_nat (Tn (8 * n) a) b (Tn_lt _ _ ha) hb
  generalize Tn (8 * n) 2147483648 = Z at hp hm hl
  generalize Tn (8 * n) a = Y at hm hx
  go_enter Try.func14, Try.ntmps14
  go_wp2_with (first | (go_at_call 20; refine hp.mono ?_; rintro e w' ⟨rfl, rfl⟩; clear hp) | (go_at_call 19; refine hm.mono ?_; rintro e w' ⟨rfl, rfl⟩; clear hm))
  go_ret2
  exact ⟨rfl, rfl⟩

end Go.Proofs.Ythfdfebeemakkaa
