/-
  What each call of the document's answers for package gf does: contracts over plain numbers ('GfPlain').
  Conditions: the elements are below 256; numbers are of the kind int.
-/
import Derived.Test.YtmlaloadeeohbaaGfCalls
namespace Go.Proofs.Ytmlaloadeeohbaa
open Go.RowKit Gf

theorem rmulGo_step (k X Y O : Nat) (h : k < 8) : rmulGo (8 - k) X Y O = rmulGo (8 - (k + 1)) (xt X) (Y / 2) (if Y % 2 = 1 then O ^^^ X else O) := by
  obtain ⟨j, hj⟩ : ∃ j, 8 - k = j + 1 := ⟨7 - k, by omega⟩
  rw [hj, show 8 - (k + 1) = j by omega]
  rfl

/- Mul(a, b). -/
set_option maxHeartbeats 400000 in
set_option maxRecDepth 100000 in
theorem rmul_any (a b : Nat) (w : World) (ha : a < 256) (hb : b < 256) :
    Calls Try.prog 40 #[.int .u8 a, .int .u8 b] w fun e w' => e = .returned (.int .u8 (rmul a b : Int)) ∧ w' = w := by
  go_enter Try.func40, Try.ntmps40
  go_wp2
  go_loop [5, 6, 7, 8] (fun x y o i => ∃ k X Y O : Nat, k ≤ 8 ∧ X < 256 ∧ Y < 256 ∧ O < 256 ∧ x = .int .i64 X ∧ y = .int .i64 Y ∧ o = .int .i64 O ∧ i = .int .i64 k ∧ Hid (rmulGo (8 - k) X Y O = rmul a b)) (fun _ _ _ i => 8 - (intOf i).toNat)
  case atStart => exact ⟨0, a, b, 0, by omega, ha, hb, by omega, rfl, rfl, rfl, rfl, rfl⟩
  case round =>
    obtain ⟨k, X, Y, O, hk, hX, hY, hO, rfl, rfl, rfl, rfl, HR⟩ := hrel
    have hOX := i64_xor_nat O X (by omega) (by omega)
    have lOX := xor_lt O X hO hX
    have lxt := xt_lt X hX
    by_cases hlt : k < 8
    · have HS : Hid (rmulGo (8 - (k + 1)) (xt X) (Y / 2) (if Y % 2 = 1 then O ^^^ X else O) = rmul a b) := by
        have := HR.out
        rw [rmulGo_step k X Y O hlt] at this
        exact this
      clear HR
      by_cases hodd : Y % 2 = 1
      · have HS1 : Hid (rmulGo (8 - (k + 1)) (xt X) (Y / 2) (O ^^^ X) = rmul a b) := by have := HS.out; rw [if_pos hodd] at this; exact this
        clear HS
        by_cases hbig : 256 ≤ 2 * X
        · have hxx : bits .xor .i64 ((X : Int) * 2) 285 = ((xt X : Nat) : Int) := by
            have := i64_xor_nat (2 * X) 285 (by omega) (by omega)
            unfold xt
            rw [if_pos hbig, ← this]
            congr 1
            omega
          go_wp2
          go_round
          case rel => exact ⟨k + 1, xt X, Y / 2, O ^^^ X, by omega, lxt, by omega, lOX, rfl, by go_num, rfl, by go_num, HS1⟩
          case measure => simp [intOf]; omega
        · have hxx : xt X = 2 * X := by unfold xt; rw [if_neg hbig]
          rw [hxx] at HS1
          clear hxx lxt
          go_wp2
          go_round
          case rel => exact ⟨k + 1, 2 * X, Y / 2, O ^^^ X, by omega, by omega, by omega, lOX, by go_num, by go_num, rfl, by go_num, HS1⟩
          case measure => simp [intOf]; omega
      · have HS1 : Hid (rmulGo (8 - (k + 1)) (xt X) (Y / 2) O = rmul a b) := by have := HS.out; rw [if_neg hodd] at this; exact this
        clear HS
        by_cases hbig : 256 ≤ 2 * X
        · have hxx : bits .xor .i64 ((X : Int) * 2) 285 = ((xt X : Nat) : Int) := by
            have := i64_xor_nat (2 * X) 285 (by omega) (by omega)
            unfold xt
            rw [if_pos hbig, ← this]
            congr 1
            omega
          go_wp2
          go_round
          case rel => exact ⟨k + 1, xt X, Y / 2, O, by omega, lxt, by omega, hO, rfl, by go_num, rfl, by go_num, HS1⟩
          case measure => simp [intOf]; omega
        · have hxx : xt X = 2 * X := by unfold xt; rw [if_neg hbig]
          rw [hxx] at HS1
          clear hxx lxt
          go_wp2
          go_round
          case rel => exact ⟨k + 1, 2 * X, Y / 2, O, by omega, by omega, by omega, hO, by go_num, by go_num, rfl, by go_num, HS1⟩
          case measure => simp [intOf]; omega
    · have hk8 : k = 8 := by omega
      subst hk8
      have HO : Hid (O = rmul a b) := HR.out
      clear HR hOX lOX lxt
      go_wp2
      go_ret
      exact ⟨by rw [← HO.out]; rfl, rfl⟩

/- Inv(a). -/
set_option maxHeartbeats 400000 in
set_option maxRecDepth 100000 in
theorem rinv_any (a : Nat) (w : World) (ha : a < 256) :
    Calls Try.prog 49 #[.int .u8 a] w fun e w' => e = .returned (.tuple #[.int .u8 (tinv a : Int), .bool (a != 0)]) ∧ w' = w := by
  go_enter Try.func49, Try.ntmps49
  go_wp2
  go_loop [4] (fun i => ∃ k : Nat, 1 ≤ k ∧ k ≤ 256 ∧ i = .int .i64 k ∧ Hid (a ≠ 0 → k ≤ tinv a)) (fun i => 256 - (intOf i).toNat)
  case atStart => exact ⟨1, by omega, by omega, rfl, fun h => by have := tinv_ne a h; omega⟩
  case round =>
    obtain ⟨k, hk1, hk, rfl, HR⟩ := hrel
    by_cases hlt : k < 256
    · by_cases hone : rmul a k = 1
      · have hio := (rmul_one_iff a k ha hlt).1 hone
        have g1 : ((rmul a k : Int) == 1) = true := by simp [hone]
        have HA : Hid (a ≠ 0 ∧ k = tinv a) := hio
        clear hio hone
        go_wp2_with (go_at_call 40; refine (rmul_any _ _ _ ha hlt).mono ?_; rintro e w' ⟨rfl, rfl⟩)
        go_ret2
        exact ⟨by rw [← HA.out.2, bne_iff_ne.2 HA.out.1]; rfl, rfl⟩
      · have HA : Hid (a ≠ 0 → k + 1 ≤ tinv a) := by
          intro h
          have := HR.out h
          by_cases e : k = tinv a
          · exact absurd ((rmul_one_iff a k ha hlt).2 ⟨h, e⟩) hone
          · omega
        have g1 : ((rmul a k : Int) == 1) = false := by simp; omega
        clear hone HR
        go_wp2_with (go_at_call 40; refine (rmul_any _ _ _ ha hlt).mono ?_; rintro e w' ⟨rfl, rfl⟩)
        go_round
        case rel => exact ⟨k + 1, by omega, by omega, by go_num, HA⟩
        case measure => simp [intOf]; omega
    · have h0 : a = 0 := by
        by_cases h : a = 0
        · exact h
        · have := HR.out h
          have := tinv_lt a
          omega
      subst h0
      clear HR
      go_wp2_with fail
      go_ret2
      exact ⟨rfl, rfl⟩

end Go.Proofs.Ytmlaloadeeohbaa
