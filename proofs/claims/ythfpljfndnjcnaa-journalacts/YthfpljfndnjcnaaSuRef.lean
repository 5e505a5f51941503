/-
  What the document's Of does: a contract over plain numbers ('SuPlain').
  Conditions: bytes that are looked at lie in memory.
-/
import Derived.Test.YthfpljfndnjcnaaSuReads
namespace Go.Proofs.Ythfpljfndnjcnaa
open Go.RowKit Su By
set_option linter.unusedVariables false

/- The document's Of, not empty. -/
set_option maxHeartbeats 400000 in
set_option maxRecDepth 100000 in
theorem rof_pos (b o n c : Nat) (f : Nat → Nat) (w : World) (hf : ∀ i, f i < 256) (hn : n ≤ 281474976710656)
    (hx : ∀ i, i < n → w.cell? ⟨b, o + i, none⟩ = some (.int .u8 (f i : Int))) :
    Calls Try.prog 47 #[.slice (some ⟨b, o, none⟩) n c] w fun e w' => e = .returned (.int .u32 (sumOf f n : Int)) ∧ w' = w := by
  have HM : Hid (crc f ones n ^^^ ones = sumOf f n) := rfl
  go_enter Try.func47, Try.ntmps47
  go_wp2_with fail
  go_loop [3, 4] (fun r i => ∃ k R : Nat, k ≤ n ∧ R < 4294967296 ∧ r = .int .u32 R ∧ i = .int .i64 k ∧ Hid (R = crc f ones k)) (fun _ i => n - (intOf i).toNat)
  case atStart => exact ⟨0, 4294967295, by omega, by omega, rfl, rfl, rfl⟩
  case round =>
    obtain ⟨k, R, hk, hR, rfl, rfl, HR⟩ := hrel
    by_cases hlt : k < n
    · have hx1 := hx k hlt
      have hfk := hf k
      have HS : Hid (byteStep R (f k) = crc f ones (k + 1)) := by rw [HR.out]; exact rfl
      have HR0 : Hid (Tn 8 (R ^^^ (f k / 2 ^ 0)) = byteStep R (f k)) := by rw [Nat.pow_zero, Nat.div_one]; exact rfl
      clear HR hx hf
      generalize byteStep R (f k) = Z at HS HR0
      generalize f k = v at hx1 hfk HR0
      go_wp2_with fail
      go_loop [3, 5] (fun r i => ∃ j X : Nat, j ≤ 8 ∧ X < 4294967296 ∧ r = .int .u32 X ∧ i = .int .i64 j ∧ Hid (Tn (8 - j) (X ^^^ (v / 2 ^ j)) = Z)) (fun _ i => 8 - (intOf i).toNat)
      case atStart => exact ⟨0, R, by omega, hR, rfl, rfl, HR0⟩
      case round =>
        obtain ⟨j, X, hj, hX, rfl, rfl, HX⟩ := hrel
        by_cases hlt8 : j < 8
        · have hD : v / 2 ^ j < 4294967296 := Nat.lt_of_le_of_lt (Nat.div_le_self _ _) (by omega)
          have hxb : bits .xor .u32 (X : Int) ((v : Int) / 2 ^ j) = ((X ^^^ (v / 2 ^ j) : Nat) : Int) := by
            rw [← u32_xor_nat X (v / 2 ^ j) hX hD]
            congr 1
          have HS2 : Hid (Tn (8 - (j + 1)) (rbit X (v / 2 ^ j) ^^^ (v / 2 ^ (j + 1))) = Z) := rbit_go j X v Z hlt8 HX.out
          have hl2 := rbit_lt X (v / 2 ^ j) hX
          by_cases hodd : (X ^^^ (v / 2 ^ j)) % 2 = 1
          · have hxp : bits .xor .u32 ((X : Int) / 2) 2197175160 = ((rbit X (v / 2 ^ j) : Nat) : Int) := by
              rw [show rbit X (v / 2 ^ j) = (X / 2) ^^^ 2197175160 by unfold rbit; rw [if_pos hodd]; rfl]
              exact u32_xor_nat (X / 2) 2197175160 (by omega) (by omega)
            have hm : (((X ^^^ (v / 2 ^ j) : Nat) : Int)).tmod 2 = 1 := by
              rw [Int.tmod_eq_emod_of_nonneg (by omega)]
              omega
            generalize X ^^^ (v / 2 ^ j) = Y at hxb hm
            generalize rbit X (v / 2 ^ j) = R2 at hxp HS2 hl2
            clear hodd HX hD
            go_wp2_with fail
            go_round
            case rel => exact ⟨j + 1, R2, by omega, hl2, rfl, by go_num, HS2⟩
            case measure => simp [intOf]; omega
          · have hr : rbit X (v / 2 ^ j) = X / 2 := by unfold rbit; rw [if_neg hodd]
            have hm : (((X ^^^ (v / 2 ^ j) : Nat) : Int)).tmod 2 = 0 := by
              rw [Int.tmod_eq_emod_of_nonneg (by omega)]
              omega
            rw [hr] at HS2
            generalize X ^^^ (v / 2 ^ j) = Y at hxb hm
            clear hodd HX hD hr hl2
            go_wp2_with fail
            go_round
            case rel => exact ⟨j + 1, X / 2, by omega, by omega, by go_num, by go_num, HS2⟩
            case measure => simp [intOf]; omega
        · have hj8 : j = 8 := by omega
          subst hj8
          have HZ : Hid (X = crc f ones (k + 1)) := by
            have := HX.out
            rw [show v / 2 ^ 8 = 0 by omega, Nat.xor_zero] at this
            rw [← HS.out, ← this]
            exact rfl
          clear HX HR0 HS
          go_wp2_with fail
          go_round
          case rel => exact ⟨k + 1, X, by omega, hX, rfl, by go_num, HZ⟩
          case measure => simp [intOf]; omega
    · have hk2 : k = n := by omega
      subst hk2
      have h2 : bits .xor .u32 (R : Int) 4294967295 = ((R ^^^ ones : Nat) : Int) := u32_xor_nat R ones hR (by decide)
      have HZ : Hid (R ^^^ ones = sumOf f k) := by rw [← HM.out, HR.out]; exact rfl
      clear hx hf
      go_wp2_with fail
      go_ret
      exact ⟨by rw [← HZ.out]; rfl, rfl⟩

theorem rof_zero (x : Option Addr) (c : Nat) (w : World) :
    Calls Try.prog 47 #[.slice x 0 c] w fun e w' => e = .returned (.int .u32 0) ∧ w' = w := by
  have h2 : bits .xor .u32 4294967295 4294967295 = 0 := u32_xor_nat 4294967295 4294967295 (by decide) (by decide)
  go_enter Try.func47, Try.ntmps47
  go_wp2_with fail
  refine wp_loop_rounds 1 ?_
  rw [rounds_succ]
  go_wp2_with fail
  go_ret
  exact ⟨rfl, rfl⟩

theorem rof_any (n c : Nat) (x : Option Addr) (f : Nat → Nat) (w : World) (hf : ∀ i, f i < 256) (hn : n ≤ 281474976710656) (hx : RowAt w x n f) :
    Calls Try.prog 47 #[.slice x n c] w fun e w' => e = .returned (.int .u32 (sumOf f n : Int)) ∧ w' = w := by
  by_cases h0 : n = 0
  · subst h0
    rw [show sumOf f 0 = 0 from Nat.xor_self ones]
    exact rof_zero x c w
  · rcases hx with h | ⟨b, o, rfl, _, hx⟩
    · exact absurd h h0
    · exact rof_pos b o n c f w hf hn hx

end Go.Proofs.Ythfpljfndnjcnaa
