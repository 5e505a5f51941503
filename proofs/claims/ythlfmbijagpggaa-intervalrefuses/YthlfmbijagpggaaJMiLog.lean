/-
  2 texts of this proof, one behind the other: MiLog, MiRefLog.
-/
import Derived.Test.YthlfmbijagpggaaJMiPlain
import Derived.Test.YthlfmbijagpggaaMiLen
/-
  A number's logarithm, the program's, over plain numbers ('MiPlain').
  Conditions: none.
-/
namespace Go.Proofs.Ythlfmbijagpggaa.Mi
open Go.RowKit
set_option linter.unusedVariables false

theorem or_bit (d b : Nat) (hb : b ≤ 1) (hd : d < 285212672) : bits .or .i64 ((d : Int) * 2) (b : Int) = ((d * 2 + b : Nat) : Int) := by
  have e : (d : Int) * 2 = ((d * 2 : Nat) : Int) := by omega
  rw [e]
  show IntKind.i64.wrap ((BitVec.ofInt 64 ((d * 2 : Nat) : Int) ||| BitVec.ofInt 64 (b : Int)).toNat : Int) = _
  rw [BitVec.toNat_or, ofInt_u64 _ (by omega), ofInt_u64 _ (by omega), nat_join 1 (d * 2) b (by omega) (by omega)]
  rw [IntKind.wrap_i64]
  omega

theorem wrap_y (u n y : Nat) (hy : y < 4294967296) (h : y = u * 2 ^ (31 - n)) : IntKind.u64.wrap ((u : Int) * 2 ^ (31 - n)) = (y : Int) := by
  have e : (u : Int) * 2 ^ (31 - n) = ((u * 2 ^ (31 - n) : Nat) : Int) := by simp
  rw [e, ← h, IntKind.wrap_u64]
  omega

theorem lp_dec (k y d : Nat) : d ≤ lp k y d := by
  rw [lp_add]
  have := Nat.le_mul_of_pos_right d (Nat.two_pow_pos k)
  omega

/- Log(u), of a number that has none. -/
theorem log_no (u : Int) (w : World) (h : u < 1 ∨ 65536 < u) (h1 : -9223372036854775808 ≤ u) (h2 : u ≤ 9223372036854775807) :
    Calls Try.prog 99 #[.int .i64 u] w fun e w' => e = .returned (.tuple #[.int .i64 0, .bool false]) ∧ w' = w := by
  rcases h with h | h
  all_goals (
    go_enter Try.func99, Try.ntmps99
    go_wp2_with fail
    go_ret2
    exact ⟨rfl, rfl⟩)

set_option maxHeartbeats 1600000 in
set_option maxRecDepth 100000 in
theorem log_yes (u : Nat) (w : World) (h1 : 1 ≤ u) (h2 : u ≤ 65536) :
    Calls Try.prog 99 #[.int .i64 u] w fun e w' => e = .returned (.tuple #[.int .i64 (lg u : Int), .bool true]) ∧ w' = w := by
  have c := fun w => len_any u w h1 h2
  rw [pl_len h1] at c
  have hp := pl_le h1 h2
  have hy := y0_lt h1 h2
  have hL := lg_le h1 h2
  have HL : Hid (lg u = lp 24 (y0 u) (pl u)) := rfl
  have HY : Hid (y0 u = u * 2 ^ (31 - pl u)) := rfl
  generalize pl u = n at *
  generalize y0 u = y at *
  generalize lg u = L at *
  go_enter Try.func99, Try.ntmps99
  go_wp2_with (go_at_call 59; refine (c _).mono ?_; rintro e w' ⟨rfl, rfl⟩)
  have EY : IntKind.u64.wrap ((u : Int) * 2 ^ (31 - n)) = (y : Int) := by
    exact wrap_y u n y hy HY.out
  clear c
  go_loop [4, 5, 22] (fun d z i => ∃ k D Y : Nat, k ≤ 24 ∧ D < 285212672 ∧ Y < 4294967296 ∧ d = .int .i64 D ∧ z = .int .u64 Y ∧ i = .int .i64 k ∧ Hid (L = lp (24 - k) Y D)) (fun _ _ i => 24 - (intOf i).toNat)
  case atStart => exact ⟨0, n, y, by omega, by omega, hy, rfl, by rw [EY], rfl, HL⟩
  case round =>
    obtain ⟨k, D, Y, hk, hD, hY, rfl, rfl, rfl, HR⟩ := hrel
    by_cases hlt : k < 24
    · have HS : Hid (L = lp (24 - (k + 1)) (nx Y) (D * 2 + dg Y)) := by
        have := HR.out
        rw [show 24 - k = (24 - (k + 1)) + 1 by omega, lp] at this
        exact this
      have hn := nx_lt hY
      have hd2 : D * 2 + dg Y < 285212672 := by
        have := lp_dec (24 - (k + 1)) (nx Y) (D * 2 + dg Y)
        rw [← HS.out] at this
        omega
      have hq := sq_top hY
      have e1 : (Y : Int) * (Y : Int) = ((Y * Y : Nat) : Int) := by omega
      by_cases hs : 4294967296 ≤ sq Y
      · have f1 : dg Y = 1 := if_pos hs
        have f2 : nx Y = sq Y / 2 := if_pos hs
        rw [f1] at HS hd2
        rw [f2] at HS hn
        have o1 := or_bit D 1 (by omega) hD
        unfold sq at HS hn hs
        generalize Y * Y = Q at *
        clear HR f1 f2
        have e2 : (Q : Int) / 2147483648 / 4294967296 = 1 := by omega
        go_wp2_with fail
        go_round
        case rel => exact ⟨k + 1, D * 2 + 1, Q / 2147483648 / 2, by omega, hd2, hn, congrArg (Value.int IntKind.i64) o1, by go_num, by go_num, HS⟩
        case measure => simp [intOf]; omega
      · have f1 : dg Y = 0 := if_neg hs
        have f2 : nx Y = sq Y := if_neg hs
        rw [f1] at HS hd2
        rw [f2] at HS hn
        have o1 := or_bit D 0 (by omega) hD
        unfold sq at HS hn hs
        generalize Y * Y = Q at *
        clear HR f1 f2
        have e2 : (Q : Int) / 2147483648 / 4294967296 = 0 := by omega
        go_wp2_with fail
        go_round
        case rel => exact ⟨k + 1, D * 2 + 0, Q / 2147483648, by omega, hd2, hn, congrArg (Value.int IntKind.i64) o1, by go_num, by go_num, HS⟩
        case measure => simp [intOf]; omega
    · have HE : Hid (L = D) := by
        have := HR.out
        rw [show 24 - k = 0 by omega, lp] at this
        exact this
      go_wp2_with fail
      go_ret2
      exact ⟨by rw [HE.out]; rfl, rfl⟩

end Go.Proofs.Ythlfmbijagpggaa.Mi

/-
  A number's logarithm, the document's, over plain numbers ('MiPlain'); the statements' own test of powers' logarithms.
  Conditions: none.
-/
namespace Go.Proofs.Ythlfmbijagpggaa.Mi
open Go.RowKit
set_option linter.unusedVariables false

theorem half_pl (v : Nat) (h : 1 < v) : pl v = pl (v / 2) + 1 := by
  have a := pl_spec (show 1 ≤ v / 2 by omega)
  exact pl_uniq (by omega) (by rw [Nat.pow_succ]; omega) (by rw [Nat.pow_succ]; omega)

theorem pl_one : pl 1 = 0 := by decide +kernel

theorem y0_part (u n i : Nat) (hn : n ≤ 16) (hi : i ≤ 31 - n) (h : u * 2 ^ (31 - n) < 4294967296) : u * 2 ^ i < 4294967296 := by
  have : u * 2 ^ i ≤ u * 2 ^ (31 - n) := Nat.mul_le_mul_left u (Nat.pow_le_pow_right (by omega) hi)
  omega

def lgs (u : Int) : Int := if 1 ≤ u ∧ u ≤ 65536 then (lg u.toNat : Int) else 0

theorem log_any (u : Int) (w : World) (h1 : -9223372036854775808 ≤ u) (h2 : u ≤ 9223372036854775807) :
    Calls Try.prog 99 #[.int .i64 u] w fun e w' => e = .returned (.tuple #[.int .i64 (lgs u), .bool (decide (1 ≤ u ∧ u ≤ 65536))]) ∧ w' = w := by
  by_cases h : 1 ≤ u ∧ u ≤ 65536
  · obtain ⟨n, rfl⟩ := Int.eq_ofNat_of_zero_le (show 0 ≤ u by omega)
    refine (log_yes n w (by omega) (by omega)).mono ?_
    rintro e w' ⟨rfl, rfl⟩
    exact ⟨by rw [decide_eq_true h, lgs, if_pos h, Int.toNat_natCast], rfl⟩
  · refine (log_no u w (by omega) h1 h2).mono ?_
    rintro e w' ⟨rfl, rfl⟩
    exact ⟨by rw [decide_eq_false h, lgs, if_neg h], rfl⟩

end Go.Proofs.Ythlfmbijagpggaa.Mi
