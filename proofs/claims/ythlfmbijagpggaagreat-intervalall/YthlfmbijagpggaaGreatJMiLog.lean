/-
  2 texts of this proof, one behind the other: MiLog, MiRefLog.
-/
import Derived.Test.YthlfmbijagpggaaGreatJMiPlain
import Derived.Test.YthlfmbijagpggaaGreatMiLen
/-
  A number's logarithm, the program's, over plain numbers ('MiPlain').
  Conditions: none.
-/
namespace Go.Proofs.YthlfmbijagpggaaGreat.Mi
open Go.RowKit
set_option linter.unusedVariables false

theorem or_bit (d b : Nat) (hb : b ≤ 1) (hd : d < 285212672) : bits .or .i64 ((d : Int) * 2) (b : Int) = ((d * 2 + b : Nat) : Int) := by
  have e : (d : Int) * 2 = ((d * 2 : Nat) : Int) := by omega
  rw [e]
  show IntKind.i64.wrap ((BitVec.ofInt 64 ((d * 2 : Nat) : Int) ||| BitVec.ofInt 64 (b : Int)).toNat : Int) = _
  rw [BitVec.toNat_or, ofInt_u64 _ (by omega), ofInt_u64 _ (by omega), nat_join 1 (d * 2) b (by omega) (by omega)]
  rw [IntKind.wrap_i64]
  omega

theorem wrap_y (u n y : Nat) (hy : y < 4294967296) (h : y = u * 2 ^ (31 - n)) : IntKind.u64.wrap ((u : Int) * 2 ^ (31 - n)) = (y : Int) := by
  have e : (u : Int) * 2 ^ (31 - n) = ((u * 2 ^ (31 - n) : Nat) : Int) := by simp
  rw [e, ← h, IntKind.wrap_u64]
  omega

theorem lp_dec (k y d : Nat) : d ≤ lp k y d := by
  rw [lp_add]
  have := Nat.le_mul_of_pos_right d (Nat.two_pow_pos k)
  omega

/- Log(u), of a number that has none. -/
theorem log_no (u : Int) (w : World) (h : u < 1 ∨ 65536 < u) (h1 : -9223372036854775808 ≤ u) (h2 : u ≤ 9223372036854775807) :
    Calls Tryz.prog 124 #[.int .i64 u] w fun e w' => e = .returned (.tuple #[.int .i64 0, .bool false]) ∧ w' = w := by
  rcases h with h | h
  all_goals (
    go_enter Tryz.func124, Tryz.ntmps124
    go_wp2_with fail
    go_ret2
    exact ⟨rfl, rfl⟩)

set_option maxHeartbeats 1600000 in
set_option maxRecDepth 100000 in
theorem log_yes (u : Nat) (w : World) (h1 : 1 ≤ u) (h2 : u ≤ 65536) :
    Calls Tryz.prog 124 #[.int .i64 u] w fun e w' => e = .returned (.tuple #[.int .i64 (lg u : Int), .bool true]) ∧ w' = w := by
  have c := fun w => len_any u w h1 h2
  rw [pl_len h1] at c
  have hp := pl_le h1 h2
  have hy := y0_lt h1 h2
  have hL := lg_le h1 h2
  have HL : Hid (lg u = lp 24 (y0 u) (pl u)) := rfl
  have HY : Hid (y0 u = u * 2 ^ (31 - pl u)) := rfl
  generalize pl u = n at *
  generalize y0 u = y at *
  generalize lg u = L at *
  go_enter Tryz.func124, Tryz.ntmps124
  go_wp2_with (go_at_call 84; refine (c _).mono ?_; rintro e w' ⟨rfl, rfl⟩)
  have EY : IntKind.u64.wrap ((u : Int) * 2 ^ (31 - n)) = (y : Int) := by
    exact wrap_y u n y hy HY.out
  clear c
  go_loop [4, 5, 22] (fun d z i => ∃ k D Y : Nat, k ≤ 24 ∧ D < 285212672 ∧ Y < 4294967296 ∧ d = .int .i64 D ∧ z = .int .u64 Y ∧ i = .int .i64 k ∧ Hid (L = lp (24 - k) Y D)) (fun _ _ i => 24 - (intOf i).toNat)
  case atStart => exact ⟨0, n, y, by omega, by omega, hy, rfl, by rw [EY], rfl, HL⟩
  case round =>
    obtain ⟨k, D, Y, hk, hD, hY, rfl, rfl, rfl, HR⟩ := hrel
    by_cases hlt : k < 24
    · have HS : Hid (L = lp (24 - (k + 1)) (nx Y) (D * 2 + dg Y)) := by
        have := HR.out
        rw [show 24 - k = (24 - (k + 1)) + 1 by omega, lp] at this
        exact this
      have hn := nx_lt hY
      have hd2 : D * 2 + dg Y < 285212672 := by
        have := lp_dec (24 - (k + 1)) (nx Y) (D * 2 + dg Y)
        rw [← HS.out] at this
        omega
      have hq := sq_top hY
      have e1 : (Y : Int) * (Y : Int) = ((Y * Y : Nat) : Int) := by omega
      by_cases hs : 4294967296 ≤ sq Y
      · have f1 : dg Y = 1 := if_pos hs
        have f2 : nx Y = sq Y / 2 := if_pos hs
        rw [f1] at HS hd2
        rw [f2] at HS hn
        have o1 := or_bit D 1 (by omega) hD
        unfold sq at HS hn hs
        generalize Y * Y = Q at *
        clear HR f1 f2
        have e2 : (Q : Int) / 2147483648 / 4294967296 = 1 := by omega
        go_wp2_with fail
        go_round
        case rel => exact ⟨k + 1, D * 2 + 1, Q / 2147483648 / 2, by omega, hd2, hn, congrArg (Value.int IntKind.i64) o1, by go_num, by go_num, HS⟩
        case measure => simp [intOf]; omega
      · have f1 : dg Y = 0 := if_neg hs
        have f2 : nx Y = sq Y := if_neg hs
        rw [f1] at HS hd2
        rw [f2] at HS hn
        have o1 := or_bit D 0 (by omega) hD
        unfold sq at HS hn hs
        generalize Y * Y = Q at *
        clear HR f1 f2
        have e2 : (Q : Int) / 2147483648 / 4294967296 = 0 := by omega
        go_wp2_with fail
        go_round
        case rel => exact ⟨k + 1, D * 2 + 0, Q / 2147483648, by omega, hd2, hn, congrArg (Value.int IntKind.i64) o1, by go_num, by go_num, HS⟩
        case measure => simp [intOf]; omega
    · have HE : Hid (L = D) := by
        have := HR.out
        rw [show 24 - k = 0 by omega, lp] at this
        exact this
      go_wp2_with fail
      go_ret2
      exact ⟨by rw [HE.out]; rfl, rfl⟩

end Go.Proofs.YthlfmbijagpggaaGreat.Mi

/-
  A number's logarithm, the document's, over plain numbers ('MiPlain'); the statements' own test of powers' logarithms.
  Conditions: none.
-/
namespace Go.Proofs.YthlfmbijagpggaaGreat.Mi
open Go.RowKit
set_option linter.unusedVariables false

theorem half_pl (v : Nat) (h : 1 < v) : pl v = pl (v / 2) + 1 := by
  have a := pl_spec (show 1 ≤ v / 2 by omega)
  exact pl_uniq (by omega) (by rw [Nat.pow_succ]; omega) (by rw [Nat.pow_succ]; omega)

theorem pl_one : pl 1 = 0 := by decide +kernel

theorem y0_part (u n i : Nat) (hn : n ≤ 16) (hi : i ≤ 31 - n) (h : u * 2 ^ (31 - n) < 4294967296) : u * 2 ^ i < 4294967296 := by
  have : u * 2 ^ i ≤ u * 2 ^ (31 - n) := Nat.mul_le_mul_left u (Nat.pow_le_pow_right (by omega) hi)
  omega

/- Log(u), of a number that has none. -/
theorem rlog_no (u : Int) (w : World) (h : u < 1 ∨ 65536 < u) (h1 : -9223372036854775808 ≤ u) (h2 : u ≤ 9223372036854775807) :
    Calls Tryz.prog 82 #[.int .i64 u] w fun e w' => e = .returned (.tuple #[.int .i64 0, .bool false]) ∧ w' = w := by
  rcases h with h | h
  all_goals (
    go_enter Tryz.func82, Tryz.ntmps82
    go_wp2_with fail
    go_ret2
    exact ⟨rfl, rfl⟩)

set_option maxHeartbeats 1600000 in
set_option maxRecDepth 100000 in
theorem rlog_yes (u : Nat) (w : World) (h1 : 1 ≤ u) (h2 : u ≤ 65536) :
    Calls Tryz.prog 82 #[.int .i64 u] w fun e w' => e = .returned (.tuple #[.int .i64 (lg u : Int), .bool true]) ∧ w' = w := by
  have hp := pl_le h1 h2
  have hy := y0_lt h1 h2
  have hL := lg_le h1 h2
  have HP : Hid (pl u = pl u) := rfl
  go_enter Tryz.func82, Tryz.ntmps82
  go_wp2_with fail
  go_loop [4, 5] (fun a b => ∃ m v : Nat, 1 ≤ v ∧ v ≤ 65536 ∧ m ≤ 16 ∧ a = .int .i64 m ∧ b = .int .i64 v ∧ Hid (m + pl v = pl u)) (fun _ b => (intOf b).toNat)
  case atStart => exact ⟨0, u, h1, h2, by omega, rfl, rfl, Nat.zero_add _⟩
  case round =>
    obtain ⟨m, v, hv1, hv2, hm, rfl, rfl, HR⟩ := hrel
    by_cases hlt : 1 < v
    · have HS : Hid (m + 1 + pl (v / 2) = pl u) := by
        have := HR.out
        rw [half_pl v hlt] at this
        have e : m + 1 + pl (v / 2) = pl u := by omega
        exact e
      have hm1 : m + 1 ≤ 16 := by
        have := HS.out
        omega
      generalize pl u = n at *
      generalize lg u = L at *
      generalize y0 u = y at *
      go_wp2_with fail
      go_round
      case rel => exact ⟨m + 1, v / 2, by omega, by omega, hm1, by go_num, by go_num, HS⟩
      case measure => simp [intOf]; omega
    · have hm2 : m = pl u := by
        have := HR.out
        rw [show v = 1 by omega, pl_one] at this
        exact this
      have hv3 : v = 1 := by omega
      have HL : Hid (lg u = m * 16777216 + lp 24 (y0 u) 0) := by
        have := lg_eq u
        rw [← hm2] at this
        exact this
      have HY : Hid (y0 u = u * 2 ^ (31 - m)) := by
        rw [hm2]
        exact rfl
      subst hv3
      clear HR HP hm2 hp
      generalize y0 u = y at *
      go_wp2_with fail
      go_loop [6, 7] (fun a b => ∃ i Y : Nat, i ≤ 31 - m ∧ Y < 4294967296 ∧ a = .int .u64 Y ∧ b = .int .i64 i ∧ Hid (Y = u * 2 ^ i)) (fun _ b => 31 - (intOf b).toNat)
      case atStart => exact ⟨0, u, by omega, by omega, rfl, rfl, (Nat.mul_one u).symm⟩
      case round =>
        obtain ⟨i, Y, hi, hY, rfl, rfl, HR⟩ := hrel
        by_cases hlt : i < 31 - m
        · have HS : Hid (Y * 2 = u * 2 ^ (i + 1)) := by
            rw [HR.out, Nat.pow_succ, Nat.mul_assoc]
            exact rfl
          have hY2 : Y * 2 < 4294967296 := by
            rw [HS.out]
            exact y0_part u m (i + 1) hm (by omega) (by rw [← HY.out]; exact hy)
          go_wp2_with fail
          go_round
          case rel => exact ⟨i + 1, Y * 2, by omega, hY2, by go_num, by go_num, HS⟩
          case measure => simp [intOf]; omega
        · have HE : Hid (Y = y) := by
            rw [HR.out, HY.out, show i = 31 - m by omega]
            exact rfl
          have HL2 : Hid (lg u = m * 16777216 + lp 24 Y 0) := by
            rw [HE.out]
            exact HL.out
          clear HE HR HY HL
          go_wp2_with fail
          go_loop [6, 8, 9] (fun z d j => ∃ k D Z : Nat, k ≤ 24 ∧ D < 16777216 ∧ Z < 4294967296 ∧ z = .int .u64 Z ∧ d = .int .i64 D ∧ j = .int .i64 k ∧ Hid (lg u = m * 16777216 + lp (24 - k) Z D)) (fun _ _ j => 24 - (intOf j).toNat)
          case atStart => exact ⟨0, 0, Y, by omega, by omega, hY, rfl, rfl, rfl, HL2⟩
          case round =>
            obtain ⟨k, D, Z, hk, hD, hZ, rfl, rfl, rfl, HR⟩ := hrel
            by_cases hlt : k < 24
            · have HS : Hid (lg u = m * 16777216 + lp (24 - (k + 1)) (nx Z) (D * 2 + dg Z)) := by
                have := HR.out
                rw [show 24 - k = (24 - (k + 1)) + 1 by omega, lp] at this
                exact this
              have hn := nx_lt hZ
              have hd2 : D * 2 + dg Z < 16777216 := by
                have a1 := lp_dec (24 - (k + 1)) (nx Z) (D * 2 + dg Z)
                have a2 := HS.out
                have a3 := HL2.out
                have a4 := lp_lt 24 Y
                omega
              have hq := sq_top hZ
              have e1 : (Z : Int) * (Z : Int) = ((Z * Z : Nat) : Int) := by omega
              by_cases hs : 4294967296 ≤ sq Z
              · have f1 : dg Z = 1 := if_pos hs
                have f2 : nx Z = sq Z / 2 := if_pos hs
                rw [f1] at HS hd2
                rw [f2] at HS hn
                unfold sq at HS hn hs
                generalize Z * Z = Q at *
                clear HR f1 f2 HL2
                have hS : Q / 2147483648 < 8589934592 := by omega
                have e2 : (Q : Int) / 2147483648 = ((Q / 2147483648 : Nat) : Int) := by omega
                have e3 : (Q : Int).tdiv 2147483648 = ((Q / 2147483648 : Nat) : Int) := by rw [Int.tdiv_eq_ediv_of_nonneg (by omega)]; exact e2
                generalize Q / 2147483648 = S at *
                have hs2 : decide ((4294967296 : Int) ≤ (S : Int)) = true := decide_eq_true (by omega)
                have hs3 : (4294967296 : Int) ≤ (S : Int) := by omega
                clear hs
                go_wp2_with fail
                go_round
                case rel => exact ⟨k + 1, D * 2 + 1, S / 2, by omega, hd2, hn, by go_num, by go_num, by go_num, HS⟩
                case measure => simp [intOf]; omega
              · have f1 : dg Z = 0 := if_neg hs
                have f2 : nx Z = sq Z := if_neg hs
                rw [f1] at HS hd2
                rw [f2] at HS hn
                unfold sq at HS hn hs
                generalize Z * Z = Q at *
                clear HR f1 f2 HL2
                have hS : Q / 2147483648 < 8589934592 := by omega
                have e2 : (Q : Int) / 2147483648 = ((Q / 2147483648 : Nat) : Int) := by omega
                have e3 : (Q : Int).tdiv 2147483648 = ((Q / 2147483648 : Nat) : Int) := by rw [Int.tdiv_eq_ediv_of_nonneg (by omega)]; exact e2
                generalize Q / 2147483648 = S at *
                have hs2 : decide ((4294967296 : Int) ≤ (S : Int)) = false := decide_eq_false (by omega)
                have HN : Hid (S < 4294967296) := hn
                clear hs hn
                go_wp2_with fail
                go_round
                case rel => exact ⟨k + 1, D * 2 + 0, S, by omega, hd2, HN.out, by go_num, by go_num, by go_num, HS⟩
                case measure => simp [intOf]; omega
            · have HE : Hid (((lg u : Nat) : Int) = (m : Int) * 16777216 + (D : Int)) := by
                have := HR.out
                rw [show 24 - k = 0 by omega, lp] at this
                have e : ((lg u : Nat) : Int) = (m : Int) * 16777216 + (D : Int) := by omega
                exact e
              clear HR
              go_wp2_with fail
              go_ret2
              exact ⟨by rw [HE.out]; rfl, rfl⟩

def lgs (u : Int) : Int := if 1 ≤ u ∧ u ≤ 65536 then (lg u.toNat : Int) else 0

theorem log_any (u : Int) (w : World) (h1 : -9223372036854775808 ≤ u) (h2 : u ≤ 9223372036854775807) :
    Calls Tryz.prog 124 #[.int .i64 u] w fun e w' => e = .returned (.tuple #[.int .i64 (lgs u), .bool (decide (1 ≤ u ∧ u ≤ 65536))]) ∧ w' = w := by
  by_cases h : 1 ≤ u ∧ u ≤ 65536
  · obtain ⟨n, rfl⟩ := Int.eq_ofNat_of_zero_le (show 0 ≤ u by omega)
    refine (log_yes n w (by omega) (by omega)).mono ?_
    rintro e w' ⟨rfl, rfl⟩
    exact ⟨by rw [decide_eq_true h, lgs, if_pos h, Int.toNat_natCast], rfl⟩
  · refine (log_no u w (by omega) h1 h2).mono ?_
    rintro e w' ⟨rfl, rfl⟩
    exact ⟨by rw [decide_eq_false h, lgs, if_neg h], rfl⟩

theorem rlog_any (u : Int) (w : World) (h1 : -9223372036854775808 ≤ u) (h2 : u ≤ 9223372036854775807) :
    Calls Tryz.prog 82 #[.int .i64 u] w fun e w' => e = .returned (.tuple #[.int .i64 (lgs u), .bool (decide (1 ≤ u ∧ u ≤ 65536))]) ∧ w' = w := by
  by_cases h : 1 ≤ u ∧ u ≤ 65536
  · obtain ⟨n, rfl⟩ := Int.eq_ofNat_of_zero_le (show 0 ≤ u by omega)
    refine (rlog_yes n w (by omega) (by omega)).mono ?_
    rintro e w' ⟨rfl, rfl⟩
    exact ⟨by rw [decide_eq_true h, lgs, if_pos h, Int.toNat_natCast], rfl⟩
  · refine (rlog_no u w (by omega) h1 h2).mono ?_
    rintro e w' ⟨rfl, rfl⟩
    exact ⟨by rw [decide_eq_false h, lgs, if_neg h], rfl⟩

end Go.Proofs.YthlfmbijagpggaaGreat.Mi
