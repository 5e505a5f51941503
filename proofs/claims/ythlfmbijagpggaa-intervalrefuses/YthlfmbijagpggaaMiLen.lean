/-
  math/bits.Len, for numbers that have a logarithm.
  Conditions: the number is 1 to 65536.
-/
import Derived.Test.YthlfmbijagpggaaRows
import Derived.Laws.MathBits
import Derived.Lib.Strings
import Derived.Lib.Small
import Derived.Lib.Walk
import Derived.Lib.Tables
namespace Go.Proofs.Ythlfmbijagpggaa.Mi
set_option linter.unusedVariables false

theorem len8_all : ∀ n : Fin 256, Lib.len8 (n.val : Int) = (bitLen n.val : Int) := by decide +kernel
theorem len8_nat (n : Nat) (h : n < 256) : Lib.len8 (n : Int) = (bitLen n : Int) := len8_all ⟨n, h⟩

theorem leaf0 (u : Nat) (h : u < 256) : (Lib.len8 ((u : Int) % 256) + 9223372036854775808) % 18446744073709551616 - 9223372036854775808 = (bitLen u : Int) := by
  rw [show (u : Int) % 256 = (u : Int) by omega, len8_nat u h]
  have := bitLen_le8 u h
  omega
theorem leaf8 (u : Nat) (h0 : 256 ≤ u) (h : u < 65536) : (8 + ((Lib.len8 ((u : Int) / 256 % 256) + 9223372036854775808) % 18446744073709551616 - 9223372036854775808) + 9223372036854775808) % 18446744073709551616 - 9223372036854775808 = (bitLen u : Int) := by
  have e : bitLen u = 8 + bitLen (u / 256) := bitLen_shift u 8 (by omega)
  rw [show (u : Int) / 256 % 256 = ((u / 256 : Nat) : Int) by omega, len8_nat (u / 256) (by omega), e]
  have := bitLen_le8 (u / 256) (by omega)
  omega
theorem leaf16 (u : Nat) (h : u = 65536) : (16 + ((Lib.len8 ((u : Int) / 65536 % 256) + 9223372036854775808) % 18446744073709551616 - 9223372036854775808) + 9223372036854775808) % 18446744073709551616 - 9223372036854775808 = (bitLen u : Int) := by
  subst h
  decide +kernel

set_option maxHeartbeats 4000000 in
set_option maxRecDepth 100000 in
theorem len64_any (u : Nat) (w : World) (h1 : 1 ≤ u) (h2 : u ≤ 65536) :
    Calls Try.prog 77 #[.int .u64 u] w fun e w' => e = .returned (.int .i64 (bitLen u : Int)) ∧ w' = w := by
  have HB : id (1 ≤ u ∧ u ≤ 65536) := ⟨h1, h2⟩
  have h0 : (u : Int) ≤ 18446744073709551615 := by omega
  clear h1 h2
  go_enter Try.func77, Try.ntmps77
  go_wp2
  all_goals (go_ret; refine ⟨congrArg Ending.returned (congrArg (Value.int IntKind.i64) ?_), rfl⟩)
  all_goals obtain ⟨b1, b2⟩ : 1 ≤ u ∧ u ≤ 65536 := HB
  all_goals first
    | (exfalso; omega)
    | (have hq : u = 65536 := by omega
       exact leaf16 u hq)
    | (have hq : 256 ≤ u := by omega
       have hr : u < 65536 := by omega
       exact leaf8 u hq hr)
    | (have hq : u < 256 := by omega
       exact leaf0 u hq)

theorem len_any (u : Nat) (w : World) (h1 : 1 ≤ u) (h2 : u ≤ 65536) :
    Calls Try.prog 59 #[.int .u64 u] w fun e w' => e = .returned (.int .i64 (bitLen u : Int)) ∧ w' = w := by
  have c := fun w => len64_any u w h1 h2
  go_enter Try.func59, Try.ntmps59
  go_wp2_with (go_at_call 77; refine (c _).mono ?_; rintro e w' ⟨rfl, rfl⟩)
  go_ret
  exact ⟨rfl, rfl⟩

end Go.Proofs.Ythlfmbijagpggaa.Mi
