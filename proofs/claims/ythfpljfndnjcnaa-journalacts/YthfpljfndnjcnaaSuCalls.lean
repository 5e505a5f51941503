/-
  What the calls of package sum that only reckon do, and the document's sum: contracts over plain numbers ('SuPlain').
  Conditions: bytes that are looked at lie in memory.
-/
import Derived.Test.YthfpljfndnjcnaaByRows
import Derived.Test.YthfpljfndnjcnaaSuPlain
import Derived.Laws.BitsAllLaws
namespace Go.Proofs.Ythfpljfndnjcnaa
open Go.RowKit Su By
set_option linter.unusedVariables false

theorem ret_int {k : IntKind} {a b : Int} (h : a = b) : Ending.returned (.int k a) = .returned (.int k b) := by rw [h]

theorem and_one (a : Nat) (ha : a < 4294967296) : bits .and .u32 (a : Int) 1 = ((a % 2 : Nat) : Int) := by
  have := u32_and_nat a 1 ha (by omega)
  rw [Nat.and_one_is_mod] at this
  exact this

theorem and_top (a : Nat) (ha : a < 4294967296) : bits .and .u32 (a : Int) 2147483648 = if a.testBit 31 then 2147483648 else 0 := by
  have h := u32_and_nat a 2147483648 ha (by omega)
  have e : a &&& 2147483648 = if a.testBit 31 then 2147483648 else 0 := by
    apply Nat.eq_of_testBit_eq
    intro i
    rw [Nat.testBit_and, show (2147483648 : Nat) = 2 ^ 31 from rfl, Nat.testBit_two_pow]
    by_cases hi : 31 = i
    · subst hi
      cases h2 : a.testBit 31
      · simp
      · simp only [if_true]
        rw [Nat.testBit_two_pow]
        simp
    · cases h2 : a.testBit 31
      · simp [hi]
      · simp only [if_true]
        rw [Nat.testBit_two_pow]
        simp [hi]
  rw [e] at h
  refine h.trans ?_
  cases a.testBit 31 <;> rfl

/- powerOfBytes(n). -/
theorem i64_and_one (n : Nat) (h : n ≤ 1048576) : bits .and .i64 (n : Int) 1 = ((n % 2 : Nat) : Int) := by
  have := bits_mask .i64 62 (by decide) (fun n h0 h1 => by rw [IntKind.wrap_i64]; omega) 1 (by omega) (n : Int) (by omega) (by omega)
  exact this

end Go.Proofs.Ythfpljfndnjcnaa
