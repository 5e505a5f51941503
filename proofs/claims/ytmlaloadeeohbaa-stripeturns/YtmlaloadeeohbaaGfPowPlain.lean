/-
  Powers in the field of 256 elements, in plain numbers: a power by the table is the product of equals, for any number.
  Conditions: the element is below 256.
-/
import Derived.Test.YtmlaloadeeohbaaGfPlain
namespace Go.Proofs.Ytmlaloadeeohbaa.Gf

def tdiv (a b : Nat) : Nat := if b = 0 then 0 else tmul a (tinv b)
def tpow (a : Nat) (n : Int) : Nat := if n = 0 then 1 else if a = 0 then 0 else E (((L a : Int) * (n % 255)) % 255).toNat

theorem tpow_ne (a : Nat) (n : Int) (h : a ≠ 0) : tpow a n = E (((L a : Int) * (n % 255)) % 255).toNat := by
  unfold tpow
  by_cases hn : n = 0
  · subst hn; simp [E_zero]
  · rw [if_neg hn, if_neg h]

theorem tpow_lt (a : Nat) (n : Int) : tpow a n < 256 := by
  unfold tpow
  split
  · omega
  · split
    · omega
    · exact (E_lt _ (by omega)).1

/- One factor more. -/
theorem rmul_E_L (k a : Nat) (ha : a < 256) (h : a ≠ 0) : rmul (E ((k * L a) % 255)) a = E (((k + 1) * L a) % 255) := by
  have := rmul_E ((k * L a) % 255) (L a) (Nat.mod_lt _ (by omega)) (L_lt a ha)
  rw [E_L a ha h] at this
  rw [this, Nat.mod_add_mod, Nat.succ_mul]

theorem E_nat (a m : Nat) : E ((m * L a) % 255) = E (((L a : Int) * (m : Int)) % 255).toNat := by
  congr 1
  have : ((L a : Int) * (m : Int)) = ((m * L a : Nat) : Int) := by rw [Nat.mul_comm]; simp
  rw [this]
  omega

theorem neg_mod (l n : Int) (l' : Int) (h : l' % 255 = (-l) % 255) : (l' * ((-(n + 1)) % 255) % 255 + l') % 255 = (l * (n % 255)) % 255 := by
  have e1 : (l' * ((-(n + 1)) % 255) % 255 + l') % 255 = (l' * (-(n + 1)) + l') % 255 := by
    rw [Int.emod_add_emod, Int.add_emod, Int.mul_emod, Int.emod_emod_of_dvd _ (Int.dvd_refl 255), ← Int.mul_emod, ← Int.add_emod]
  have e2 : l' * (-(n + 1)) + l' = l' * (-n) := by
    rw [Int.neg_add, Int.mul_add, Int.mul_neg, Int.mul_neg]
    omega
  have e3 : (l * (n % 255)) % 255 = (l * n) % 255 := by
    rw [Int.mul_emod, Int.emod_emod_of_dvd _ (Int.dvd_refl 255), ← Int.mul_emod]
  rw [e1, e2, e3, Int.mul_emod, h, ← Int.mul_emod, Int.neg_mul_neg]

theorem rmul_neg (a : Nat) (n : Int) (ha : a < 256) (h : a ≠ 0) : rmul (tpow (tinv a) (-(n + 1))) (tinv a) = tpow a n := by
  have hi := tinv_ne a h
  have hl := tinv_lt a
  have la := L_lt a ha
  have li := L_tinv a h
  have lt := L_lt _ hl
  rw [tpow_ne _ _ hi, tpow_ne _ _ h]
  have := rmul_E (((L (tinv a) : Int) * ((-(n + 1)) % 255)) % 255).toNat (L (tinv a)) (by omega) lt
  rw [E_L _ hl hi] at this
  rw [this]
  congr 1
  have hm := neg_mod (L a) n (L (tinv a)) (by omega)
  omega

theorem L_two : L 2 = 1 := by decide +kernel
theorem tpow_two (n : Int) : tpow 2 n = E (n % 255).toNat := by
  rw [tpow_ne 2 n (by omega), L_two]
  congr 1
  omega
theorem L_zero : L 0 = 0 := by decide +kernel
theorem E_one : E 1 = 2 := by decide +kernel
theorem rmul_two (k : Nat) (h : k < 255) : rmul (E k) 2 = E ((k + 1) % 255) := by
  rw [← E_one, rmul_E k 1 h (by omega)]

end Go.Proofs.Ytmlaloadeeohbaa.Gf
