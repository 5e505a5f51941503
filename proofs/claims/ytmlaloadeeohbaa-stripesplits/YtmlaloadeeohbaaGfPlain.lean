/-
  The field of 256 elements in plain numbers: the product by shifts and sums ('rmul') is the product by the tables of powers and logarithms ('tmul'); it is a field.
  Conditions: the elements are below 256. Nothing here names the program.
-/
import Derived.WalkKit
namespace Go.Proofs.Ytmlaloadeeohbaa.Gf

def xt (x : Nat) : Nat := if 256 ≤ 2 * x then (2 * x) ^^^ 285 else 2 * x

def rmulGo : Nat → Nat → Nat → Nat → Nat
  | 0, _, _, out => out
  | k + 1, x, y, out => rmulGo k (xt x) (y / 2) (if y % 2 = 1 then out ^^^ x else out)

def rmul (a b : Nat) : Nat := rmulGo 8 a b 0

def expL : List Nat :=
  [1, 2, 4, 8, 16, 32, 64, 128, 29, 58, 116, 232, 205, 135, 19, 38, 76, 152, 45, 90, 180, 117, 234, 201, 143, 3, 6, 12, 24, 48, 96, 192,
   157, 39, 78, 156, 37, 74, 148, 53, 106, 212, 181, 119, 238, 193, 159, 35, 70, 140, 5, 10, 20, 40, 80, 160, 93, 186, 105, 210, 185, 111, 222, 161,
   95, 190, 97, 194, 153, 47, 94, 188, 101, 202, 137, 15, 30, 60, 120, 240, 253, 231, 211, 187, 107, 214, 177, 127, 254, 225, 223, 163, 91, 182, 113, 226,
   217, 175, 67, 134, 17, 34, 68, 136, 13, 26, 52, 104, 208, 189, 103, 206, 129, 31, 62, 124, 248, 237, 199, 147, 59, 118, 236, 197, 151, 51, 102, 204,
   133, 23, 46, 92, 184, 109, 218, 169, 79, 158, 33, 66, 132, 21, 42, 84, 168, 77, 154, 41, 82, 164, 85, 170, 73, 146, 57, 114, 228, 213, 183, 115,
   230, 209, 191, 99, 198, 145, 63, 126, 252, 229, 215, 179, 123, 246, 241, 255, 227, 219, 171, 75, 150, 49, 98, 196, 149, 55, 110, 220, 165, 87, 174, 65,
   130, 25, 50, 100, 200, 141, 7, 14, 28, 56, 112, 224, 221, 167, 83, 166, 81, 162, 89, 178, 121, 242, 249, 239, 195, 155, 43, 86, 172, 69, 138, 9,
   18, 36, 72, 144, 61, 122, 244, 245, 247, 243, 251, 235, 203, 139, 11, 22, 44, 88, 176, 125, 250, 233, 207, 131, 27, 54, 108, 216, 173, 71, 142]

def logL : List Nat :=
  [0, 0, 1, 25, 2, 50, 26, 198, 3, 223, 51, 238, 27, 104, 199, 75, 4, 100, 224, 14, 52, 141, 239, 129, 28, 193, 105, 248, 200, 8, 76, 113,
   5, 138, 101, 47, 225, 36, 15, 33, 53, 147, 142, 218, 240, 18, 130, 69, 29, 181, 194, 125, 106, 39, 249, 185, 201, 154, 9, 120, 77, 228, 114, 166,
   6, 191, 139, 98, 102, 221, 48, 253, 226, 152, 37, 179, 16, 145, 34, 136, 54, 208, 148, 206, 143, 150, 219, 189, 241, 210, 19, 92, 131, 56, 70, 64,
   30, 66, 182, 163, 195, 72, 126, 110, 107, 58, 40, 84, 250, 133, 186, 61, 202, 94, 155, 159, 10, 21, 121, 43, 78, 212, 229, 172, 115, 243, 167, 87,
   7, 112, 192, 247, 140, 128, 99, 13, 103, 74, 222, 237, 49, 197, 254, 24, 227, 165, 153, 119, 38, 184, 180, 124, 17, 68, 146, 217, 35, 32, 137, 46,
   55, 63, 209, 91, 149, 188, 207, 205, 144, 135, 151, 178, 220, 252, 190, 97, 242, 86, 211, 171, 20, 42, 93, 158, 132, 60, 57, 83, 71, 109, 65, 162,
   31, 45, 67, 216, 183, 123, 164, 118, 196, 23, 73, 236, 127, 12, 111, 246, 108, 161, 59, 82, 41, 157, 85, 170, 251, 96, 134, 177, 187, 204, 62, 90,
   203, 89, 95, 176, 156, 169, 160, 81, 11, 245, 22, 235, 122, 117, 44, 215, 79, 174, 213, 233, 230, 231, 173, 232, 116, 214, 244, 234, 168, 80, 88, 175]

def E (n : Nat) : Nat := expL.getD n 0
def L (a : Nat) : Nat := logL.getD a 0

def tmul (a b : Nat) : Nat := if a = 0 ∨ b = 0 then 0 else E ((L a + L b) % 255)
def tinv (a : Nat) : Nat := if a = 0 then 0 else E ((255 - L a) % 255)

theorem xt_lt : ∀ x < 256, xt x < 256 := by decide +kernel
theorem E_lt : ∀ n < 255, E n < 256 ∧ E n ≠ 0 := by decide +kernel
theorem L_lt : ∀ a < 256, L a < 255 := by decide +kernel
theorem E_L : ∀ a < 256, a ≠ 0 → E (L a) = a := by decide +kernel
theorem L_E : ∀ n < 255, L (E n) = n := by decide +kernel
theorem E_succ : ∀ n < 255, E ((n + 1) % 255) = xt (E n) := by decide +kernel
theorem E_zero : E 0 = 1 := by decide +kernel
theorem rmul_one : ∀ b < 256, rmul 1 b = b := by decide +kernel
theorem rmul_zero : ∀ a < 256, rmul a 0 = 0 ∧ rmul 0 a = 0 := by decide +kernel
theorem xt_form : ∀ x < 256, xt x = (x <<< 1) ^^^ (if x.testBit 7 then 285 else 0) := by decide +kernel

theorem xor_left_comm (a b c : Nat) : a ^^^ (b ^^^ c) = b ^^^ (a ^^^ c) := by
  rw [← Nat.xor_assoc, Nat.xor_comm a b, Nat.xor_assoc]

theorem xor_lt (x y : Nat) (hx : x < 256) (hy : y < 256) : x ^^^ y < 256 := Nat.xor_lt_two_pow (n := 8) hx hy

theorem xt_xor (x y : Nat) (hx : x < 256) (hy : y < 256) : xt (x ^^^ y) = xt x ^^^ xt y := by
  rw [xt_form x hx, xt_form y hy, xt_form _ (xor_lt x y hx hy), Nat.shiftLeft_xor_distrib, Nat.testBit_xor]
  cases x.testBit 7 <;> cases y.testBit 7 <;> simp [Nat.xor_assoc, Nat.xor_comm, xor_left_comm]

theorem rmulGo_out (k : Nat) : ∀ x y o p : Nat, rmulGo k x y (o ^^^ p) = o ^^^ rmulGo k x y p := by
  induction k with
  | zero => intro x y o p; rfl
  | succ k ih =>
    intro x y o p
    unfold rmulGo
    split
    · rw [Nat.xor_assoc, ih]
    · rw [ih]

theorem rmulGo_lt (k : Nat) : ∀ x y o : Nat, x < 256 → o < 256 → rmulGo k x y o < 256 := by
  induction k with
  | zero => intro x y o _ h; exact h
  | succ k ih =>
    intro x y o hx ho
    unfold rmulGo
    refine ih _ _ _ (xt_lt x hx) ?_
    split
    · exact xor_lt _ _ ho hx
    · exact ho

theorem rmul_lt (a b : Nat) (ha : a < 256) : rmul a b < 256 := rmulGo_lt 8 a b 0 ha (by omega)

theorem rmulGo_xor (k : Nat) : ∀ x x' y o o' : Nat, x < 256 → x' < 256 → rmulGo k (x ^^^ x') y (o ^^^ o') = rmulGo k x y o ^^^ rmulGo k x' y o' := by
  induction k with
  | zero => intro x x' y o o' _ _; rfl
  | succ k ih =>
    intro x x' y o o' hx hx'
    unfold rmulGo
    rw [xt_xor x x' hx hx']
    split
    · rw [← ih _ _ _ _ _ (xt_lt x hx) (xt_lt x' hx')]
      congr 1
      simp [Nat.xor_comm, xor_left_comm]
    · rw [← ih _ _ _ _ _ (xt_lt x hx) (xt_lt x' hx')]

theorem rmul_xor (x x' y : Nat) (hx : x < 256) (hx' : x' < 256) : rmul (x ^^^ x') y = rmul x y ^^^ rmul x' y := by
  have := rmulGo_xor 8 x x' y 0 0 hx hx'
  simpa [rmul] using this

theorem rmulGo_xt (k : Nat) : ∀ x y o : Nat, x < 256 → o < 256 → rmulGo k (xt x) y (xt o) = xt (rmulGo k x y o) := by
  induction k with
  | zero => intro x y o _ _; rfl
  | succ k ih =>
    intro x y o hx ho
    unfold rmulGo
    split
    · rw [← xt_xor o x ho hx, ih _ _ _ (xt_lt x hx) (xor_lt _ _ ho hx)]
    · rw [ih _ _ _ (xt_lt x hx) ho]

theorem rmul_xt (x y : Nat) (hx : x < 256) : rmul (xt x) y = xt (rmul x y) := rmulGo_xt 8 x y 0 hx (by omega)

theorem rmul_E (n : Nat) : ∀ m, n < 255 → m < 255 → rmul (E n) (E m) = E ((n + m) % 255) := by
  induction n with
  | zero =>
    intro m _ hm
    rw [E_zero, rmul_one _ (E_lt m hm).1, Nat.zero_add, Nat.mod_eq_of_lt hm]
  | succ n ih =>
    intro m hn hm
    have h1 := E_succ n (by omega)
    rw [Nat.mod_eq_of_lt hn] at h1
    rw [h1, rmul_xt _ _ (E_lt n (by omega)).1, ih m (by omega) hm, ← E_succ _ (Nat.mod_lt _ (by omega))]
    congr 1
    omega

theorem tmul_rmul (a b : Nat) (ha : a < 256) (hb : b < 256) : tmul a b = rmul a b := by
  unfold tmul
  by_cases h0 : a = 0
  · subst h0; simp [(rmul_zero b hb).2]
  · by_cases h1 : b = 0
    · subst h1; simp [(rmul_zero a ha).1]
    · rw [if_neg (by omega), ← rmul_E _ _ (L_lt a ha) (L_lt b hb), E_L a ha h0, E_L b hb h1]

theorem E_inj (n m : Nat) (hn : n < 255) (hm : m < 255) (h : E n = E m) : n = m := by
  rw [← L_E n hn, ← L_E m hm, h]

theorem tmul_lt (a b : Nat) (ha : a < 256) (hb : b < 256) : tmul a b < 256 := by
  rw [tmul_rmul a b ha hb]; exact rmul_lt a b ha

theorem tinv_lt (a : Nat) : tinv a < 256 := by
  unfold tinv
  split
  · omega
  · exact (E_lt _ (Nat.mod_lt _ (by omega))).1

theorem tinv_ne (a : Nat) (h : a ≠ 0) : tinv a ≠ 0 := by
  unfold tinv
  rw [if_neg h]
  exact (E_lt _ (Nat.mod_lt _ (by omega))).2

theorem L_tinv (a : Nat) (h : a ≠ 0) : L (tinv a) = (255 - L a) % 255 := by
  unfold tinv
  rw [if_neg h]
  exact L_E _ (Nat.mod_lt _ (by omega))

theorem rmul_one_iff (a b : Nat) (ha : a < 256) (hb : b < 256) : rmul a b = 1 ↔ a ≠ 0 ∧ b = tinv a := by
  rw [← tmul_rmul a b ha hb]
  unfold tmul
  constructor
  · intro h
    by_cases h0 : a = 0 ∨ b = 0
    · rw [if_pos h0] at h; omega
    · rw [if_neg h0, ← E_zero] at h
      have := E_inj _ _ (Nat.mod_lt _ (by omega)) (by omega) h
      have la := L_lt a ha
      have lb := L_lt b hb
      refine ⟨by omega, ?_⟩
      unfold tinv
      rw [if_neg (by omega)]
      have e : (255 - L a) % 255 = L b := by omega
      rw [e, E_L b hb (by omega)]
  · rintro ⟨h0, rfl⟩
    have := tinv_ne a h0
    rw [if_neg (by omega), L_tinv a h0]
    have la := L_lt a ha
    have e : (L a + (255 - L a) % 255) % 255 = 0 := by omega
    rw [e, E_zero]

theorem tmul_comm (a b : Nat) : tmul a b = tmul b a := by
  unfold tmul
  rw [Nat.add_comm (L a)]
  simp only [Or.comm]

theorem L_tmul (a b : Nat) (h : ¬ (a = 0 ∨ b = 0)) : L (tmul a b) = (L a + L b) % 255 := by
  unfold tmul
  rw [if_neg h]
  exact L_E _ (Nat.mod_lt _ (by omega))

theorem tmul_ne (a b : Nat) (h : ¬ (a = 0 ∨ b = 0)) : tmul a b ≠ 0 := by
  unfold tmul
  rw [if_neg h]
  exact (E_lt _ (Nat.mod_lt _ (by omega))).2

theorem tmul_zero_left (b : Nat) : tmul 0 b = 0 := by simp [tmul]
theorem tmul_zero_right (a : Nat) : tmul a 0 = 0 := by simp [tmul]

theorem tmul_assoc (a b c : Nat) : tmul (tmul a b) c = tmul a (tmul b c) := by
  by_cases h1 : a = 0 ∨ b = 0
  · rcases h1 with rfl | rfl <;> simp [tmul_zero_left, tmul_zero_right]
  · by_cases h2 : b = 0 ∨ c = 0
    · rcases h2 with rfl | rfl
      · omega
      · simp [tmul_zero_right]
    · have n1 := tmul_ne a b h1
      have n2 := tmul_ne b c h2
      have l1 := L_tmul a b h1
      have l2 := L_tmul b c h2
      generalize tmul a b = p at *
      generalize tmul b c = q at *
      unfold tmul
      rw [if_neg (by omega), if_neg (by omega), l1, l2]
      congr 1
      omega

theorem tmul_xor (a b c : Nat) (ha : a < 256) (hb : b < 256) (hc : c < 256) : tmul a (b ^^^ c) = tmul a b ^^^ tmul a c := by
  rw [tmul_comm a (b ^^^ c), tmul_comm a b, tmul_comm a c, tmul_rmul _ _ (xor_lt b c hb hc) ha, tmul_rmul _ _ hb ha, tmul_rmul _ _ hc ha, rmul_xor b c a hb hc]

theorem tmul_one (a : Nat) (ha : a < 256) : tmul a 1 = a := by
  rw [tmul_comm, tmul_rmul 1 a (by omega) ha, rmul_one a ha]

theorem tmul_tinv (a : Nat) (ha : a < 256) (h : a ≠ 0) : tmul a (tinv a) = 1 := by
  rw [tmul_rmul a _ ha (tinv_lt a)]
  exact (rmul_one_iff a _ ha (tinv_lt a)).2 ⟨h, rfl⟩

/- 'int''s exclusive or, of numbers that are not negative. -/
theorem i64_xor_nat (a b : Nat) (ha : a < 4611686018427387904) (hb : b < 4611686018427387904) : bits .xor .i64 (a : Int) (b : Int) = ((a ^^^ b : Nat) : Int) := by
  have hx : a ^^^ b < 2 ^ 62 := Nat.xor_lt_two_pow (by omega) (by omega)
  show IntKind.i64.wrap ((BitVec.ofInt 64 (a : Int) ^^^ BitVec.ofInt 64 (b : Int)).toNat : Int) = _
  rw [BitVec.toNat_xor, ofInt_u64 a (by omega), ofInt_u64 b (by omega)]
  generalize a ^^^ b = c at *
  simp [IntKind.wrap, IntKind.bits, IntKind.signed]
  omega

end Go.Proofs.Ytmlaloadeeohbaa.Gf
