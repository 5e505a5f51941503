/-
  3 texts of this proof, one behind the other: MiPlain, MiCalls, MiHash.
-/
import Derived.WalkKit
import Derived.Laws.MathBits
import Derived.Test.YthlfmbijagpggaaRows
import Derived.WalkSpells
import Derived.WalkLawsBesides
import Derived.Laws.BitsAllLaws
/-
  Numbers mixed, and logarithms, in plain numbers: unlike numbers stay unlike; logarithms never fall; of twice a number it is one more.
  Conditions: none. Nothing here names the program.
-/
namespace Go.Proofs.Ythlfmbijagpggaa.Mi

theorem xor32 {x y : Nat} (hx : x < 4294967296) (hy : y < 4294967296) : x ^^^ y < 4294967296 := Nat.xor_lt_two_pow (n := 32) hx hy

theorem xor_div (k x y : Nat) : (x ^^^ y) / 2 ^ k = (x / 2 ^ k) ^^^ (y / 2 ^ k) := by
  rw [← Nat.shiftRight_eq_div_pow, ← Nat.shiftRight_eq_div_pow, ← Nat.shiftRight_eq_div_pow, Nat.shiftRight_xor_distrib]

theorem xor_zero_eq {a b : Nat} (h : a ^^^ b = 0) : a = b := by
  have := congrArg (· ^^^ b) h
  simpa [Nat.xor_assoc] using this

theorem unshift (k a b : Nat) (hk : 0 < k) (h : a ^^^ (a / 2 ^ k) = b ^^^ (b / 2 ^ k)) : a = b := by
  apply xor_zero_eq
  have e : a ^^^ b = (a ^^^ b) / 2 ^ k := by
    rw [xor_div]
    have h2 := congrArg (fun z => (z ^^^ b) ^^^ (a / 2 ^ k)) h
    have l : ((a ^^^ (a / 2 ^ k)) ^^^ b) ^^^ (a / 2 ^ k) = a ^^^ b := by
      rw [Nat.xor_assoc, Nat.xor_assoc, Nat.xor_comm b, ← Nat.xor_assoc (a / 2 ^ k), Nat.xor_self, Nat.zero_xor]
    have r : ((b ^^^ (b / 2 ^ k)) ^^^ b) ^^^ (a / 2 ^ k) = (a / 2 ^ k) ^^^ (b / 2 ^ k) := by
      rw [Nat.xor_comm b, Nat.xor_assoc (b / 2 ^ k), Nat.xor_self, Nat.xor_zero, Nat.xor_comm]
    rw [l, r] at h2
    exact h2
  by_cases h0 : a ^^^ b = 0
  · exact h0
  · exfalso
    have : (a ^^^ b) / 2 ^ k < a ^^^ b := Nat.div_lt_self (by omega) (Nat.one_lt_two_pow (by omega))
    omega

theorem unmul (m i a b : Nat) (hi : m * i % 4294967296 = 1) (ha : a < 4294967296) (hb : b < 4294967296) (h : a * m % 4294967296 = b * m % 4294967296) : a = b := by
  have key : ∀ x, x < 4294967296 → (x * m % 4294967296) * i % 4294967296 = x := by
    intro x hx
    rw [Nat.mul_mod, Nat.mod_mod, ← Nat.mul_mod, Nat.mul_assoc, Nat.mul_mod, hi, Nat.mul_one, Nat.mod_mod, Nat.mod_eq_of_lt hx]
  rw [← key a ha, ← key b hb, h]

def mA (x : Nat) : Nat := x ^^^ (x / 65536)
def mB (x : Nat) : Nat := mA x * 2146121005 % 4294967296
def mC (x : Nat) : Nat := mB x ^^^ (mB x / 32768)
def mD (x : Nat) : Nat := mC x * 2221713035 % 4294967296
def mx (x : Nat) : Nat := mD x ^^^ (mD x / 65536)

theorem mA_lt {x : Nat} (h : x < 4294967296) : mA x < 4294967296 := xor32 h (by omega)
theorem mB_lt (x : Nat) : mB x < 4294967296 := Nat.mod_lt _ (by omega)
theorem mC_lt (x : Nat) : mC x < 4294967296 := xor32 (mB_lt x) (by have := mB_lt x; omega)
theorem mD_lt (x : Nat) : mD x < 4294967296 := Nat.mod_lt _ (by omega)
theorem mx_lt (x : Nat) : mx x < 4294967296 := xor32 (mD_lt x) (by have := mD_lt x; omega)

theorem mx_inj {a b : Nat} (ha : a < 4294967296) (hb : b < 4294967296) (h : mx a = mx b) : a = b := by
  have h1 : mD a = mD b := unshift 16 _ _ (by omega) h
  have h2 : mC a = mC b := unmul 2221713035 1124208931 _ _ (by decide) (mC_lt a) (mC_lt b) h1
  have h3 : mB a = mB b := unshift 15 _ _ (by omega) h2
  have h4 : mA a = mA b := unmul 2146121005 493478565 _ _ (by decide) (mA_lt ha) (mA_lt hb) h3
  exact unshift 16 _ _ (by omega) h4

def h2 (a b : Nat) : Nat := mx (mx ((a + 2654435761) % 4294967296) ^^^ b)
def h3 (a b c : Nat) : Nat := mx (h2 a b ^^^ ((c + 2246822519) % 4294967296))
theorem h2_lt (a b : Nat) : h2 a b < 4294967296 := mx_lt _
theorem h3_lt (a b c : Nat) : h3 a b c < 4294967296 := mx_lt _

def sq (y : Nat) : Nat := y * y / 2147483648
def dg (y : Nat) : Nat := if 4294967296 ≤ sq y then 1 else 0
def nx (y : Nat) : Nat := if 4294967296 ≤ sq y then sq y / 2 else sq y

def lp : Nat → Nat → Nat → Nat
  | 0, _, d => d
  | k + 1, y, d => lp k (nx y) (d * 2 + dg y)

theorem sq_mono {y z : Nat} (h : y ≤ z) : sq y ≤ sq z := Nat.div_le_div_right (Nat.mul_le_mul h h)

theorem sq_top {y : Nat} (h : y < 4294967296) : y * y ≤ 18446744065119617025 :=
  Nat.mul_le_mul (show y ≤ 4294967295 by omega) (show y ≤ 4294967295 by omega)

theorem nx_lt {y : Nat} (h : y < 4294967296) : nx y < 4294967296 := by
  have := sq_top h
  unfold nx sq
  split <;> omega

theorem dg_le (y : Nat) : dg y ≤ 1 := by unfold dg; split <;> omega

theorem lp_add (k : Nat) : ∀ y d, lp k y d = d * 2 ^ k + lp k y 0 := by
  induction k with
  | zero => intro y d; simp [lp]
  | succ k ih =>
    intro y d
    rw [lp, lp, ih (nx y) (d * 2 + dg y), ih (nx y) (0 * 2 + dg y), Nat.pow_succ, Nat.add_mul, Nat.add_mul, Nat.mul_assoc, Nat.mul_comm 2 (2 ^ k)]
    omega

theorem lp_lt (k : Nat) : ∀ y, lp k y 0 < 2 ^ k := by
  induction k with
  | zero => intro y; simp [lp]
  | succ k ih =>
    intro y
    rw [lp, lp_add, Nat.pow_succ]
    have h1 := ih (nx y)
    have h2 := Nat.mul_le_mul_right (2 ^ k) (dg_le y)
    simp only [Nat.zero_mul, Nat.zero_add, Nat.one_mul] at h2 ⊢
    omega

theorem lp_mono (k : Nat) : ∀ y z, y ≤ z → lp k y 0 ≤ lp k z 0 := by
  induction k with
  | zero => intro y z _; simp [lp]
  | succ k ih =>
    intro y z h
    have hs := sq_mono h
    rw [lp, lp, lp_add k (nx y), lp_add k (nx z)]
    have l1 := lp_lt k (nx y)
    by_cases hy : 4294967296 ≤ sq y
    · have hz : 4294967296 ≤ sq z := by omega
      have e1 : dg y = 1 := if_pos hy
      have e2 : dg z = 1 := if_pos hz
      have hn : nx y ≤ nx z := by rw [nx, nx, if_pos hy, if_pos hz]; omega
      have := ih _ _ hn
      rw [e1, e2]
      omega
    · have e1 : dg y = 0 := if_neg hy
      by_cases hz : 4294967296 ≤ sq z
      · have e2 : dg z = 1 := if_pos hz
        rw [e1, e2]
        simp only [Nat.zero_mul, Nat.zero_add, Nat.one_mul]
        omega
      · have e2 : dg z = 0 := if_neg hz
        have hn : nx y ≤ nx z := by rw [nx, nx, if_neg hy, if_neg hz]; omega
        have := ih _ _ hn
        rw [e1, e2]
        omega

def pl (u : Nat) : Nat := u.log2
def y0 (u : Nat) : Nat := u * 2 ^ (31 - pl u)
def lg (u : Nat) : Nat := lp 24 (y0 u) (pl u)

theorem pl_le {u : Nat} (h : 1 ≤ u) (h2 : u ≤ 65536) : pl u ≤ 16 := by
  have := (Nat.log2_lt (show u ≠ 0 by omega)).2 (show u < 2 ^ 17 by omega)
  unfold pl
  omega

theorem pl_spec {u : Nat} (h : 1 ≤ u) : 2 ^ pl u ≤ u ∧ u < 2 ^ (pl u + 1) := ⟨Nat.log2_self_le (by omega), Nat.lt_log2_self⟩

theorem pl_len {u : Nat} (h : 1 ≤ u) : bitLen u = pl u + 1 := by
  unfold bitLen pl
  rw [if_neg (by omega)]

theorem pl_uniq {u n : Nat} (h : 1 ≤ u) (h1 : 2 ^ n ≤ u) (h2 : u < 2 ^ (n + 1)) : pl u = n := (Nat.log2_eq_iff (by omega)).2 ⟨h1, h2⟩

theorem y0_lt {u : Nat} (h : 1 ≤ u) (h2 : u ≤ 65536) : y0 u < 4294967296 := by
  have h3 := pl_le h h2
  have h4 := (pl_spec h).2
  have h5 : y0 u < 2 ^ (pl u + 1) * 2 ^ (31 - pl u) := Nat.mul_lt_mul_of_pos_right h4 (Nat.two_pow_pos _)
  rw [← Nat.pow_add, show pl u + 1 + (31 - pl u) = 32 by omega] at h5
  exact h5

theorem lg_eq (u : Nat) : lg u = pl u * 16777216 + lp 24 (y0 u) 0 := lp_add 24 _ _

theorem lg_le {u : Nat} (h : 1 ≤ u) (h2 : u ≤ 65536) : lg u < 285212672 := by
  have := pl_le h h2
  have := lp_lt 24 (y0 u)
  rw [lg_eq]
  omega

theorem lg_mono {u v : Nat} (h : 1 ≤ u) (hv : u ≤ v) : lg u ≤ lg v := by
  have a := pl_spec h
  have b := pl_spec (show 1 ≤ v by omega)
  have l1 := lp_lt 24 (y0 u)
  rw [lg_eq, lg_eq]
  have hp : pl u ≤ pl v := by
    by_cases e : pl u ≤ pl v
    · exact e
    · exfalso
      have : 2 ^ (pl v + 1) ≤ 2 ^ pl u := Nat.pow_le_pow_right (by omega) (by omega)
      omega
  by_cases e : pl u = pl v
  · have : y0 u ≤ y0 v := by
      unfold y0
      rw [e]
      exact Nat.mul_le_mul_right _ hv
    have := lp_mono 24 _ _ this
    rw [e]
    omega
  · omega

theorem lg_twice {u : Nat} (h : 1 ≤ u) (h2 : u ≤ 32768) : lg (2 * u) = lg u + 16777216 := by
  have a := pl_spec h
  have hp : pl (2 * u) = pl u + 1 := pl_uniq (by omega) (by rw [Nat.pow_succ]; omega) (by rw [Nat.pow_succ]; omega)
  have hle : pl u ≤ 15 := by
    have := (Nat.log2_lt (show u ≠ 0 by omega)).2 (show u < 2 ^ 16 by omega)
    unfold pl
    omega
  have hy : y0 (2 * u) = y0 u := by
    unfold y0
    rw [hp, show 31 - pl u = (31 - (pl u + 1)) + 1 by omega, Nat.pow_succ, Nat.mul_comm 2 u, Nat.mul_assoc, Nat.mul_comm 2]
  rw [lg_eq, lg_eq, hp, hy]
  omega

theorem lg_one : lg 1 = 0 := by decide +kernel
theorem lg_top : lg 65536 = 268435456 := by decide +kernel
theorem mx_one : mx 1 = 1753845952 := by decide +kernel

end Go.Proofs.Ythlfmbijagpggaa.Mi

/-
  What the calls of package mix that mix do, and the document's: contracts over plain numbers ('MiPlain').
  Conditions: numbers of 32 bits.
-/
namespace Go.Proofs.Ythlfmbijagpggaa.Mi
open Go.RowKit
set_option linter.unusedVariables false

theorem xs16 (a : Nat) (ha : a < 4294967296) : bits .xor .u32 (a : Int) ((a : Int) / 65536) = ((mA a : Nat) : Int) :=
  u32_xor_nat a (a / 65536) ha (by omega)
theorem xs15 (a : Nat) : bits .xor .u32 (mB a : Int) ((mB a : Int) / 32768) = ((mC a : Nat) : Int) :=
  u32_xor_nat (mB a) (mB a / 32768) (mB_lt a) (by have := mB_lt a; omega)
theorem xs16b (a : Nat) : bits .xor .u32 (mD a : Int) ((mD a : Int) / 65536) = ((mx a : Nat) : Int) :=
  u32_xor_nat (mD a) (mD a / 65536) (mD_lt a) (by have := mD_lt a; omega)
theorem tB (a : Nat) : (mA a : Int) * 2146121005 % 4294967296 = ((mB a : Nat) : Int) := by unfold mB; rfl
theorem tD (a : Nat) : (mC a : Int) * 2221713035 % 4294967296 = ((mD a : Nat) : Int) := by unfold mD; rfl

/- Mix(x). -/
theorem mix_any (a : Nat) (w : World) (ha : a < 4294967296) :
    Calls Try.prog 44 #[.int .u32 a] w fun e w' => e = .returned (.int .u32 (mx a : Int)) ∧ w' = w := by
  have h1 := xs16 a ha
  have h2 := xs15 a
  have h3 := xs16b a
  have h4 := tB a
  have h5 := tD a
  have l1 := mA_lt ha
  have l2 := mB_lt a
  have l3 := mC_lt a
  have l4 := mD_lt a
  generalize mA a = A at *
  generalize mB a = B at *
  generalize mC a = C at *
  generalize mD a = D at *
  generalize mx a = M at *
  go_enter Try.func44, Try.ntmps44
  go_wp2_with fail
  go_ret
  exact ⟨rfl, rfl⟩

end Go.Proofs.Ythlfmbijagpggaa.Mi

/-
  Hash2 and Hash3, the program's and the document's, over plain numbers ('MiPlain').
  Conditions: numbers of 32 bits.
-/
namespace Go.Proofs.Ythlfmbijagpggaa.Mi
open Go.RowKit
set_option linter.unusedVariables false

theorem hash2_gen (f : Nat → Nat) (a b A B : Nat) (w : World) (ha : a < 4294967296) (hb : b < 4294967296) (e1 : ((a : Int) + 2654435761) % 4294967296 = (A : Int)) (l1 : A < 4294967296) (l2 : ∀ x, f x < 4294967296) (l3 : B < 4294967296)
    (e2 : bits .xor .u32 (f A : Int) (b : Int) = (B : Int)) (c : ∀ x w, x < 4294967296 → Calls Try.prog 44 #[.int .u32 (x : Nat)] w fun e w' => e = .returned (.int .u32 (f x : Nat)) ∧ w' = w) :
    Calls Try.prog 36 #[.int .u32 (a : Nat), .int .u32 (b : Nat)] w fun e w' => e = .returned (.int .u32 (f B : Nat)) ∧ w' = w := by
  have l4 := l2 A
  have l5 := l2 B
  go_enter Try.func36, Try.ntmps36
  go_wp2_with (go_at_call 44; refine (c _ _ (by first | exact l1 | exact l3)).mono ?_; rintro e w' ⟨rfl, rfl⟩)
  go_ret
  exact ⟨rfl, rfl⟩

theorem hash2_any (a b : Nat) (w : World) (ha : a < 4294967296) (hb : b < 4294967296) :
    Calls Try.prog 36 #[.int .u32 (a : Nat), .int .u32 (b : Nat)] w fun e w' => e = .returned (.int .u32 (h2 a b : Nat)) ∧ w' = w :=
  hash2_gen mx a b ((a + 2654435761) % 4294967296) (mx ((a + 2654435761) % 4294967296) ^^^ b) w ha hb (by omega) (by omega) mx_lt (xor32 (mx_lt _) hb) (u32_xor_nat _ _ (mx_lt _) hb)
    mix_any

theorem hash3_gen (a b c A H B R : Nat) (w : World) (ha : a < 4294967296) (hb : b < 4294967296) (hc : c < 4294967296) (e1 : ((c : Int) + 2246822519) % 4294967296 = (A : Int)) (l1 : A < 4294967296) (l2 : H < 4294967296) (l3 : B < 4294967296) (l4 : R < 4294967296)
    (e2 : bits .xor .u32 (H : Int) (A : Int) = (B : Int)) (c1 : ∀ w, Calls Try.prog 36 #[.int .u32 (a : Nat), .int .u32 (b : Nat)] w fun e w' => e = .returned (.int .u32 (H : Nat)) ∧ w' = w) (c2 : ∀ w, Calls Try.prog 44 #[.int .u32 (B : Nat)] w fun e w' => e = .returned (.int .u32 (R : Nat)) ∧ w' = w) :
    Calls Try.prog 98 #[.int .u32 (a : Nat), .int .u32 (b : Nat), .int .u32 (c : Nat)] w fun e w' => e = .returned (.int .u32 (R : Nat)) ∧ w' = w := by
  go_enter Try.func98, Try.ntmps98
  go_wp2_with (first | (go_at_call 36; refine (c1 _).mono ?_; rintro e w' ⟨rfl, rfl⟩) | (go_at_call 44; refine (c2 _).mono ?_; rintro e w' ⟨rfl, rfl⟩))
  go_ret
  exact ⟨rfl, rfl⟩

theorem hash3_any (a b c : Nat) (w : World) (ha : a < 4294967296) (hb : b < 4294967296) (hc : c < 4294967296) :
    Calls Try.prog 98 #[.int .u32 (a : Nat), .int .u32 (b : Nat), .int .u32 (c : Nat)] w fun e w' => e = .returned (.int .u32 (h3 a b c : Nat)) ∧ w' = w :=
  hash3_gen a b c ((c + 2246822519) % 4294967296) (h2 a b) (h2 a b ^^^ ((c + 2246822519) % 4294967296)) (h3 a b c) w ha hb hc (by omega) (by omega) (h2_lt a b) (xor32 (h2_lt a b) (by omega)) (h3_lt a b c) (u32_xor_nat _ _ (h2_lt a b) (by omega))
    (fun w => hash2_any a b w ha hb) (fun w => mix_any _ w (xor32 (h2_lt a b) (by omega)))

end Go.Proofs.Ythlfmbijagpggaa.Mi
