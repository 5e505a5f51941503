/-
  What the calls of package mix that mix do, and the document's: contracts over plain numbers ('MiPlain').
  Conditions: numbers of 32 bits.
-/
import Derived.Test.YtgfjmkjgagogpaaGreatRows
import Derived.Test.YtgfjmkjgagogpaaGreatMiPlain
import Derived.WalkKit
import Derived.WalkSpells
import Derived.WalkLawsBesides
import Derived.Laws.BitsAllLaws
namespace Go.Proofs.YtgfjmkjgagogpaaGreat.Mi
open Go.RowKit
set_option linter.unusedVariables false

theorem xs16 (a : Nat) (ha : a < 4294967296) : bits .xor .u32 (a : Int) ((a : Int) / 65536) = ((mA a : Nat) : Int) :=
  u32_xor_nat a (a / 65536) ha (by omega)
theorem xs15 (a : Nat) : bits .xor .u32 (mB a : Int) ((mB a : Int) / 32768) = ((mC a : Nat) : Int) :=
  u32_xor_nat (mB a) (mB a / 32768) (mB_lt a) (by have := mB_lt a; omega)
theorem xs16b (a : Nat) : bits .xor .u32 (mD a : Int) ((mD a : Int) / 65536) = ((mx a : Nat) : Int) :=
  u32_xor_nat (mD a) (mD a / 65536) (mD_lt a) (by have := mD_lt a; omega)
theorem tB (a : Nat) : (mA a : Int) * 2146121005 % 4294967296 = ((mB a : Nat) : Int) := by unfold mB; rfl
theorem tD (a : Nat) : (mC a : Int) * 2221713035 % 4294967296 = ((mD a : Nat) : Int) := by unfold mD; rfl

/- Mix(x). -/
theorem mix_any (a : Nat) (w : World) (ha : a < 4294967296) :
    Calls Tryz.prog 42 #[.int .u32 a] w fun e w' => e = .returned (.int .u32 (mx a : Int)) ∧ w' = w := by
  have h1 := xs16 a ha
  have h2 := xs15 a
  have h3 := xs16b a
  have h4 := tB a
  have h5 := tD a
  have l1 := mA_lt ha
  have l2 := mB_lt a
  have l3 := mC_lt a
  have l4 := mD_lt a
  generalize mA a = A at *
  generalize mB a = B at *
  generalize mC a = C at *
  generalize mD a = D at *
  generalize mx a = M at *
  go_enter Tryz.func42, Tryz.ntmps42
  go_wp2_with fail
  go_ret
  exact ⟨rfl, rfl⟩

/- the document's Mix(x). -/
theorem rmix_any (a : Nat) (w : World) (ha : a < 4294967296) :
    Calls Tryz.prog 46 #[.int .u32 a] w fun e w' => e = .returned (.int .u32 (mx a : Int)) ∧ w' = w := by
  have h1 := xs16 a ha
  have h2 := xs15 a
  have h3 := xs16b a
  have h4 := tB a
  have h5 := tD a
  have l1 := mA_lt ha
  have l2 := mB_lt a
  have l3 := mC_lt a
  have l4 := mD_lt a
  generalize mA a = A at *
  generalize mB a = B at *
  generalize mC a = C at *
  generalize mD a = D at *
  generalize mx a = M at *
  go_enter Tryz.func46, Tryz.ntmps46
  go_wp2_with fail
  go_ret
  exact ⟨rfl, rfl⟩

end Go.Proofs.YtgfjmkjgagogpaaGreat.Mi
