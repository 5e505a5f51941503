/-
  What Identity and Rank of package matrix do: contracts over plain numbers.
  Conditions: rows that are looked at lie in memory.
-/
import Derived.Test.YtmlaloadeeohbaaMxRowsOf
import Derived.Test.YtmlaloadeeohbaaMxRefId
namespace Go.Proofs.Ytmlaloadeeohbaa
open Go.RowKit Gf
set_option linter.unusedVariables false

theorem id_step {base : Nat} {wr : World} {b n k : Nat} {G C : Nat → Nat} (h : Own base wr b n n G C (rowsTo delta k)) (hk : k < n) : Own base (wr.setCell ⟨G k, k, none⟩ (.int .u8 1)) b n n G C (rowsTo delta (k + 1)) := by
  refine (h.store hk hk (v := 1) (by omega)).congr (fun s hs j hj => ?_) (rowsTo_lt delta_lt _)
  unfold rowsTo delta
  by_cases e : s = k
  · subst e
    by_cases e2 : j = s
    · subst e2; simp
    · have e3 : ¬ s = j := fun h => e2 h.symm
      simp [e2, e3]
  · by_cases hlt : s < k
    · have : s < k + 1 := by omega
      simp [e, hlt, this]
    · have : ¬ s < k + 1 := by omega
      simp [e, hlt, this]

end Go.Proofs.Ytmlaloadeeohbaa
