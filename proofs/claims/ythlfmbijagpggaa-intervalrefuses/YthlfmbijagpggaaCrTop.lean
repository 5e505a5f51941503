/-
  Package crush: Descend and Room.
  Conditions: the map lies in memory.
-/
import Derived.Test.YthlfmbijagpggaaJCrSort
import Derived.Test.YthlfmbijagpggaaCrDesc
import Derived.Test.YthlfmbijagpggaaJCrComp
import Derived.Test.YthlfmbijagpggaaAtMay
namespace Go.Proofs.Ythlfmbijagpggaa.Cr
open Go.RowKit Go.Shelf By Fl At
open Sr (Wd Ws enW)
set_option linter.unusedVariables false
set_option linter.unusedSimpArgs false
set_option maxRecDepth 100000

theorem may_facts {m : Mp} (h : mayM m = true) : m.osds.length ≤ 64 ∧ At.Good m.osds ∧ WB m.osds := by
  unfold mayM osdsB at h
  simp only [Bool.and_eq_true, decide_eq_true_eq] at h
  have hg := (goodB_iff m.osds).1 h.2.2
  refine ⟨h.2.1, hg, fun o ho => ?_⟩
  obtain ⟨i, hi⟩ := List.mem_iff_getElem?.1 ho
  have := (hg i o hi).1
  unfold osdB at this
  simp only [Bool.and_eq_true, wi_iff] at this
  unfold wO
  split <;> omega

def desP (m : Mp) (x r : Nat) : Int := if mayM m = true then idP (dsc m.osds x r) else -1
def roomP (m : Mp) (z : Int) : Int := if mayM m = true ∧ domB z = true then (rm (z + 1).toNat m.osds : Nat) else 0

end Go.Proofs.Ythlfmbijagpggaa.Cr
