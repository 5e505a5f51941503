/-
  Two facts of a list of OSDs that may be: no number is below 0, and how much a level's numbers weigh at most.
  Conditions: none. Nothing here names the program.
-/
import Derived.Test.YthlfmbijagpggaaCrGrow
namespace Go.Proofs.Ythlfmbijagpggaa.Cr
open Go.RowKit By Fl At
open Sr (Wd Ws enW copy_big own_turn)
set_option linter.unusedVariables false
set_option linter.unusedSimpArgs false
set_option maxRecDepth 100000

theorem id_nn {L : List Osd} (h : At.Good L) {o : Osd} (ho : o ∈ L) : 0 ≤ o.id := by
  obtain ⟨i, hi⟩ := List.mem_iff_getElem?.1 ho
  have := (h i o hi).1
  unfold osdB at this
  simp only [Bool.and_eq_true, wi_iff] at this
  omega

theorem wt_le {d : Nat} {L : List Osd} {a : Wd} (hB : WB L) (hl : L.length ≤ 64) (h : a ∈ wg d L) : 0 ≤ a.wt ∧ a.wt ≤ 1073741824 := by
  rw [wg_wt h]
  have h1 := sum_le (L := sub L d a.id) (fun o ho => hB o (mem_sub.1 ho).1)
  have h2 : (sub L d a.id).length ≤ L.length := List.length_filter_le _ _
  omega

end Go.Proofs.Ythlfmbijagpggaa.Cr
