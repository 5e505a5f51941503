/-
  A weight as far as one draws; who is chosen stays so, if its weight grows.
  Conditions: none.
-/
import Derived.Test.YthchbbebconojaaSrTurn
import Derived.Test.YthchbbebconojaaSrQuiet
namespace Go.Proofs.Ythchbbebconojaa.Sr
open Go.RowKit By Fl Mi
set_option linter.unusedVariables false
set_option linter.unusedSimpArgs false
set_option maxRecDepth 100000

def wv (a : Wd) : Int := if okB a = true then a.wt else 0

theorem weight_any (a : Wd) (w : World) : Calls Try.prog 14 #[vW a] w fun e w' => e = .returned (.int .i64 (wv a)) ∧ Below w.heap.size w w' := by
  obtain ⟨id, wt⟩ := a
  unfold vW
  dsimp only
  have b0 := al w (.cells #[.int .i64 id, .int .i64 wt] 23)
  have no : ¬ (1 ≤ wt ∧ wt ≤ 1073741824) → wv ⟨id, wt⟩ = 0 := fun h => if_neg (by unfold okB; simpa using h)
  have yes : 1 ≤ wt ∧ wt ≤ 1073741824 → wv ⟨id, wt⟩ = wt := fun h => if_pos (decide_eq_true h)
  by_cases h1 : wt < 1
  · rw [no (by omega)]
    clear no yes
    go_enter Try.func14, Try.ntmps14
    go_wp2_with fail
    go_ret
    exact ⟨rfl, b0⟩
  · by_cases h2 : wt ≤ 1073741824
    · have h3 : 1 ≤ wt := by omega
      rw [yes ⟨h3, h2⟩]
      clear no yes h1
      go_enter Try.func14, Try.ntmps14
      go_wp2_with fail
      go_ret
      exact ⟨rfl, b0⟩
    · have h3 : 1 ≤ wt := by omega
      have h4 : 1073741824 < wt := by omega
      rw [no (by omega)]
      clear no yes h1 h2
      go_enter Try.func14, Try.ntmps14
      go_wp2_with fail
      go_ret
      exact ⟨rfl, b0⟩

/- D and E are alike but at i, where one weighs no less: who is chosen stays so. -/
theorem stays {y r n i : Nat} {D E : Nat → Option Nat} {a b : Wd} (h : ∀ k, k ≠ i → D k = E k) (ha : D i = dO y r a) (hb : E i = dO y r b) (hid : a.id = b.id) (hw : wv a ≤ wv b) (hc : cho D n = (i : Int)) : cho E n = (i : Int) := by
  refine grows h hc ?_
  obtain ⟨d, _, h2, _⟩ := cho_out hc
  rw [ha] at h2
  unfold dO at h2
  split at h2
  · rename_i ok
    have w1 : wv a = a.wt := if_pos ok
    have k1 : 1 ≤ a.wt ∧ a.wt ≤ 1073741824 := of_decide_eq_true ok
    have okb : okB b = true := by
      by_cases e : okB b = true
      · exact e
      · have : wv b = 0 := if_neg e
        omega
    have w2 : wv b = b.wt := if_pos okb
    refine ⟨dr y r b, by rw [hb]; exact if_pos okb, fun d' hd => ?_⟩
    rw [ha, dO, if_pos ok] at hd
    injection hd with hd
    rw [← hd]
    exact dr_mono y r hid k1.1 (by omega)
  · cases h2

end Go.Proofs.Ythchbbebconojaa.Sr
