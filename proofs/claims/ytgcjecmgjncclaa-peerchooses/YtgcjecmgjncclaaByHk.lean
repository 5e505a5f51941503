/-
  Operations of a region that is held, taken one by one: the laws of the library and of MxOrders, with what each row would say again said once.
  Conditions: none.
-/
import Derived.Test.YtgcjecmgjncclaaMxOrders
import Derived.Test.YtgcjecmgjncclaaRows
import Derived.WalkKit
import Derived.WalkSpells
import Derived.OrdersHeld
namespace Go.Proofs.Ytgcjecmgjncclaa.By
open Go.RowKit
set_option linter.unusedVariables false

theorem hk (i : Nat) {P : Program} {md : Region.Mode} {ops : Array Oper} {Q : Exit → Act → World → Prop} {S : World → Prop} {oi : Oper} {v : Value} {fuel : Nat} {listed l' : Array Bool} {a a' : Act} {w : World}
    (h : wpAnyH P md ops Q S fuel l' a' w)
    (hi : ops[i]? = some oi := by exact rfl) (hs : Region.noSelect ops = true := by kernel_rfl) (hf : Region.free md ops listed i = true := by kernel_rfl) (hr : (Region.ready md ops listed).contains i = true := by kernel_rfl)
    (hQ : ∀ c a w, Q (.panic c) (a.put oi.dst v) w → Q (.panic c) a w := by exact fun _ _ _ h => h) (hg : Region.wanted oi (yielded ops a.tmps) = true := by rfl)
    (hy : ∀ w, S w → (execOp a.eval oi).run P w = .ok (.value v) w := by (intro w hSw; (try dsimp only at hSw); go_simp; (try with_reducible rfl))) (hS : S w := by assumption)
    (hl : listed.setIfInBounds i true = l' := by ((try simp only [List.setIfInBounds_toArray, List.set_cons_zero, List.set_cons_succ]); (try exact rfl)))
    (ha : a.put oi.dst v = a' := by ((try simp only [Act.put, List.getElem_toArray, List.getElem_cons_succ, List.getElem_cons_zero, List.setIfInBounds_toArray, List.set_cons_zero, List.set_cons_succ]); (try exact rfl))) :
    wpAnyH P md ops Q S (fuel + 1) listed a w := by
  subst hl
  subst ha
  exact wpAnyH_take hi hs hf hr hQ (.inl ⟨hg, hy⟩) hS h

theorem lk (i : Nat) {P : Program} {md : Region.Mode} {ops : Array Oper} {Q : Exit → Act → World → Prop} {S : World → Prop} {oi : Oper} {v : Value} {l fuel : Nat} {listed l' : Array Bool} {a a' : Act} {w : World}
    (h : wpAnyL P md ops Q S l fuel l' a' w)
    (hi : ops[i]? = some oi := by exact rfl) (hs : Region.noSelect ops = true := by kernel_rfl) (hf : Region.free md ops listed i = true := by kernel_rfl) (hr : (Region.ready md ops listed).contains i = true := by kernel_rfl) (hwait : waits md ops l i = true := by kernel_rfl)
    (hQ : ∀ c a w, Q (.panic c) (a.put oi.dst v) w → Q (.panic c) a w := by exact fun _ _ _ h => h) (hg : Region.wanted oi (yielded ops a.tmps) = true := by rfl)
    (hy : ∀ w, S w → (execOp a.eval oi).run P w = .ok (.value v) w := by (intro w hSw; (try dsimp only at hSw); go_simp; (try with_reducible rfl))) (hS : S w := by assumption)
    (hl : listed.setIfInBounds i true = l' := by ((try simp only [List.setIfInBounds_toArray, List.set_cons_zero, List.set_cons_succ]); (try exact rfl)))
    (ha : a.put oi.dst v = a' := by ((try simp only [Act.put, List.getElem_toArray, List.getElem_cons_succ, List.getElem_cons_zero, List.setIfInBounds_toArray, List.set_cons_zero, List.set_cons_succ]); (try exact rfl))) :
    wpAnyL P md ops Q S l (fuel + 1) listed a w := by
  subst hl
  subst ha
  exact wpAnyL_take hi hs hf hr hwait hQ hS (.inl ⟨hg, hy⟩) h

end Go.Proofs.Ytgcjecmgjncclaa.By
