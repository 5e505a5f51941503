/-
  Package paxos: decode.
  Conditions: the bytes lie in memory.
-/
import Derived.Test.YtdbahebhodoooaaJ09
namespace Go.Proofs.Ytdbahebhodoooaa.Px
open Go.RowKit Wi By Fl Ba
set_option linter.unusedVariables false
set_option linter.unusedSimpArgs false
set_option maxRecDepth 100000

def noMs : Ms := ⟨0, 0, noAc, 0, []⟩

/- What is told of a message that was read: it lies in new memory. -/
structure MGot (w w' : World) (m : Ms) (x : Option Addr) (c : Nat) (y : Option Addr) (cy : Nat) : Prop where
  sl : Fl.Sl w' x m.st.d.length c m.st.d
  tb : ∀ a, x = some a → w.heap.size ≤ a.block ∧ Tb w' a.block 5
  own : OwnD w' w.heap.size (.slice y m.decs.length cy) m.decs

theorem rBy_len (t : Nat) (l : List Nat) (e : Nat) : (rBy (t : Int) l e).1.length ≤ t := by
  unfold rBy
  split
  · simp
  · split
    · simp
    · split
      · simp
      · simp only [List.length_take]
        have := rNum_le (t : Int) l e
        omega

theorem rDcs_len (n : Nat) : ∀ (k : Nat) (l : List Nat) (e : Nat), (rDcs n k l e).1.length ≤ k
  | 0, l, e => by simp [rDcs]
  | k + 1, l, e => by
    unfold rDcs
    split
    · have := rDcs_len n k (rDc n l e).2.1 (rDc n l e).2.2
      simp
      omega
    · simp

/- The nine cells of a message. -/
structure Nine (w : World) (g : Nat) (v : Nat → Value) : Prop where
  c : ∀ k, k < 9 → w.cell? ⟨g, k, none⟩ = some (v k)
  f : ∀ k, w.frozen? ⟨g, k, none⟩ = false

theorem Nine.keep {w w' : World} {g : Nat} {v : Nat → Value} {G : Nat → Prop} (h : Nine w g v) (t : Turns G w w') (hg : ¬ G g) : Nine w' g v :=
  ⟨fun k hk => keept t hg (h.c k hk), fun k => keeptf t hg (cell_lt' (h.c 0 (by omega))) (h.f k)⟩

theorem Nine.new (w : World) (t : TypeId) (v0 v1 v2 v3 v4 v5 v6 v7 v8 : Value) : Nine (w.alloc (.cells #[v0, v1, v2, v3, v4, v5, v6, v7, v8] t)) w.heap.size (fun k => if k = 0 then v0 else if k = 1 then v1 else if k = 2 then v2 else if k = 3 then v3 else if k = 4 then v4 else if k = 5 then v5 else if k = 6 then v6 else if k = 7 then v7 else v8) := by
  refine ⟨fun k hk => ?_, fun k => frozen_new _ _ _ k⟩
  match k, hk with
  | 0, _ => simp
  | 1, _ => simp
  | 2, _ => simp
  | 3, _ => simp
  | 4, _ => simp
  | 5, _ => simp
  | 6, _ => simp
  | 7, _ => simp
  | 8, _ => simp

end Go.Proofs.Ytdbahebhodoooaa.Px
