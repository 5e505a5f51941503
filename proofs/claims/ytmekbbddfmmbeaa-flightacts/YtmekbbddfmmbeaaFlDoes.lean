/-
  The law's own 'does', whatever the act: both tell the same.
  Conditions: none.
-/
import Derived.Test.YtmekbbddfmmbeaaFlDoesDrop
import Derived.Test.YtmekbbddfmmbeaaFlDoesHeal
import Derived.Test.YtmekbbddfmmbeaaFlDoesTwice
import Derived.Test.YtmekbbddfmmbeaaFlDoesPost
import Derived.Test.YtmekbbddfmmbeaaFlDoesPart
import Derived.Test.YtmekbbddfmmbeaaFlDoesDel
import Derived.Test.YtmekbbddfmmbeaaFlDoesClr
namespace Go.Proofs.Ytmekbbddfmmbeaa.Fl
open Go.RowKit By
set_option linter.unusedVariables false
set_option linter.unusedSimpArgs false
set_option maxRecDepth 100000

theorem does_any {w0 w : World} {p q k : Nat} (h : Both w0 w p q k) (hk : k ≤ 1000) (V : ActV) (hV : ActIn w0 V) :
    Calls Try.prog 9 #[.pointer (some ⟨p, 0, none⟩), .pointer (some ⟨q, 0, none⟩), .agg #[.int .i64 V.do_, .int .i64 V.a, .int .i64 V.b, .slice V.x V.n V.c]] w fun e w' => e = .returned (.bool true) ∧ Hid (Both w0 w' p q (k + 1)) := by
  obtain ⟨Do, A, Bb, X, n, c, d⟩ := V
  obtain ⟨hdo, wA, wB, hX, hn⟩ := hV
  obtain ⟨mb, nb, D, R, Rl, Rp, L, PP, h⟩ := h
  simp only at hdo wA wB hX hn ⊢
  have nat : ¬ A < 0 → ∃ j : Nat, A = (j : Int) := fun h => ⟨A.toNat, by omega⟩
  by_cases d1 : Do = 1
  · subst d1
    by_cases a0 : A < 0
    · exact does_deliver_neg h hk A Bb a0 X n c d hX hn
    · by_cases a1 : (L.length : Int) ≤ A
      · exact does_deliver_big h hk A Bb (by omega) a1 X n c d hX hn
      · obtain ⟨j, rfl⟩ := nat a0
        have hj : j < L.length := by omega
        have hm := List.getElem?_eq_getElem hj
        cases ht : prt PP (L[j]).fr (L[j]).to with
        | true => exact does_deliver_parted h hk j Bb _ hm ht X n c d hX hn
        | false => exact does_deliver_free h hk j Bb _ hm ht X n c d hX hn
  by_cases d2 : Do = 2
  · subst d2
    by_cases a0 : A < 0
    · exact does_drop_neg h hk A Bb a0 X n c d hX hn
    · by_cases a1 : (L.length : Int) ≤ A
      · exact does_drop_big h hk A Bb (by omega) a1 X n c d hX hn
      · obtain ⟨j, rfl⟩ := nat a0
        exact does_drop_yes h hk j Bb (by omega) X n c d hX hn
  by_cases d3 : Do = 3
  · subst d3
    by_cases a0 : A < 0
    · exact does_twice_neg h hk A Bb a0 X n c d hX hn
    · by_cases a1 : (L.length : Int) ≤ A
      · exact does_twice_big h hk A Bb (by omega) a1 X n c d hX hn
      · obtain ⟨j, rfl⟩ := nat a0
        have hj : j < L.length := by omega
        exact does_twice_yes h hk j Bb _ (List.getElem?_eq_getElem hj) X n c d hX hn
  by_cases d4 : Do = 4
  · subst d4
    by_cases a0 : A < 0
    · exact does_part_neg h hk A Bb a0 wA wB X n c d hX hn
    · exact does_part_pos h hk A Bb (by omega) wA wB X n c d hX hn
  by_cases d5 : Do = 5
  · subst d5
    by_cases a0 : A < 0
    · exact does_heal_neg h hk A Bb a0 X n c d hX hn
    · exact does_heal_pos h hk A Bb (by omega) X n c d hX hn
  by_cases d6 : Do = 6
  · subst d6
    by_cases a0 : A < 0
    · exact does_clear_neg h hk A Bb a0 X n c d hX hn
    · exact does_clear_pos h hk A Bb (by omega) X n c d hX hn
  have z : ∀ i : Int, Do ≠ i → (Do == i) = false := fun i h => by simpa using h
  by_cases a0 : A < 0
  · exact does_post_neg h hk Do (z 1 d1) (z 2 d2) (z 3 d3) (z 4 d4) (z 5 d5) (z 6 d6) A Bb a0 wA wB X n c d hX hn
  · exact does_post_pos h hk Do (z 1 d1) (z 2 d2) (z 3 d3) (z 4 d4) (z 5 d5) (z 6 d6) A Bb (by omega) wA wB X n c d hX hn

end Go.Proofs.Ytmekbbddfmmbeaa.Fl
