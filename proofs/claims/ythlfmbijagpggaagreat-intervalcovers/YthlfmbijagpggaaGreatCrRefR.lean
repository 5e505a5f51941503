/-
  The document's Descend and Room; lists of int compared.
  Conditions: the map lies in memory; numbers of 32 bits.
-/
import Derived.Test.YthlfmbijagpggaaGreatByHk
import Derived.Test.YthlfmbijagpggaaGreatCrRefD
import Derived.Test.YthlfmbijagpggaaGreatCrTop
import Derived.Test.YthlfmbijagpggaaGreatAtRefMay
namespace Go.Proofs.YthlfmbijagpggaaGreat.Cr
open Go.RowKit By Fl At
open Sr (Wd Ws enW)
set_option linter.unusedVariables false
set_option linter.unusedSimpArgs false
set_option maxRecDepth 100000

theorem rm_eq (d : Nat) (L : List Osd) : rm d L = ((wg d L).filter okW).length := by
  unfold rm pos
  rw [List.length_map]

def eqI (a b : List Int) : Bool := decide (a = b)
set_option maxHeartbeats 1600000 in
theorem ints_any {w : World} {x : Option Addr} {n c : Nat} {l : List Int} {x2 : Option Addr} {n2 c2 : Nat} {l2 : List Int} (h : Nu w x n c l) (h2 : Nu w x2 n2 c2 l2) (hn : n ≤ 1000) :
    Calls Tryz.prog 13 #[.slice x n c, .slice x2 n2 c2] w fun e w' => e = .returned (.bool (decide (l = l2))) ∧ Below w.heap.size w w' := by
  have HL := hid (And.intro h.len h2.len)
  have H1 := hid h
  have H2 := hid h2
  clear h h2
  by_cases hne : n = n2
  · subst hne
    go_enter Tryz.func13, Tryz.ntmps13
    go_wp2_with fail
    go_loopw [5] (fun i wr => ∃ k : Nat, k ≤ n ∧ i = .int .i64 k ∧ Hid (Below w.heap.size w wr ∧ l.take k = l2.take k)) (fun i _ => n - (intOf i).toNat)
    case atStart => exact ⟨0, by omega, rfl, Below.refl _ _, rfl⟩
    case round =>
      obtain ⟨k, hk, rfl, HR⟩ := hrel
      by_cases hlt : k < n
      · have hkn : (k : Int) < (n : Int) := by omega
        obtain ⟨a, ha⟩ : ∃ a, l[k]? = some a := ⟨l[k]'(by have := HL.out.1; omega), List.getElem?_eq_getElem (by have := HL.out.1; omega)⟩
        obtain ⟨b, hb⟩ : ∃ b, l2[k]? = some b := ⟨l2[k]'(by have := HL.out.2; omega), List.getElem?_eq_getElem (by have := HL.out.2; omega)⟩
        rcases (H1.out.below HR.out.1).row with q0 | ⟨g, o, rfl, hg, hgc⟩
        · omega
        rcases (H2.out.below HR.out.1).row with q0 | ⟨g2, o2, rfl, hg2, hgc2⟩
        · omega
        have p0 := After.cell (hgc k a ha)
        have p1 := After.cell (hgc2 k b hb)
        haveI := After.ne wr
        have HE := hid (And.intro ha hb)
        clear ha hb hgc hgc2
        by_cases hab : a = b
        · have e1 : (a != b) = false := by simpa using hab
          have HA := hid hab
          clear hab
          go_wp2_with fail
          refine wp_region_after (by kernel_rfl) (by kernel_rfl) ?_
          repeat (go_big_quiet_step (fail))
          refine wpQuiet_nil ?_
          rintro _ ⟨P, rfl⟩
          go_wp2_with fail
          go_roundw
          case rel =>
            refine ⟨k + 1, by omega, by go_num, on HR.out.1 P.h, ?_⟩
            rw [List.take_add_one, List.take_add_one, HR.out.2, HE.out.1, HE.out.2, HA.out]
          case measure => simp [intOf]; omega
        · have e1 : (a != b) = true := by simpa using hab
          have HA := hid hab
          clear hab
          go_wp2_with fail
          refine wp_region_after (by kernel_rfl) (by kernel_rfl) ?_
          repeat (go_big_quiet_step (fail))
          refine wpQuiet_nil ?_
          rintro _ ⟨P, rfl⟩
          go_wp2_with fail
          go_ret
          refine ⟨?_, on HR.out.1 P.h⟩
          rw [decide_eq_false fun e => HA.out (Option.some.inj (by rw [← HE.out.1, ← HE.out.2, e]))]
          rfl
      · have hk2 : k = n := by omega
        subst hk2
        go_wp2_with fail
        go_ret
        refine ⟨?_, HR.out.1⟩
        have e1 := HR.out.2
        rw [List.take_of_length_le (by have := HL.out.1; omega), List.take_of_length_le (by have := HL.out.2; omega)] at e1
        rw [decide_eq_true e1]
        rfl
  · have e1 : ((n : Int) != (n2 : Int)) = true := by simp; omega
    have HN := hid hne
    clear hne
    go_enter Tryz.func13, Tryz.ntmps13
    go_wp2_with fail
    go_ret
    refine ⟨?_, Below.refl _ _⟩
    rw [decide_eq_false fun e => HN.out (by rw [← HL.out.1, ← HL.out.2, e])]
    rfl

end Go.Proofs.YthlfmbijagpggaaGreat.Cr
