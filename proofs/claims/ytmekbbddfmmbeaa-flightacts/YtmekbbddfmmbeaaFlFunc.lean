/-
  slices.IndexFunc and slices.DeleteFunc at messages, with what Clear asks of each; Clear.
  Conditions: the row is one's own.
-/
import Derived.Test.YtmekbbddfmmbeaaFlDrop
namespace Go.Proofs.Ytmekbbddfmmbeaa.Fl
open Go.RowKit By
set_option linter.unusedVariables false
set_option linter.unusedSimpArgs false
set_option maxRecDepth 100000

theorem clos_any (w : World) (bx : Nat) (f t node : Int) (x : Option Addr) (n c : Nat) (hb : w.cell? ⟨bx, 0, none⟩ = some (.int .i64 node)) :
    Calls Try.prog 30 #[.agg #[.int .i64 f, .int .i64 t, .slice x n c], .pointer (some ⟨bx, 0, none⟩)] w fun e w' => e = .returned (.bool (t == node)) ∧ Below w.heap.size w w' := by
  have hlt := cell_lt' hb
  have hb1 : (w.alloc (.cells #[.int .i64 f, .int .i64 t, .slice x n c] 62)).cell? ⟨bx, 0, none⟩ = some (.int .i64 node) := by
    rw [← hb]
    exact World.cell?_of_block (a := ⟨bx, 0, none⟩) (heap_alloc_old _ _ hlt)
  go_enter Try.func30, Try.ntmps30
  go_wp2_with fail
  go_ret
  exact ⟨rfl, (Below.refl _ _).alloc (Nat.le_refl _) _⟩

section
variable {w : World} {B : Nat} {L : List MV}

theorem index_any {g n c bx : Nat} (node : Int) (h : Own w B 62 3 encM (.slice (some ⟨g, 0, none⟩) n c) L) (hb : w.cell? ⟨bx, 0, none⟩ = some (.int .i64 node)) :
    Calls Try.prog 31 #[.slice (some ⟨g, 0, none⟩) n c, .func (.func 30) #[] #[.pointer (some ⟨bx, 0, none⟩)]] w fun e w' => ∃ r : Int, e = .returned (.int .i64 r) ∧
      Hid (Below w.heap.size w w' ∧ ((r = -1 ∧ ∀ (j : Nat) (m : MV), L[j]? = some m → (m.to == node) = false) ∨ ∃ k, r = (k : Nat) ∧ k < n ∧ (∀ m : MV, L[k]? = some m → (m.to == node) = true) ∧ ∀ (j : Nat) (m : MV), j < k → L[j]? = some m → (m.to == node) = false)) := by
  obtain ⟨hL, _, hnc, hcm, _⟩ := h.heap
  have hm : n ≤ 9223372036854775807 := by unfold maxLen at hcm; omega
  have HO : Hid (Own w B 62 3 encM (.slice (some ⟨g, 0, none⟩) n c) L) := h
  have HB : Hid (w.cell? ⟨bx, 0, none⟩ = some (.int .i64 node)) := hb
  clear h hb hcm
  go_enter Try.func31, Try.ntmps31
  go_wp2_with fail
  go_loopw [8, 5] (fun i _ wr => ∃ k : Nat, k ≤ n ∧ i = .int .i64 k ∧ Hid (Below w.heap.size w wr ∧ ∀ (j : Nat) (m : MV), j < k → L[j]? = some m → (m.to == node) = false)) (fun i _ _ => n - (intOf i).toNat)
  case atStart => exact ⟨0, by omega, rfl, Below.refl _ _, fun j m hj => by omega⟩
  case round =>
    obtain ⟨k, hk, rfl, HR⟩ := hrel
    by_cases hlt : k < n
    · have hkn : (k : Int) < (n : Int) := by omega
      obtain ⟨m, hLm⟩ : ∃ m, L[k]? = some m := ⟨L[k]'(by omega), List.getElem?_eq_getElem (by omega)⟩
      have ho := HO.out.below HR.out.1
      have k0 := ho.cell mrow.len hLm (j := 0) (v := .int .i64 m.fr) rfl
      rw [Nat.add_zero] at k0
      have k1 := ho.cell mrow.len hLm (j := 1) (v := .int .i64 m.to) rfl
      have k2 := ho.cell mrow.len hLm (j := 2) (v := .slice m.x m.n m.c) rfl
      have hc := clos_any wr bx m.fr m.to node m.x m.n m.c ((HR.out.1.cell (p := ⟨bx, 0, none⟩) (cell_lt' HB.out)).trans HB.out)
      have HM : Hid (L[k]? = some m) := hLm
      clear hLm ho
      cases ht : (m.to == node) with
      | true =>
        rw [ht] at hc
        have HT : Hid ((m.to == node) = true) := ht
        clear ht
        generalize m.fr = f at k0 hc
        generalize m.x = x at k2 hc
        generalize m.n = mn at k2 hc
        generalize m.c = mc at k2 hc
        have HT2 : Hid (∀ m' : MV, L[k]? = some m' → (m'.to == node) = true) := fun m' e => by
          have := HM.out
          rw [e] at this
          injection this with this
          rw [this]
          exact HT.out
        clear HT HM
        generalize m.to = t at k1 hc
        go_wp2_with (go_at_call 30; refine hc.mono ?_; rintro e w2 ⟨rfl, hb2⟩; clear hc)
        go_ret
        exact ⟨k, rfl, HR.out.1.trans (hb2.mono HR.out.1.size), .inr ⟨k, rfl, hlt, HT2.out, HR.out.2⟩⟩
      | false =>
        rw [ht] at hc
        have HT2 : Hid (∀ m' : MV, L[k]? = some m' → (m'.to == node) = false) := fun m' e => by
          have := HM.out
          rw [e] at this
          injection this with this
          rw [this]
          exact ht
        clear ht HM
        generalize m.fr = f at k0 hc
        generalize m.x = x at k2 hc
        generalize m.n = mn at k2 hc
        generalize m.c = mc at k2 hc
        generalize m.to = t at k1 hc
        go_wp2_with (go_at_call 30; refine hc.mono ?_; rintro e w2 ⟨rfl, hb2⟩; clear hc)
        go_roundw
        case rel =>
          refine ⟨k + 1, by omega, by go_num, HR.out.1.trans (hb2.mono HR.out.1.size), fun j m' hj e => ?_⟩
          by_cases hjk : j = k
          · subst hjk
            exact HT2.out m' e
          · exact HR.out.2 j m' (by omega) e
        case measure => simp [intOf]; omega
    · have hk2 : k = n := by omega
      subst hk2
      go_wp2_with fail
      go_ret
      refine ⟨-1, rfl, HR.out.1, .inl ⟨rfl, fun j m e => HR.out.2 j m ?_ e⟩⟩
      have := (List.getElem?_eq_some_iff.1 e).1
      omega

end

end Go.Proofs.Ytmekbbddfmmbeaa.Fl
