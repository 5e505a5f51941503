/-
  Which value is chosen: slices.IndexFunc at acceptors, valueOf, Chosen.
  Conditions: the list lies in memory.
-/
import Derived.Test.YtlfeafbpknbbfaaBaCount
import Derived.Maps.RangeWalk
namespace Go.Proofs.Ytlfeafbpknbbfaa.Ba
open Go.RowKit By Fl
set_option linter.unusedVariables false
set_option linter.unusedSimpArgs false
set_option maxRecDepth 100000

def eqb (a b : Bt) : Bool := decide (a.1 = b.1) && decide (a.2 = b.2)
theorem eqb_iff (a b : Bt) : eqb a b = true ↔ a = b := by
  unfold eqb
  simp only [Bool.and_eq_true, decide_eq_true_eq]
  exact ⟨fun h => bt_ext h.1 h.2, fun h => by rw [h]; exact ⟨rfl, rfl⟩⟩

theorem clos_any (w : World) (bx : Nat) (p a b : Bt) (x : Option Addr) (n c : Nat) (h0 : w.cell? ⟨bx, 0, none⟩ = some (.int .i64 b.1)) (h1 : w.cell? ⟨bx, 1, none⟩ = some (.int .i64 b.2)) :
    Calls Try.prog 29 #[ac p a x n c, .pointer (some ⟨bx, 0, none⟩)] w fun e w' => e = .returned (.bool (eqb a b)) ∧ Below w.heap.size w w' := by
  have hE := fun W => eq_bt a.1 a.2 b.1 b.2 W
  have e0 : (decide (a.1 = b.1) && decide (a.2 = b.2)) = eqb a b := rfl
  rw [e0] at hE
  clear e0
  generalize eqb a b = t at *
  obtain ⟨p1, p2⟩ := p
  obtain ⟨a1, a2⟩ := a
  obtain ⟨b1, b2⟩ := b
  dsimp only [ac] at *
  have hlt := cell_lt' h0
  have k0 := fun o => keep (al w o) h0
  have k1 := fun o => keep (al w o) h1
  go_enter Try.func29, Try.ntmps29
  go_wp2_with fail
  go_ret
  exact ⟨rfl, al _ _⟩

theorem index_any (x : Option Addr) (n c bx : Nat) (V : Nat → AccV) (b : Bt) (w : World) (h : Accs w x n V) (h0 : w.cell? ⟨bx, 0, none⟩ = some (.int .i64 b.1)) (h1 : w.cell? ⟨bx, 1, none⟩ = some (.int .i64 b.2)) :
    Calls Try.prog 28 #[.slice x n c, .func (.func 29) #[] #[.pointer (some ⟨bx, 0, none⟩)]] w fun e w' => ∃ r : Int, e = .returned (.int .i64 r) ∧
      Hid (Below w.heap.size w w' ∧ ((r = -1 ∧ ∀ j, j < n → (V j).a ≠ b) ∨ ∃ k : Nat, r = k ∧ k < n ∧ (V k).a = b)) := by
  have hsm := h.small
  have hm : n ≤ 1000 := hsm
  have HA : Hid (Accs w x n V) := h
  have HB : Hid (w.cell? ⟨bx, 0, none⟩ = some (.int .i64 b.1) ∧ w.cell? ⟨bx, 1, none⟩ = some (.int .i64 b.2)) := ⟨h0, h1⟩
  clear h h0 h1 hsm
  go_enter Try.func28, Try.ntmps28
  go_wp2_with fail
  go_loopw [8, 5] (fun i _ wr => ∃ k : Nat, k ≤ n ∧ i = .int .i64 k ∧ Hid (Below w.heap.size w wr ∧ ∀ j, j < k → (V j).a ≠ b)) (fun i _ _ => n - (intOf i).toNat)
  case atStart => exact ⟨0, by omega, rfl, Below.refl _ _, fun j hj => by omega⟩
  case round =>
    obtain ⟨k, hk, rfl, HR⟩ := hrel
    by_cases hlt : k < n
    · have hkn : (k : Int) < (n : Int) := by omega
      have hA := HA.out.below HR.out.1
      obtain ⟨g, o, rfl, hb, hc⟩ := hA.row.resolve_left (by omega)
      obtain ⟨c0, c1, c2, c3, c4⟩ := hc k hlt
      have hC := clos_any wr bx (V k).p (V k).a b (V k).x (V k).n (V k).c (keep HR.out.1 HB.out.1) (keep HR.out.1 HB.out.2)
      clear hA hc hb HA
      cases ht : eqb (V k).a b with
      | true =>
        rw [ht] at hC
        have HT : Hid ((V k).a = b) := (eqb_iff _ _).1 ht
        clear ht
        dsimp only [ac] at hC
        generalize (V k).p.1 = p1 at *
        generalize (V k).p.2 = p2 at *
        generalize (V k).a.1 = a1 at *
        generalize (V k).a.2 = a2 at *
        generalize (V k).x = vx at *
        generalize (V k).n = vn at *
        generalize (V k).c = vc at *
        go_wp2_with (go_at_call 29; refine hC.mono ?_; rintro e w2 ⟨rfl, hb2⟩; clear hC)
        go_ret
        exact ⟨k, rfl, on HR.out.1 hb2, .inr ⟨k, rfl, hlt, HT.out⟩⟩
      | false =>
        rw [ht] at hC
        have HT : Hid ((V k).a ≠ b) := fun e => by rw [(eqb_iff _ _).2 e] at ht; cases ht
        clear ht
        dsimp only [ac] at hC
        generalize (V k).p.1 = p1 at *
        generalize (V k).p.2 = p2 at *
        generalize (V k).a.1 = a1 at *
        generalize (V k).a.2 = a2 at *
        generalize (V k).x = vx at *
        generalize (V k).n = vn at *
        generalize (V k).c = vc at *
        go_wp2_with (go_at_call 29; refine hC.mono ?_; rintro e w2 ⟨rfl, hb2⟩; clear hC)
        go_roundw
        case rel =>
          refine ⟨k + 1, by omega, by go_num, on HR.out.1 hb2, fun j hj => ?_⟩
          by_cases hjk : j = k
          · subst hjk
            exact HT.out
          · exact HR.out.2 j (by omega)
        case measure => simp [intOf]; omega
    · have hk2 : k = n := by omega
      subst hk2
      go_wp2_with fail
      go_ret
      exact ⟨-1, rfl, HR.out.1, .inl ⟨rfl, HR.out.2⟩⟩

theorem valueOf_any (x : Option Addr) (n c : Nat) (V : Nat → AccV) (b : Bt) (w : World) (h : Accs w x n V) (hex : ∃ j, j < n ∧ (V j).a = b) :
    Calls Try.prog 27 #[.slice x n c, bt b] w fun e w' => ∃ (k : Nat) (y : Option Addr) (cy : Nat), e = .returned (.slice y (V k).n cy) ∧ Hid (k < n ∧ (V k).a = b ∧ Vl w w' y (V k).n cy (V k).d) := by
  have hI := index_any x n c w.heap.size V b (w.alloc (.cells #[.int .i64 b.1, .int .i64 b.2] 23)) (h.below (al _ _)) (by go_simp) (by go_simp)
  have HX : Hid (∃ j, j < n ∧ (V j).a = b) := hex
  have HA : Hid (Accs w x n V) := h
  have hnz : (n : Int) ≤ 1000 := by have := h.small; omega
  clear h hex
  dsimp only [bt]
  generalize b.1 = b1 at *
  generalize b.2 = b2 at *
  go_enter Try.func27, Try.ntmps27
  go_wp2_with (first
    | (
       go_at_call 28; refine hI.mono ?_; rintro e w1 ⟨r, rfl, H1⟩; clear hI
       obtain ⟨hb1, hr⟩ := H1.out
       have B1 := on (al _ _) hb1
       have hr2 : ∃ k : Nat, r = k ∧ k < n ∧ (V k).a = b := by
         rcases hr with ⟨_, hr⟩ | hr
         · obtain ⟨j, hj, e⟩ := HX.out
           exact absurd e (hr j hj)
         · exact hr
       clear hr H1 hb1
       obtain ⟨k, rfl, hk, hkb⟩ := hr2
       have hA := HA.out.below B1
       obtain ⟨g, o, rfl, hb, hc⟩ := hA.row.resolve_left (by omega)
       have c4 := (hc k hk).2.2.2.2
       have hC := clone_vl (V k).x (V k).n (V k).c (V k).d w1 (hA.val k hk).1 (hA.val k hk).2
       have hkn : (k : Int) < (n : Int) := by omega
       clear hA hc hb HX HA)
    | (
       go_at_call 24; refine hC.mono ?_; rintro e w2 ⟨y, cy, rfl, H2⟩; clear hC))
  go_ret
  exact ⟨k, y, cy, rfl, hk, hkb, on B1 H2.out.1, H2.out.2.1, fun a ha => ⟨Nat.le_trans B1.size (H2.out.2.2 a ha).1, (H2.out.2.2 a ha).2⟩⟩

end Go.Proofs.Ytlfeafbpknbbfaa.Ba
