/-
  The document's place, Find and MayChange.
  Conditions: lists lie in memory.
-/
import Derived.Test.YthlfmbijagpggaaGreatJAtSmall
namespace Go.Proofs.YthlfmbijagpggaaGreat.At
open Go.RowKit By Fl
set_option linter.unusedVariables false
set_option linter.unusedSimpArgs false
set_option maxRecDepth 100000

theorem place_any {w : World} {x : Option Addr} {n c : Nat} (m : Mp) (id : Int) (h : Os w x n c m.osds) :
    Calls Tryz.prog 26 #[vM m.ep m.pool x n c, .int .i64 id] w fun e w' => e = .returned (.int .i64 (idx (isId id) m.osds)) ∧ Below w.heap.size w w' := by
  obtain ⟨ep, ⟨k, mm, g, d⟩, L⟩ := m
  unfold vM
  dsimp only at h ⊢
  have hm := h.small
  have b0 := al w (.cells #[.int .i64 ep, .int .i64 k, .int .i64 mm, .int .i64 g, .int .i64 d, .slice x n c] 49)
  have HO := hid (h.below b0)
  have HL := hid h.len
  have HB := hid b0
  have k5 : (w.alloc (.cells #[.int .i64 ep, .int .i64 k, .int .i64 mm, .int .i64 g, .int .i64 d, .slice x n c] 49)).cell? ⟨w.heap.size, 5, none⟩ = some (.slice x n c) := by go_simp
  clear h b0
  go_enter Tryz.func26, Tryz.ntmps26
  go_wp2_with fail
  generalize w.alloc (.cells #[.int .i64 ep, .int .i64 k, .int .i64 mm, .int .i64 g, .int .i64 d, .slice x n c] 49) = w0 at *
  go_loopw [5] (fun i wr => ∃ q : Nat, q ≤ n ∧ i = .int .i64 q ∧ wr = w0 ∧ Hid (∀ (j : Nat) (b : Osd), j < q → L[j]? = some b → isId id b = false)) (fun i _ => n - (intOf i).toNat)
  case atStart => exact ⟨0, by omega, rfl, rfl, fun j b hj => by omega⟩
  case round =>
    obtain ⟨q, hq, rfl, rfl, HR⟩ := hrel
    by_cases hlt : q < n
    · have hqn : (q : Int) < (n : Int) := by omega
      obtain ⟨a, ha⟩ : ∃ a, L[q]? = some a := ⟨L[q]'(by have := HL.out; omega), List.getElem?_eq_getElem (by have := HL.out; omega)⟩
      rcases HO.out.row with h0 | ⟨b, o, rfl, hbl, hcell⟩
      · omega
      have c0 := (Os.at (n := n) (c := c) hcell ha).1
      have HA := hid ha
      clear hcell ha
      obtain ⟨ai, hai⟩ : ∃ i, i = a.id := ⟨_, rfl⟩
      rw [← hai] at c0
      have HI := hid hai
      clear hai
      by_cases he : ai = id
      · subst he
        go_wp2_with fail
        go_ret
        refine ⟨?_, HB.out⟩
        unfold idx
        rw [idx_hit HA.out (by unfold isId; rw [← HI.out]; simp) HR.out]
        rfl
      · have hne : ai ≠ id := he
        go_wp2_with fail
        go_roundw
        case rel =>
          refine ⟨q + 1, by omega, by go_num, trivial, fun j b hj hb => ?_⟩
          by_cases hjq : j = q
          · subst hjq
            have := Option.some.inj (HA.out.symm.trans hb)
            subst this
            unfold isId
            rw [← HI.out]
            simp [he]
          · exact HR.out j b (by omega) hb
        case measure => simp [intOf]; omega
    · have hq2 : q = n := by omega
      subst hq2
      go_wp2_with fail
      go_ret
      refine ⟨?_, HB.out⟩
      unfold idx
      rw [idx_miss fun j b hb => HR.out j b (by
        have := (List.getElem?_eq_some_iff.1 hb).1
        have := HL.out
        omega) hb]
      rfl

theorem rfind_any {w : World} {x : Option Addr} {n c : Nat} (m : Mp) (id : Int) (h : Os w x n c m.osds) :
    Calls Tryz.prog 34 #[vM m.ep m.pool x n c, .int .i64 id] w fun e w' => e = .returned (.tuple #[vO (findP m.osds id).1, .bool (findP m.osds id).2]) ∧ Below w.heap.size w w' := by
  obtain ⟨ep, ⟨k, mm, g, d⟩, L⟩ := m
  have HO := hid h
  dsimp only at HO ⊢
  unfold vM
  dsimp only
  have b0 : Below w.heap.size w ((w.alloc (.cells #[.int .i64 ep, .int .i64 k, .int .i64 mm, .int .i64 g, .int .i64 d, .slice x n c] 49)).alloc (.cells #[.int .i64 0, .bool false, .bool false, .int .i64 0, .int .i64 0, .int .i64 0, .int .i64 0, .int .i64 0] 53)) := on (al _ _) (al _ _)
  have hS := place_any ⟨ep, ⟨k, mm, g, d⟩, L⟩ id (HO.out.below b0)
  unfold vM at hS
  dsimp only at hS
  have HB := hid b0
  have hsm := h.small
  clear h b0
  cases hi : L.findIdx? (isId id) with
  | none =>
    rw [show idx (isId id) L = -1 by unfold idx; rw [hi]] at hS
    have HF : Hid (findP L id = (noO 0, false)) := hid (by unfold findP; rw [hi])
    clear hi
    go_enter Tryz.func34, Tryz.ntmps34
    go_wp2_with (first
      | (
         go_at_call 26; refine hS.mono ?_; rintro e w1 ⟨rfl, hb1⟩; clear hS
         have k0 := keep hb1 (b := w.heap.size + 1) (o := 0) (x := .int .i64 0) (by first | assumption | go_simp)
         have k1 := keep hb1 (b := w.heap.size + 1) (o := 1) (x := .bool false) (by first | assumption | go_simp)
         have k2 := keep hb1 (b := w.heap.size + 1) (o := 2) (x := .bool false) (by first | assumption | go_simp)
         have k3 := keep hb1 (b := w.heap.size + 1) (o := 3) (x := .int .i64 0) (by first | assumption | go_simp)
         have k4 := keep hb1 (b := w.heap.size + 1) (o := 4) (x := .int .i64 0) (by first | assumption | go_simp)
         have k5 := keep hb1 (b := w.heap.size + 1) (o := 5) (x := .int .i64 0) (by first | assumption | go_simp)
         have k6 := keep hb1 (b := w.heap.size + 1) (o := 6) (x := .int .i64 0) (by first | assumption | go_simp)
         have k7 := keep hb1 (b := w.heap.size + 1) (o := 7) (x := .int .i64 0) (by first | assumption | go_simp)
         have f0 := keepf hb1 (b := w.heap.size + 1) (o := 0) (by first | (simp <;> omega) | exact cell_lt' (a := ⟨w.heap.size + 1, 0, none⟩) (by assumption) | (simp; exact cell_lt' (a := ⟨w.heap.size + 1, 0, none⟩) (by assumption))) (by first | assumption | go_simp)
         have f1 := keepf hb1 (b := w.heap.size + 1) (o := 1) (by first | (simp <;> omega) | exact cell_lt' (a := ⟨w.heap.size + 1, 1, none⟩) (by assumption) | (simp; exact cell_lt' (a := ⟨w.heap.size + 1, 1, none⟩) (by assumption))) (by first | assumption | go_simp)
         have f2 := keepf hb1 (b := w.heap.size + 1) (o := 2) (by first | (simp <;> omega) | exact cell_lt' (a := ⟨w.heap.size + 1, 2, none⟩) (by assumption) | (simp; exact cell_lt' (a := ⟨w.heap.size + 1, 2, none⟩) (by assumption))) (by first | assumption | go_simp)
         have f3 := keepf hb1 (b := w.heap.size + 1) (o := 3) (by first | (simp <;> omega) | exact cell_lt' (a := ⟨w.heap.size + 1, 3, none⟩) (by assumption) | (simp; exact cell_lt' (a := ⟨w.heap.size + 1, 3, none⟩) (by assumption))) (by first | assumption | go_simp)
         have f4 := keepf hb1 (b := w.heap.size + 1) (o := 4) (by first | (simp <;> omega) | exact cell_lt' (a := ⟨w.heap.size + 1, 4, none⟩) (by assumption) | (simp; exact cell_lt' (a := ⟨w.heap.size + 1, 4, none⟩) (by assumption))) (by first | assumption | go_simp)
         have f5 := keepf hb1 (b := w.heap.size + 1) (o := 5) (by first | (simp <;> omega) | exact cell_lt' (a := ⟨w.heap.size + 1, 5, none⟩) (by assumption) | (simp; exact cell_lt' (a := ⟨w.heap.size + 1, 5, none⟩) (by assumption))) (by first | assumption | go_simp)
         have f6 := keepf hb1 (b := w.heap.size + 1) (o := 6) (by first | (simp <;> omega) | exact cell_lt' (a := ⟨w.heap.size + 1, 6, none⟩) (by assumption) | (simp; exact cell_lt' (a := ⟨w.heap.size + 1, 6, none⟩) (by assumption))) (by first | assumption | go_simp)
         have f7 := keepf hb1 (b := w.heap.size + 1) (o := 7) (by first | (simp <;> omega) | exact cell_lt' (a := ⟨w.heap.size + 1, 7, none⟩) (by assumption) | (simp; exact cell_lt' (a := ⟨w.heap.size + 1, 7, none⟩) (by assumption))) (by first | assumption | go_simp)
         have B1 := on HB.out hb1; clear hb1))
    refine bodyPost_ret (v := .tuple #[vO (noO 0), .bool false]) ?_ rfl ?_
    · rw [results_cell2 rfl]
      unfold vO noO
      go_simp
    · rw [HF.out]
      refine ⟨rfl, ?_⟩
      repeat (first | with_reducible exact B1 | (with_reducible refine Below.setCell ?_ (by first | (simp; done) | (simp; omega) | omega) _) | (with_reducible refine Below.alloc ?_ (by first | (simp; done) | (simp; omega) | omega) _))
  | some q =>
    obtain ⟨a, ha, _, _⟩ := idx_some hi
    rw [show idx (isId id) L = (q : Int) by unfold idx; rw [hi]] at hS
    have HF : Hid (findP L id = (a, true)) := hid (by unfold findP; rw [hi]; simp [List.getD, ha])
    have HA := hid ha
    have hqn : q < n := by rw [← HO.out.len]; exact (List.getElem?_eq_some_iff.1 ha).1
    have hq0 : ¬ (q : Int) < 0 := by omega
    have hqI : (q : Int) < (n : Int) := by omega
    rcases HO.out.row with h0 | ⟨b, o, rfl, hbl, hcell⟩
    · omega
    have HC := hid hcell
    clear hi ha hcell
    obtain ⟨a0, a1, a2, a3, a4, a5, a6, a7⟩ := a
    go_enter Tryz.func34, Tryz.ntmps34
    go_wp2_with (first
      | (
         go_at_call 26; refine hS.mono ?_; rintro e w1 ⟨rfl, hb1⟩; clear hS
         have k0 := keep hb1 (b := w.heap.size + 1) (o := 0) (x := .int .i64 0) (by first | assumption | go_simp)
         have k1 := keep hb1 (b := w.heap.size + 1) (o := 1) (x := .bool false) (by first | assumption | go_simp)
         have k2 := keep hb1 (b := w.heap.size + 1) (o := 2) (x := .bool false) (by first | assumption | go_simp)
         have k3 := keep hb1 (b := w.heap.size + 1) (o := 3) (x := .int .i64 0) (by first | assumption | go_simp)
         have k4 := keep hb1 (b := w.heap.size + 1) (o := 4) (x := .int .i64 0) (by first | assumption | go_simp)
         have k5 := keep hb1 (b := w.heap.size + 1) (o := 5) (x := .int .i64 0) (by first | assumption | go_simp)
         have k6 := keep hb1 (b := w.heap.size + 1) (o := 6) (x := .int .i64 0) (by first | assumption | go_simp)
         have k7 := keep hb1 (b := w.heap.size + 1) (o := 7) (x := .int .i64 0) (by first | assumption | go_simp)
         have f0 := keepf hb1 (b := w.heap.size + 1) (o := 0) (by first | (simp <;> omega) | exact cell_lt' (a := ⟨w.heap.size + 1, 0, none⟩) (by assumption) | (simp; exact cell_lt' (a := ⟨w.heap.size + 1, 0, none⟩) (by assumption))) (by first | assumption | go_simp)
         have f1 := keepf hb1 (b := w.heap.size + 1) (o := 1) (by first | (simp <;> omega) | exact cell_lt' (a := ⟨w.heap.size + 1, 1, none⟩) (by assumption) | (simp; exact cell_lt' (a := ⟨w.heap.size + 1, 1, none⟩) (by assumption))) (by first | assumption | go_simp)
         have f2 := keepf hb1 (b := w.heap.size + 1) (o := 2) (by first | (simp <;> omega) | exact cell_lt' (a := ⟨w.heap.size + 1, 2, none⟩) (by assumption) | (simp; exact cell_lt' (a := ⟨w.heap.size + 1, 2, none⟩) (by assumption))) (by first | assumption | go_simp)
         have f3 := keepf hb1 (b := w.heap.size + 1) (o := 3) (by first | (simp <;> omega) | exact cell_lt' (a := ⟨w.heap.size + 1, 3, none⟩) (by assumption) | (simp; exact cell_lt' (a := ⟨w.heap.size + 1, 3, none⟩) (by assumption))) (by first | assumption | go_simp)
         have f4 := keepf hb1 (b := w.heap.size + 1) (o := 4) (by first | (simp <;> omega) | exact cell_lt' (a := ⟨w.heap.size + 1, 4, none⟩) (by assumption) | (simp; exact cell_lt' (a := ⟨w.heap.size + 1, 4, none⟩) (by assumption))) (by first | assumption | go_simp)
         have f5 := keepf hb1 (b := w.heap.size + 1) (o := 5) (by first | (simp <;> omega) | exact cell_lt' (a := ⟨w.heap.size + 1, 5, none⟩) (by assumption) | (simp; exact cell_lt' (a := ⟨w.heap.size + 1, 5, none⟩) (by assumption))) (by first | assumption | go_simp)
         have f6 := keepf hb1 (b := w.heap.size + 1) (o := 6) (by first | (simp <;> omega) | exact cell_lt' (a := ⟨w.heap.size + 1, 6, none⟩) (by assumption) | (simp; exact cell_lt' (a := ⟨w.heap.size + 1, 6, none⟩) (by assumption))) (by first | assumption | go_simp)
         have f7 := keepf hb1 (b := w.heap.size + 1) (o := 7) (by first | (simp <;> omega) | exact cell_lt' (a := ⟨w.heap.size + 1, 7, none⟩) (by assumption) | (simp; exact cell_lt' (a := ⟨w.heap.size + 1, 7, none⟩) (by assumption))) (by first | assumption | go_simp)
         have j5 := keep hb1 (b := w.heap.size) (o := 5) (x := .slice (some ⟨b, o, none⟩) n c) (by first | assumption | go_simp)
         have B1 := on HB.out hb1; clear hb1
         obtain ⟨l0, l1, l2, l3, l4, l5, l6, l7⟩ := Os.at (n := n) (c := c) (fun k a hk j v hv => keep B1 (HC.out k a hk j v hv)) HA.out
         have lt1 : w.heap.size + 1 < w1.heap.size := cell_lt' k0
         have lb1 : b ≠ w.heap.size + 1 := by omega))
    refine bodyPost_ret (v := .tuple #[vO ⟨a0, a1, a2, a3, a4, a5, a6, a7⟩, .bool true]) ?_ rfl ?_
    · rw [results_cell2 rfl]
      unfold vO
      go_simp
    · rw [HF.out]
      refine ⟨rfl, ?_⟩
      repeat (first | with_reducible exact B1 | (with_reducible refine Below.setCell ?_ (by first | (simp; done) | (simp; omega) | omega) _) | (with_reducible refine Below.alloc ?_ (by first | (simp; done) | (simp; omega) | omega) _))

set_option maxHeartbeats 3200000 in
theorem rmayChange_any (c : Ch) (w : World) : Calls Tryz.prog 25 #[vC c] w fun e w' => e = .returned (.bool (mayC c)) ∧ Below w.heap.size w w' := by
  obtain ⟨k, o⟩ := c
  have hW := fun n a b W => rwithin_any n a b W
  have hO := fun W => rosd_any o W
  have hE1 := fun W => eq_osd o ⟨o.id, false, false, 0, o.life, o.boot, 0, 0⟩ W
  have hE2 := fun W => eq_osd o ⟨o.id, false, false, o.wt, 0, 0, 0, 0⟩ W
  have hE3 := fun W => eq_osd o (noO o.id) W
  have b0 := al w (.cells #[.int .i64 k, .int .i64 o.id, .bool o.up, .bool o.inn, .int .i64 o.wt, .int .i64 o.life, .int .i64 o.boot, .int .i64 o.host, .int .i64 o.rack] 55)
  unfold mayC mayK upB wtB idB
  dsimp only
  generalize osdB o = t0 at *
  generalize eqO o ⟨o.id, false, false, 0, o.life, o.boot, 0, 0⟩ = t1 at *
  generalize eqO o ⟨o.id, false, false, o.wt, 0, 0, 0, 0⟩ = t2 at *
  generalize eqO o (noO o.id) = t3 at *
  unfold noO at hE3
  obtain ⟨i, up, inn, wt, life, boot, host, rack⟩ := o
  unfold vC
  unfold vO at hO hE1 hE2 hE3
  dsimp only at hO hE1 hE2 hE3 b0 ⊢
  by_cases e1 : k = 1
  · subst e1
    rw [show wi 1 1 6 = true from rfl]
    clear hW hE1 hE2 hE3
    go_enter Tryz.func25, Tryz.ntmps25
    go_wp2_with (go_at_call 35; refine (hO _).mono ?_; rintro e w2 ⟨rfl, hb2⟩; clear hO)
    go_ret
    exact ⟨by simp, on (on (on b0 (al _ _)) (Below.refl _ _)) hb2⟩
  by_cases e2 : k = 2
  · subst e2
    rw [show wi 2 1 6 = true from rfl]
    clear hO hE2 hE3
    cases t1 with
    | false =>
      go_enter Tryz.func25, Tryz.ntmps25
      go_wp2_with fail
      go_region
      go_wp2_with (go_at_call 23; refine (hW _ _ _ _).mono ?_; rintro e w1 ⟨rfl, rfl⟩)
      all_goals clear hW
      all_goals (go_ret; exact ⟨by simp_all, (on b0 (al _ _)).drew⟩)
    | true =>
      go_enter Tryz.func25, Tryz.ntmps25
      go_wp2_with fail
      go_region
      go_wp2_with (go_at_call 23; refine (hW _ _ _ _).mono ?_; rintro e w1 ⟨rfl, rfl⟩)
      all_goals clear hW
      all_goals (go_ret; exact ⟨by simp_all, (on b0 (al _ _)).drew⟩)
  by_cases e6 : k = 6
  · subst e6
    rw [show wi 6 1 6 = true from rfl]
    clear hO hE1 hE3
    cases t2 with
    | false =>
      go_enter Tryz.func25, Tryz.ntmps25
      go_wp2_with (go_at_call 23; refine (hW _ _ _ _).mono ?_; rintro e w1 ⟨rfl, rfl⟩)
      all_goals clear hW
      all_goals (go_ret; exact ⟨by simp_all, on b0 (al _ _)⟩)
    | true =>
      go_enter Tryz.func25, Tryz.ntmps25
      go_wp2_with (go_at_call 23; refine (hW _ _ _ _).mono ?_; rintro e w1 ⟨rfl, rfl⟩)
      all_goals clear hW
      all_goals (go_ret; exact ⟨by simp_all, on b0 (al _ _)⟩)
  by_cases e3 : k = 3
  · subst e3
    rw [show wi 3 1 6 = true from rfl]
    clear hO hE1 hE2
    cases t3 with
    | false =>
      go_enter Tryz.func25, Tryz.ntmps25
      go_wp2_with (go_at_call 23; refine (hW _ _ _ _).mono ?_; rintro e w1 ⟨rfl, rfl⟩)
      all_goals clear hW
      all_goals (go_ret; exact ⟨by simp_all, on b0 (al _ _)⟩)
    | true =>
      go_enter Tryz.func25, Tryz.ntmps25
      go_wp2_with (go_at_call 23; refine (hW _ _ _ _).mono ?_; rintro e w1 ⟨rfl, rfl⟩)
      all_goals clear hW
      all_goals (go_ret; exact ⟨by simp_all, on b0 (al _ _)⟩)
  by_cases e4 : k = 4
  · subst e4
    rw [show wi 4 1 6 = true from rfl]
    clear hO hE1 hE2
    cases t3 with
    | false =>
      go_enter Tryz.func25, Tryz.ntmps25
      go_wp2_with (go_at_call 23; refine (hW _ _ _ _).mono ?_; rintro e w1 ⟨rfl, rfl⟩)
      all_goals clear hW
      all_goals (go_ret; exact ⟨by simp_all, on b0 (al _ _)⟩)
    | true =>
      go_enter Tryz.func25, Tryz.ntmps25
      go_wp2_with (go_at_call 23; refine (hW _ _ _ _).mono ?_; rintro e w1 ⟨rfl, rfl⟩)
      all_goals clear hW
      all_goals (go_ret; exact ⟨by simp_all, on b0 (al _ _)⟩)
  by_cases e5 : k = 5
  · subst e5
    rw [show wi 5 1 6 = true from rfl]
    clear hO hE1 hE2
    cases t3 with
    | false =>
      go_enter Tryz.func25, Tryz.ntmps25
      go_wp2_with (go_at_call 23; refine (hW _ _ _ _).mono ?_; rintro e w1 ⟨rfl, rfl⟩)
      all_goals clear hW
      all_goals (go_ret; exact ⟨by simp_all, on b0 (al _ _)⟩)
    | true =>
      go_enter Tryz.func25, Tryz.ntmps25
      go_wp2_with (go_at_call 23; refine (hW _ _ _ _).mono ?_; rintro e w1 ⟨rfl, rfl⟩)
      all_goals clear hW
      all_goals (go_ret; exact ⟨by simp_all, on b0 (al _ _)⟩)
  have hz : wi k 1 6 = false := by
    rw [wi_false]
    omega
  rw [hz]
  clear hO hE1 hE2 hE3 hW hz
  go_enter Tryz.func25, Tryz.ntmps25
  go_wp2_with fail
  go_ret
  exact ⟨by simp, on b0 (al _ _)⟩

end Go.Proofs.YthlfmbijagpggaaGreat.At
