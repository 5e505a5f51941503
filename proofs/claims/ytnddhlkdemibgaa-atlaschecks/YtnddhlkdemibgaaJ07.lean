/-
  4 texts of this proof, one behind the other: AtRef1, AtRefMay, AtSame, AtSame2.
-/
import Derived.Test.YtnddhlkdemibgaaJ06
import Derived.Test.YtnddhlkdemibgaaJ02
/-
  The document's place, Find and MayChange.
  Conditions: lists lie in memory.
-/
namespace Go.Proofs.Ytnddhlkdemibgaa.At
open Go.RowKit By Fl
set_option linter.unusedVariables false
set_option linter.unusedSimpArgs false
set_option maxRecDepth 100000

theorem place_any {w : World} {x : Option Addr} {n c : Nat} (m : Mp) (id : Int) (h : Os w x n c m.osds) :
    Calls Try.prog 34 #[vM m.ep m.pool x n c, .int .i64 id] w fun e w' => e = .returned (.int .i64 (idx (isId id) m.osds)) ∧ Below w.heap.size w w' := by
  obtain ⟨ep, ⟨k, mm, g, d⟩, L⟩ := m
  unfold vM
  dsimp only at h ⊢
  have hm := h.small
  have b0 := al w (.cells #[.int .i64 ep, .int .i64 k, .int .i64 mm, .int .i64 g, .int .i64 d, .slice x n c] 26)
  have HO := hid (h.below b0)
  have HL := hid h.len
  have HB := hid b0
  have k5 : (w.alloc (.cells #[.int .i64 ep, .int .i64 k, .int .i64 mm, .int .i64 g, .int .i64 d, .slice x n c] 26)).cell? ⟨w.heap.size, 5, none⟩ = some (.slice x n c) := by go_simp
  clear h b0
  go_enter Try.func34, Try.ntmps34
  go_wp2_with fail
  generalize w.alloc (.cells #[.int .i64 ep, .int .i64 k, .int .i64 mm, .int .i64 g, .int .i64 d, .slice x n c] 26) = w0 at *
  go_loopw [5] (fun i wr => ∃ q : Nat, q ≤ n ∧ i = .int .i64 q ∧ wr = w0 ∧ Hid (∀ (j : Nat) (b : Osd), j < q → L[j]? = some b → isId id b = false)) (fun i _ => n - (intOf i).toNat)
  case atStart => exact ⟨0, by omega, rfl, rfl, fun j b hj => by omega⟩
  case round =>
    obtain ⟨q, hq, rfl, rfl, HR⟩ := hrel
    by_cases hlt : q < n
    · have hqn : (q : Int) < (n : Int) := by omega
      obtain ⟨a, ha⟩ : ∃ a, L[q]? = some a := ⟨L[q]'(by have := HL.out; omega), List.getElem?_eq_getElem (by have := HL.out; omega)⟩
      rcases HO.out.row with h0 | ⟨b, o, rfl, hbl, hcell⟩
      · omega
      have c0 := (Os.at (n := n) (c := c) hcell ha).1
      have HA := hid ha
      clear hcell ha
      obtain ⟨ai, hai⟩ : ∃ i, i = a.id := ⟨_, rfl⟩
      rw [← hai] at c0
      have HI := hid hai
      clear hai
      by_cases he : ai = id
      · subst he
        go_wp2_with fail
        go_ret
        refine ⟨?_, HB.out⟩
        unfold idx
        rw [idx_hit HA.out (by unfold isId; rw [← HI.out]; simp) HR.out]
        rfl
      · have hne : ai ≠ id := he
        go_wp2_with fail
        go_roundw
        case rel =>
          refine ⟨q + 1, by omega, by go_num, trivial, fun j b hj hb => ?_⟩
          by_cases hjq : j = q
          · subst hjq
            have := Option.some.inj (HA.out.symm.trans hb)
            subst this
            unfold isId
            rw [← HI.out]
            simp [he]
          · exact HR.out j b (by omega) hb
        case measure => simp [intOf]; omega
    · have hq2 : q = n := by omega
      subst hq2
      go_wp2_with fail
      go_ret
      refine ⟨?_, HB.out⟩
      unfold idx
      rw [idx_miss fun j b hb => HR.out j b (by
        have := (List.getElem?_eq_some_iff.1 hb).1
        have := HL.out
        omega) hb]
      rfl

theorem rfind_any {w : World} {x : Option Addr} {n c : Nat} (m : Mp) (id : Int) (h : Os w x n c m.osds) :
    Calls Try.prog 11 #[vM m.ep m.pool x n c, .int .i64 id] w fun e w' => e = .returned (.tuple #[vO (findP m.osds id).1, .bool (findP m.osds id).2]) ∧ Below w.heap.size w w' := by
  obtain ⟨ep, ⟨k, mm, g, d⟩, L⟩ := m
  have HO := hid h
  dsimp only at HO ⊢
  unfold vM
  dsimp only
  have b0 : Below w.heap.size w ((w.alloc (.cells #[.int .i64 ep, .int .i64 k, .int .i64 mm, .int .i64 g, .int .i64 d, .slice x n c] 26)).alloc (.cells #[.int .i64 0, .bool false, .bool false, .int .i64 0, .int .i64 0, .int .i64 0, .int .i64 0, .int .i64 0] 28)) := on (al _ _) (al _ _)
  have hS := place_any ⟨ep, ⟨k, mm, g, d⟩, L⟩ id (HO.out.below b0)
  unfold vM at hS
  dsimp only at hS
  have HB := hid b0
  have hsm := h.small
  clear h b0
  cases hi : L.findIdx? (isId id) with
  | none =>
    rw [show idx (isId id) L = -1 by unfold idx; rw [hi]] at hS
    have HF : Hid (findP L id = (noO 0, false)) := hid (by unfold findP; rw [hi])
    clear hi
    go_enter Try.func11, Try.ntmps11
    go_wp2_with (first
      | (
         go_at_call 34; refine hS.mono ?_; rintro e w1 ⟨rfl, hb1⟩; clear hS
         have k0 := keep hb1 (b := w.heap.size + 1) (o := 0) (x := .int .i64 0) (by first | assumption | go_simp)
         have k1 := keep hb1 (b := w.heap.size + 1) (o := 1) (x := .bool false) (by first | assumption | go_simp)
         have k2 := keep hb1 (b := w.heap.size + 1) (o := 2) (x := .bool false) (by first | assumption | go_simp)
         have k3 := keep hb1 (b := w.heap.size + 1) (o := 3) (x := .int .i64 0) (by first | assumption | go_simp)
         have k4 := keep hb1 (b := w.heap.size + 1) (o := 4) (x := .int .i64 0) (by first | assumption | go_simp)
         have k5 := keep hb1 (b := w.heap.size + 1) (o := 5) (x := .int .i64 0) (by first | assumption | go_simp)
         have k6 := keep hb1 (b := w.heap.size + 1) (o := 6) (x := .int .i64 0) (by first | assumption | go_simp)
         have k7 := keep hb1 (b := w.heap.size + 1) (o := 7) (x := .int .i64 0) (by first | assumption | go_simp)
         have f0 := keepf hb1 (b := w.heap.size + 1) (o := 0) (by first | (simp <;> omega) | exact cell_lt' (a := ⟨w.heap.size + 1, 0, none⟩) (by assumption) | (simp; exact cell_lt' (a := ⟨w.heap.size + 1, 0, none⟩) (by assumption))) (by first | assumption | go_simp)
         have f1 := keepf hb1 (b := w.heap.size + 1) (o := 1) (by first | (simp <;> omega) | exact cell_lt' (a := ⟨w.heap.size + 1, 1, none⟩) (by assumption) | (simp; exact cell_lt' (a := ⟨w.heap.size + 1, 1, none⟩) (by assumption))) (by first | assumption | go_simp)
         have f2 := keepf hb1 (b := w.heap.size + 1) (o := 2) (by first | (simp <;> omega) | exact cell_lt' (a := ⟨w.heap.size + 1, 2, none⟩) (by assumption) | (simp; exact cell_lt' (a := ⟨w.heap.size + 1, 2, none⟩) (by assumption))) (by first | assumption | go_simp)
         have f3 := keepf hb1 (b := w.heap.size + 1) (o := 3) (by first | (simp <;> omega) | exact cell_lt' (a := ⟨w.heap.size + 1, 3, none⟩) (by assumption) | (simp; exact cell_lt' (a := ⟨w.heap.size + 1, 3, none⟩) (by assumption))) (by first | assumption | go_simp)
         have f4 := keepf hb1 (b := w.heap.size + 1) (o := 4) (by first | (simp <;> omega) | exact cell_lt' (a := ⟨w.heap.size + 1, 4, none⟩) (by assumption) | (simp; exact cell_lt' (a := ⟨w.heap.size + 1, 4, none⟩) (by assumption))) (by first | assumption | go_simp)
         have f5 := keepf hb1 (b := w.heap.size + 1) (o := 5) (by first | (simp <;> omega) | exact cell_lt' (a := ⟨w.heap.size + 1, 5, none⟩) (by assumption) | (simp; exact cell_lt' (a := ⟨w.heap.size + 1, 5, none⟩) (by assumption))) (by first | assumption | go_simp)
         have f6 := keepf hb1 (b := w.heap.size + 1) (o := 6) (by first | (simp <;> omega) | exact cell_lt' (a := ⟨w.heap.size + 1, 6, none⟩) (by assumption) | (simp; exact cell_lt' (a := ⟨w.heap.size + 1, 6, none⟩) (by assumption))) (by first | assumption | go_simp)
         have f7 := keepf hb1 (b := w.heap.size + 1) (o := 7) (by first | (simp <;> omega) | exact cell_lt' (a := ⟨w.heap.size + 1, 7, none⟩) (by assumption) | (simp; exact cell_lt' (a := ⟨w.heap.size + 1, 7, none⟩) (by assumption))) (by first | assumption | go_simp)
         have B1 := on HB.out hb1; clear hb1))
    refine bodyPost_ret (v := .tuple #[vO (noO 0), .bool false]) ?_ rfl ?_
    · rw [results_cell2 rfl]
      unfold vO noO
      go_simp
    · rw [HF.out]
      refine ⟨rfl, ?_⟩
      repeat (first | with_reducible exact B1 | (with_reducible refine Below.setCell ?_ (by first | (simp; done) | (simp; omega) | omega) _) | (with_reducible refine Below.alloc ?_ (by first | (simp; done) | (simp; omega) | omega) _))
  | some q =>
    obtain ⟨a, ha, _, _⟩ := idx_some hi
    rw [show idx (isId id) L = (q : Int) by unfold idx; rw [hi]] at hS
    have HF : Hid (findP L id = (a, true)) := hid (by unfold findP; rw [hi]; simp [List.getD, ha])
    have HA := hid ha
    have hqn : q < n := by rw [← HO.out.len]; exact (List.getElem?_eq_some_iff.1 ha).1
    have hq0 : ¬ (q : Int) < 0 := by omega
    have hqI : (q : Int) < (n : Int) := by omega
    rcases HO.out.row with h0 | ⟨b, o, rfl, hbl, hcell⟩
    · omega
    have HC := hid hcell
    clear hi ha hcell
    obtain ⟨a0, a1, a2, a3, a4, a5, a6, a7⟩ := a
    go_enter Try.func11, Try.ntmps11
    go_wp2_with (first
      | (
         go_at_call 34; refine hS.mono ?_; rintro e w1 ⟨rfl, hb1⟩; clear hS
         have k0 := keep hb1 (b := w.heap.size + 1) (o := 0) (x := .int .i64 0) (by first | assumption | go_simp)
         have k1 := keep hb1 (b := w.heap.size + 1) (o := 1) (x := .bool false) (by first | assumption | go_simp)
         have k2 := keep hb1 (b := w.heap.size + 1) (o := 2) (x := .bool false) (by first | assumption | go_simp)
         have k3 := keep hb1 (b := w.heap.size + 1) (o := 3) (x := .int .i64 0) (by first | assumption | go_simp)
         have k4 := keep hb1 (b := w.heap.size + 1) (o := 4) (x := .int .i64 0) (by first | assumption | go_simp)
         have k5 := keep hb1 (b := w.heap.size + 1) (o := 5) (x := .int .i64 0) (by first | assumption | go_simp)
         have k6 := keep hb1 (b := w.heap.size + 1) (o := 6) (x := .int .i64 0) (by first | assumption | go_simp)
         have k7 := keep hb1 (b := w.heap.size + 1) (o := 7) (x := .int .i64 0) (by first | assumption | go_simp)
         have f0 := keepf hb1 (b := w.heap.size + 1) (o := 0) (by first | (simp <;> omega) | exact cell_lt' (a := ⟨w.heap.size + 1, 0, none⟩) (by assumption) | (simp; exact cell_lt' (a := ⟨w.heap.size + 1, 0, none⟩) (by assumption))) (by first | assumption | go_simp)
         have f1 := keepf hb1 (b := w.heap.size + 1) (o := 1) (by first | (simp <;> omega) | exact cell_lt' (a := ⟨w.heap.size + 1, 1, none⟩) (by assumption) | (simp; exact cell_lt' (a := ⟨w.heap.size + 1, 1, none⟩) (by assumption))) (by first | assumption | go_simp)
         have f2 := keepf hb1 (b := w.heap.size + 1) (o := 2) (by first | (simp <;> omega) | exact cell_lt' (a := ⟨w.heap.size + 1, 2, none⟩) (by assumption) | (simp; exact cell_lt' (a := ⟨w.heap.size + 1, 2, none⟩) (by assumption))) (by first | assumption | go_simp)
         have f3 := keepf hb1 (b := w.heap.size + 1) (o := 3) (by first | (simp <;> omega) | exact cell_lt' (a := ⟨w.heap.size + 1, 3, none⟩) (by assumption) | (simp; exact cell_lt' (a := ⟨w.heap.size + 1, 3, none⟩) (by assumption))) (by first | assumption | go_simp)
         have f4 := keepf hb1 (b := w.heap.size + 1) (o := 4) (by first | (simp <;> omega) | exact cell_lt' (a := ⟨w.heap.size + 1, 4, none⟩) (by assumption) | (simp; exact cell_lt' (a := ⟨w.heap.size + 1, 4, none⟩) (by assumption))) (by first | assumption | go_simp)
         have f5 := keepf hb1 (b := w.heap.size + 1) (o := 5) (by first | (simp <;> omega) | exact cell_lt' (a := ⟨w.heap.size + 1, 5, none⟩) (by assumption) | (simp; exact cell_lt' (a := ⟨w.heap.size + 1, 5, none⟩) (by assumption))) (by first | assumption | go_simp)
         have f6 := keepf hb1 (b := w.heap.size + 1) (o := 6) (by first | (simp <;> omega) | exact cell_lt' (a := ⟨w.heap.size + 1, 6, none⟩) (by assumption) | (simp; exact cell_lt' (a := ⟨w.heap.size + 1, 6, none⟩) (by assumption))) (by first | assumption | go_simp)
         have f7 := keepf hb1 (b := w.heap.size + 1) (o := 7) (by first | (simp <;> omega) | exact cell_lt' (a := ⟨w.heap.size + 1, 7, none⟩) (by assumption) | (simp; exact cell_lt' (a := ⟨w.heap.size + 1, 7, none⟩) (by assumption))) (by first | assumption | go_simp)
         have j5 := keep hb1 (b := w.heap.size) (o := 5) (x := .slice (some ⟨b, o, none⟩) n c) (by first | assumption | go_simp)
         have B1 := on HB.out hb1; clear hb1
         obtain ⟨l0, l1, l2, l3, l4, l5, l6, l7⟩ := Os.at (n := n) (c := c) (fun k a hk j v hv => keep B1 (HC.out k a hk j v hv)) HA.out
         have lt1 : w.heap.size + 1 < w1.heap.size := cell_lt' k0
         have lb1 : b ≠ w.heap.size + 1 := by omega))
    refine bodyPost_ret (v := .tuple #[vO ⟨a0, a1, a2, a3, a4, a5, a6, a7⟩, .bool true]) ?_ rfl ?_
    · rw [results_cell2 rfl]
      unfold vO
      go_simp
    · rw [HF.out]
      refine ⟨rfl, ?_⟩
      repeat (first | with_reducible exact B1 | (with_reducible refine Below.setCell ?_ (by first | (simp; done) | (simp; omega) | omega) _) | (with_reducible refine Below.alloc ?_ (by first | (simp; done) | (simp; omega) | omega) _))

set_option maxHeartbeats 3200000 in
theorem rmayChange_any (c : Ch) (w : World) : Calls Try.prog 18 #[vC c] w fun e w' => e = .returned (.bool (mayC c)) ∧ Below w.heap.size w w' := by
  obtain ⟨k, o⟩ := c
  have hW := fun n a b W => rwithin_any n a b W
  have hO := fun W => rosd_any o W
  have hE1 := fun W => eq_osd o ⟨o.id, false, false, 0, o.life, o.boot, 0, 0⟩ W
  have hE2 := fun W => eq_osd o ⟨o.id, false, false, o.wt, 0, 0, 0, 0⟩ W
  have hE3 := fun W => eq_osd o (noO o.id) W
  have b0 := al w (.cells #[.int .i64 k, .int .i64 o.id, .bool o.up, .bool o.inn, .int .i64 o.wt, .int .i64 o.life, .int .i64 o.boot, .int .i64 o.host, .int .i64 o.rack] 30)
  unfold mayC mayK upB wtB idB
  dsimp only
  generalize osdB o = t0 at *
  generalize eqO o ⟨o.id, false, false, 0, o.life, o.boot, 0, 0⟩ = t1 at *
  generalize eqO o ⟨o.id, false, false, o.wt, 0, 0, 0, 0⟩ = t2 at *
  generalize eqO o (noO o.id) = t3 at *
  unfold noO at hE3
  obtain ⟨i, up, inn, wt, life, boot, host, rack⟩ := o
  unfold vC
  unfold vO at hO hE1 hE2 hE3
  dsimp only at hO hE1 hE2 hE3 b0 ⊢
  by_cases e1 : k = 1
  · subst e1
    rw [show wi 1 1 6 = true from rfl]
    clear hW hE1 hE2 hE3
    go_enter Try.func18, Try.ntmps18
    go_wp2_with (go_at_call 38; refine (hO _).mono ?_; rintro e w2 ⟨rfl, hb2⟩; clear hO)
    go_ret
    exact ⟨by simp, on (on (on b0 (al _ _)) (Below.refl _ _)) hb2⟩
  by_cases e2 : k = 2
  · subst e2
    rw [show wi 2 1 6 = true from rfl]
    clear hO hE2 hE3
    cases t1 with
    | false =>
      go_enter Try.func18, Try.ntmps18
      go_wp2_with fail
      go_region
      go_wp2_with (go_at_call 35; refine (hW _ _ _ _).mono ?_; rintro e w1 ⟨rfl, rfl⟩)
      all_goals clear hW
      all_goals (go_ret; exact ⟨by simp_all, (on b0 (al _ _)).drew⟩)
    | true =>
      go_enter Try.func18, Try.ntmps18
      go_wp2_with fail
      go_region
      go_wp2_with (go_at_call 35; refine (hW _ _ _ _).mono ?_; rintro e w1 ⟨rfl, rfl⟩)
      all_goals clear hW
      all_goals (go_ret; exact ⟨by simp_all, (on b0 (al _ _)).drew⟩)
  by_cases e6 : k = 6
  · subst e6
    rw [show wi 6 1 6 = true from rfl]
    clear hO hE1 hE3
    cases t2 with
    | false =>
      go_enter Try.func18, Try.ntmps18
      go_wp2_with (go_at_call 35; refine (hW _ _ _ _).mono ?_; rintro e w1 ⟨rfl, rfl⟩)
      all_goals clear hW
      all_goals (go_ret; exact ⟨by simp_all, on b0 (al _ _)⟩)
    | true =>
      go_enter Try.func18, Try.ntmps18
      go_wp2_with (go_at_call 35; refine (hW _ _ _ _).mono ?_; rintro e w1 ⟨rfl, rfl⟩)
      all_goals clear hW
      all_goals (go_ret; exact ⟨by simp_all, on b0 (al _ _)⟩)
  by_cases e3 : k = 3
  · subst e3
    rw [show wi 3 1 6 = true from rfl]
    clear hO hE1 hE2
    cases t3 with
    | false =>
      go_enter Try.func18, Try.ntmps18
      go_wp2_with (go_at_call 35; refine (hW _ _ _ _).mono ?_; rintro e w1 ⟨rfl, rfl⟩)
      all_goals clear hW
      all_goals (go_ret; exact ⟨by simp_all, on b0 (al _ _)⟩)
    | true =>
      go_enter Try.func18, Try.ntmps18
      go_wp2_with (go_at_call 35; refine (hW _ _ _ _).mono ?_; rintro e w1 ⟨rfl, rfl⟩)
      all_goals clear hW
      all_goals (go_ret; exact ⟨by simp_all, on b0 (al _ _)⟩)
  by_cases e4 : k = 4
  · subst e4
    rw [show wi 4 1 6 = true from rfl]
    clear hO hE1 hE2
    cases t3 with
    | false =>
      go_enter Try.func18, Try.ntmps18
      go_wp2_with (go_at_call 35; refine (hW _ _ _ _).mono ?_; rintro e w1 ⟨rfl, rfl⟩)
      all_goals clear hW
      all_goals (go_ret; exact ⟨by simp_all, on b0 (al _ _)⟩)
    | true =>
      go_enter Try.func18, Try.ntmps18
      go_wp2_with (go_at_call 35; refine (hW _ _ _ _).mono ?_; rintro e w1 ⟨rfl, rfl⟩)
      all_goals clear hW
      all_goals (go_ret; exact ⟨by simp_all, on b0 (al _ _)⟩)
  by_cases e5 : k = 5
  · subst e5
    rw [show wi 5 1 6 = true from rfl]
    clear hO hE1 hE2
    cases t3 with
    | false =>
      go_enter Try.func18, Try.ntmps18
      go_wp2_with (go_at_call 35; refine (hW _ _ _ _).mono ?_; rintro e w1 ⟨rfl, rfl⟩)
      all_goals clear hW
      all_goals (go_ret; exact ⟨by simp_all, on b0 (al _ _)⟩)
    | true =>
      go_enter Try.func18, Try.ntmps18
      go_wp2_with (go_at_call 35; refine (hW _ _ _ _).mono ?_; rintro e w1 ⟨rfl, rfl⟩)
      all_goals clear hW
      all_goals (go_ret; exact ⟨by simp_all, on b0 (al _ _)⟩)
  have hz : wi k 1 6 = false := by
    rw [wi_false]
    omega
  rw [hz]
  clear hO hE1 hE2 hE3 hW hz
  go_enter Try.func18, Try.ntmps18
  go_wp2_with fail
  go_ret
  exact ⟨by simp, on b0 (al _ _)⟩

end Go.Proofs.Ytnddhlkdemibgaa.At

/-
  The document's May.
  Conditions: the list lies in memory.
-/
namespace Go.Proofs.Ytnddhlkdemibgaa.At
open Go.RowKit By Fl
set_option linter.unusedVariables false
set_option linter.unusedSimpArgs false
set_option maxRecDepth 100000

/- The i-th one is as it should be, as far as the first q of the list tell. -/
def LowTo (L : List Osd) (a : Osd) (q : Nat) : Prop := ∀ (j : Nat) (b : Osd), j < q → L[j]? = some b → lowB a b = true

set_option maxHeartbeats 6400000 in
theorem rmay_any {w : World} {x : Option Addr} {n c : Nat} (m : Mp) (h : Os w x n c m.osds) :
    Calls Try.prog 16 #[vM m.ep m.pool x n c] w fun e w' => e = .returned (.bool (mayM m)) ∧ Below w.heap.size w w' := by
  obtain ⟨ep, p, L⟩ := m
  have hW := fun n a b W => rwithin_any n a b W
  have hP := fun W => rpool_any p W
  have HL := hid h.len
  have hm := h.small
  unfold mayM osdsB
  dsimp only at h HL ⊢
  generalize poolB p = tp at *
  obtain ⟨k, mm, g, d⟩ := p
  unfold vM
  unfold vP at hP
  dsimp only at hP ⊢
  have b0 := al w (.cells #[.int .i64 ep, .int .i64 k, .int .i64 mm, .int .i64 g, .int .i64 d, .slice x n c] 26)
  have k5 : (w.alloc (.cells #[.int .i64 ep, .int .i64 k, .int .i64 mm, .int .i64 g, .int .i64 d, .slice x n c] 26)).cell? ⟨w.heap.size, 5, none⟩ = some (.slice x n c) := by go_simp
  have HK := hid k5
  have HO := hid (h.below b0)
  have HB := hid b0
  clear h k5 b0
  cases hwi : wi ep 0 1048576 with
  | false =>
    clear hP
    go_enter Try.func16, Try.ntmps16
    go_wp2_with (go_at_call 35; refine (hW _ _ _ _).mono ?_; rintro e w1 ⟨rfl, rfl⟩)
    go_ret
    exact ⟨by simp, HB.out⟩
  | true =>
  cases tp with
  | false =>
    go_enter Try.func16, Try.ntmps16
    go_wp2_with (first
      | (go_at_call 35; refine (hW _ _ _ _).mono ?_; rintro e w1 ⟨rfl, rfl⟩)
      | (go_at_call 13; refine (hP _).mono ?_; rintro e w2 ⟨rfl, hb2⟩; clear hP))
    go_ret
    exact ⟨by simp, on HB.out hb2⟩
  | true =>
  by_cases h64 : 64 < n
  · have i64 : (64 : Int) < (n : Int) := by omega
    go_enter Try.func16, Try.ntmps16
    go_wp2_with (first
      | (go_at_call 35; refine (hW _ _ _ _).mono ?_; rintro e w1 ⟨rfl, rfl⟩)
      | (go_at_call 13; refine (hP _).mono ?_; rintro e w2 ⟨rfl, hb2⟩; clear hP; have q5 := keep hb2 HK.out))
    go_ret
    exact ⟨by rw [HL.out, decide_eq_false (by omega)]; simp, on HB.out hb2⟩
  have i64 : (n : Int) ≤ 64 := by omega
  have h64' : n ≤ 64 := by omega
  go_enter Try.func16, Try.ntmps16
  go_wp2_with (first
    | (go_at_call 35; refine (hW _ _ _ _).mono ?_; rintro e w1 ⟨rfl, rfl⟩)
    | (go_at_call 13; refine (hP _).mono ?_; rintro e w2 ⟨rfl, hb2⟩; clear hP; have q5 := keep hb2 HK.out))
  have HO2 := hid (HO.out.below hb2)
  have HB2 := hid (on HB.out hb2)
  have HQ := hid q5
  have HF : Hid (∀ t, (true && true && (decide (L.length ≤ 64) && t)) = t) := fun t => by rw [HL.out, decide_eq_true h64']; simp
  clear hW hb2 q5 h64
  go_loopw [3, 4] (fun i _ wr => ∃ q : Nat, q ≤ n ∧ i = .int .i64 q ∧ Hid (Below w2.heap.size w2 wr ∧ GoodTo L q)) (fun i _ _ => n - (intOf i).toNat)
  case atStart => exact ⟨0, by omega, rfl, Below.refl _ _, fun i a hi => by omega⟩
  case round =>
    obtain ⟨q, hq, rfl, HR⟩ := hrel
    have q5 := keep HR.out.1 HQ.out
    by_cases hlt : q < n
    · have hqn : (q : Int) < (n : Int) := by omega
      obtain ⟨a, ha⟩ : ∃ a, L[q]? = some a := ⟨L[q]'(by have := HL.out; omega), List.getElem?_eq_getElem (by have := HL.out; omega)⟩
      have ho := HO2.out.below HR.out.1
      rcases ho.row with h0 | ⟨b, o, rfl, hbl, hcell⟩
      · omega
      obtain ⟨k0, k1, k2, k3, k4, k5, k6, k7⟩ := Os.at (n := n) (c := c) hcell ha
      have hS := rosd_any a wr
      obtain ⟨t, ht⟩ : ∃ t, t = osdB a := ⟨_, rfl⟩
      rw [← ht] at hS
      have HA := hid (show L[q]? = some a ∧ t = osdB a from ⟨ha, ht⟩)
      have HC := hid hcell
      clear hcell ha ht ho
      obtain ⟨a0, a1, a2, a3, a4, a5, a6, a7⟩ := a
      unfold vO at hS
      dsimp only at k0 k1 k2 k3 k4 k5 k6 k7 hS
      cases t with
      | false =>
        go_wp2_with (go_at_call 38; refine hS.mono ?_; rintro e w3 ⟨rfl, hb3⟩; clear hS)
        go_ret
        exact ⟨by rw [HF.out, goodB_false HA.out.1 (.inl HA.out.2.symm)]; rfl, on HB2.out (on HR.out.1 hb3)⟩
      | true =>
        go_wp2_with (go_at_call 38; refine hS.mono ?_; rintro e w3 ⟨rfl, hb3⟩; clear hS)
        have HB3 := hid (on HR.out.1 hb3)
        have HC3 : Hid (∀ (k : Nat) (a : Osd), L[k]? = some a → ∀ (j : Nat) (v : Value), (enO a)[j]? = some v → w3.cell? ⟨b, o + k * 8 + j, none⟩ = some v) := fun k a hk j v hv => keep hb3 (HC.out k a hk j v hv)
        have HQ3 := hid (keep hb3 q5)
        clear hb3 q5 k0 k1 k2 k3 k4 k5 k6 k7 HC
        obtain ⟨wo, hwo⟩ : ∃ wo, wo = wr := ⟨_, rfl⟩
        subst hwo
        go_loopw [4] (fun i wr => ∃ r : Nat, r ≤ q ∧ i = .int .i64 r ∧ Hid (Below w3.heap.size w3 wr ∧ LowTo L ⟨a0, a1, a2, a3, a4, a5, a6, a7⟩ r)) (fun i _ => q - (intOf i).toNat)
        case atStart => exact ⟨0, by omega, rfl, Below.refl _ _, fun j b hj => by omega⟩
        case round =>
          obtain ⟨r, hr, rfl, HI⟩ := hrel
          have r5 := keep HI.out.1 HQ3.out
          by_cases hrq : r < q
          · have hrqI : (r : Int) < (q : Int) := by omega
            have hrnI : (r : Int) < (n : Int) := by omega
            obtain ⟨e, he⟩ : ∃ a, L[r]? = some a := ⟨L[r]'(by have := HL.out; omega), List.getElem?_eq_getElem (by have := HL.out; omega)⟩
            obtain ⟨k0, k1, k2, k3, k4, k5, k6, k7⟩ := Os.at (n := n) (c := c) (fun k a hk j v hv => keep HI.out.1 (HC3.out k a hk j v hv)) HA.out.1
            obtain ⟨l0, l1, l2, l3, l4, l5, l6, l7⟩ := Os.at (n := n) (c := c) (fun k a hk j v hv => keep HI.out.1 (HC3.out k a hk j v hv)) he
            clear k1 k2 k3 k4 k5 l1 l2 l3 l4 l5
            have HE := hid he
            clear he
            obtain ⟨e0, e1, e2, e3, e4, e5, e6, e7⟩ := e
            dsimp only at k0 k6 k7 l0 l6 l7
            by_cases h1 : a0 ≤ e0
            · go_wp2_with fail
              go_quiet (fail)
              go_wp2_with fail
              go_ret
              exact ⟨by rw [HF.out, goodB_false HA.out.1 (.inr ⟨r, _, hrq, HE.out, by unfold lowB; dsimp only; rw [decide_eq_false (by omega)]; rfl⟩)]; rfl, on HB2.out (on HB3.out (below_drewN' HI.out.1 _))⟩
            · have h1' : e0 < a0 := by omega
              by_cases h2 : e6 = a6
              · subst h2
                by_cases h3 : e7 = a7
                · subst h3
                  go_wp2_with fail
                  go_quiet (fail)
                  go_wp2_with fail
                  go_roundw
                  case rel =>
                    refine ⟨r + 1, by omega, by go_num, below_drewN' HI.out.1 _, fun j bb hj hb => ?_⟩
                    by_cases hjr : j = r
                    · subst hjr
                      have := Option.some.inj (HE.out.symm.trans hb)
                      subst this
                      exact (lowB_iff _ _).2 ⟨h1', fun _ => rfl⟩
                    · exact HI.out.2 j bb (by omega) hb
                  case measure => simp [intOf]; omega
                · have h3' : (e7 != a7) = true := by simpa using h3
                  go_wp2_with fail
                  go_quiet (fail)
                  go_wp2_with fail
                  go_ret
                  exact ⟨by rw [HF.out, goodB_false HA.out.1 (.inr ⟨r, _, hrq, HE.out, by
                    cases hq : lowB _ _ with
                    | false => rfl
                    | true => exact absurd (((lowB_iff _ _).1 hq).2 rfl) h3⟩)]; rfl, on HB2.out (on HB3.out (below_drewN' HI.out.1 _))⟩
              · have h2' : e6 ≠ a6 := h2
                go_wp2_with fail
                go_quiet (fail)
                go_wp2_with fail
                go_roundw
                case rel =>
                  refine ⟨r + 1, by omega, by go_num, below_drewN' HI.out.1 _, fun j bb hj hb => ?_⟩
                  by_cases hjr : j = r
                  · subst hjr
                    have := Option.some.inj (HE.out.symm.trans hb)
                    subst this
                    exact (lowB_iff _ _).2 ⟨h1', fun e => absurd e h2⟩
                  · exact HI.out.2 j bb (by omega) hb
                case measure => simp [intOf]; omega
          · have hrq2 : r = q := by omega
            subst hrq2
            go_wp2_with fail
            go_roundw
            case rel =>
              refine ⟨r + 1, by omega, by go_num, on HB3.out HI.out.1, fun i a hi hia => ?_⟩
              by_cases hir : i = r
              · subst hir
                have := Option.some.inj (HA.out.1.symm.trans hia)
                subst this
                exact ⟨HA.out.2.symm, fun j b hj hb => HI.out.2 j b hj hb⟩
              · exact HR.out.2 i a (by omega) hia
            case measure => simp [intOf]; omega
    · have hq2 : q = n := by omega
      subst hq2
      go_wp2_with fail
      go_ret
      exact ⟨by rw [HF.out, GoodTo.all (by rw [HL.out]; exact HR.out.2)]; rfl, on HB2.out HR.out.1⟩

end Go.Proofs.Ytnddhlkdemibgaa.At

/-
  Whether maps are alike: slices.Equal, atlas.Same, the document's Same.
  Conditions: lists lie in memory.
-/
namespace Go.Proofs.Ytnddhlkdemibgaa.At
open Go.RowKit By Fl
set_option linter.unusedVariables false
set_option linter.unusedSimpArgs false
set_option maxRecDepth 100000

theorem neq_osd (a b : Osd) (w : World) : (binOp .neq 28 (vO a) (vO b)).run Try.prog w = .ok (.bool (!eqO a b)) w := by
  obtain ⟨a0, a1, a2, a3, a4, a5, a6, a7⟩ := a
  obtain ⟨b0, b1, b2, b3, b4, b5, b6, b7⟩ := b
  unfold vO eqO
  dsimp only
  go_simp
  by_cases e0 : a0 = b0 <;> by_cases e1 : a1 = b1 <;> by_cases e2 : a2 = b2 <;> by_cases e3 : a3 = b3 <;> by_cases e4 : a4 = b4 <;> by_cases e5 : a5 = b5 <;> by_cases e6 : a6 = b6 <;> by_cases e7 : a7 = b7 <;> simp [e0, e1, e2, e3, e4, e5, e6, e7]

theorem eq_pool (a b : Pool) (w : World) : (binOp .eql 23 (vP a) (vP b)).run Try.prog w = .ok (.bool (eqP a b)) w := by
  obtain ⟨a0, a1, a2, a3⟩ := a
  obtain ⟨b0, b1, b2, b3⟩ := b
  unfold vP eqP
  dsimp only
  go_simp
  by_cases e0 : a0 = b0 <;> by_cases e1 : a1 = b1 <;> by_cases e2 : a2 = b2 <;> by_cases e3 : a3 = b3 <;> simp [e0, e1, e2, e3]

theorem neq_pool (a b : Pool) (w : World) : (binOp .neq 23 (vP a) (vP b)).run Try.prog w = .ok (.bool (!eqP a b)) w := by
  obtain ⟨a0, a1, a2, a3⟩ := a
  obtain ⟨b0, b1, b2, b3⟩ := b
  unfold vP eqP
  dsimp only
  go_simp
  by_cases e0 : a0 = b0 <;> by_cases e1 : a1 = b1 <;> by_cases e2 : a2 = b2 <;> by_cases e3 : a3 = b3 <;> simp [e0, e1, e2, e3]

theorem eqL_len {a b : List Osd} (h : a.length ≠ b.length) : eqL a b = false := by
  cases hq : eqL a b with
  | false => rfl
  | true => exact absurd (congrArg List.length ((eqL_iff a b).1 hq)) h

theorem eqL_bad {a b : List Osd} {k : Nat} {u v : Osd} (hu : a[k]? = some u) (hv : b[k]? = some v) (h : eqO u v = false) : eqL a b = false := by
  cases hq : eqL a b with
  | false => rfl
  | true =>
    have := (eqL_iff a b).1 hq
    subst this
    have := Option.some.inj (hu.symm.trans hv)
    subst this
    rw [(eqO_iff u u).2 rfl] at h
    cases h

def SameTo (a b : List Osd) (k : Nat) : Prop := ∀ (j : Nat) (u v : Osd), j < k → a[j]? = some u → b[j]? = some v → eqO u v = true

theorem SameTo.all {a b : List Osd} (h : SameTo a b a.length) (hl : a.length = b.length) : eqL a b = true := by
  rw [eqL_iff]
  apply List.ext_getElem?
  intro i
  by_cases hi : i < a.length
  · rw [List.getElem?_eq_getElem hi, List.getElem?_eq_getElem (by omega)]
    exact congrArg some ((eqO_iff _ _).1 (h i _ _ hi (List.getElem?_eq_getElem hi) (List.getElem?_eq_getElem (by omega))))
  · rw [List.getElem?_eq_none (by omega), List.getElem?_eq_none (by omega)]

theorem SameTo.step {a b : List Osd} {k : Nat} {u v : Osd} (h : SameTo a b k) (hu : a[k]? = some u) (hv : b[k]? = some v) (he : eqO u v = true) : SameTo a b (k + 1) := fun j u' v' hj hu' hv' => by
  by_cases e : j = k
  · subst e
    have h1 := Option.some.inj (hu.symm.trans hu')
    have h2 := Option.some.inj (hv.symm.trans hv')
    subst h1 h2
    exact he
  · exact h j u' v' (by omega) hu' hv'

set_option maxHeartbeats 1600000 in
theorem equal_any {w : World} {x y : Option Addr} {n c n' c' : Nat} {L M : List Osd} (h : Os w x n c L) (h' : Os w y n' c' M) :
    Calls Try.prog 42 #[.slice x n c, .slice y n' c'] w fun e w' => e = .returned (.bool (eqL L M)) ∧ Below w.heap.size w w' := by
  have hm := h.small
  have hm' := h'.small
  have HL := hid h.len
  have HM := hid h'.len
  by_cases hn : n = n'
  · subst hn
    have HO := hid h
    have HO' := hid h'
    clear h h'
    go_enter Try.func42, Try.ntmps42
    go_wp2_with fail
    go_loopw [13, 5] (fun i _ wr => ∃ q : Nat, q ≤ n ∧ i = .int .i64 q ∧ Hid (Below w.heap.size w wr ∧ SameTo L M q)) (fun i _ _ => n - (intOf i).toNat)
    case atStart => exact ⟨0, by omega, rfl, Below.refl _ _, fun j u v hj => by omega⟩
    case round =>
      obtain ⟨q, hq, rfl, HR⟩ := hrel
      by_cases hlt : q < n
      · have hqn : (q : Int) < (n : Int) := by omega
        obtain ⟨u, hu⟩ : ∃ a, L[q]? = some a := ⟨L[q]'(by have := HL.out; omega), List.getElem?_eq_getElem (by have := HL.out; omega)⟩
        obtain ⟨v, hv⟩ : ∃ a, M[q]? = some a := ⟨M[q]'(by have := HM.out; omega), List.getElem?_eq_getElem (by have := HM.out; omega)⟩
        have ho := HO.out.below HR.out.1
        have ho' := HO'.out.below HR.out.1
        rcases ho.row with h0 | ⟨b, o, rfl, hbl, hcell⟩
        · omega
        rcases ho'.row with h0 | ⟨b', o', rfl, hbl', hcell'⟩
        · omega
        obtain ⟨k0, k1, k2, k3, k4, k5, k6, k7⟩ := Os.at (n := n) (c := c) hcell hu
        obtain ⟨l0, l1, l2, l3, l4, l5, l6, l7⟩ := Os.at (n := n) (c := c) hcell' hv
        have hE := fun W => neq_osd u v W
        obtain ⟨t, ht⟩ : ∃ t, t = eqO u v := ⟨_, rfl⟩
        rw [← ht] at hE
        have HA := hid (show L[q]? = some u ∧ M[q]? = some v ∧ t = eqO u v from ⟨hu, hv, ht⟩)
        clear hcell hcell' hu hv ht ho ho'
        obtain ⟨u0, u1, u2, u3, u4, u5, u6, u7⟩ := u
        obtain ⟨v0, v1, v2, v3, v4, v5, v6, v7⟩ := v
        unfold vO at hE
        dsimp only at k0 k1 k2 k3 k4 k5 k6 k7 l0 l1 l2 l3 l4 l5 l6 l7 hE
        cases t with
        | true =>
          go_wp2_with fail
          go_quiet (fail)
          go_wp2_with fail
          go_roundw
          case rel => exact ⟨q + 1, by omega, by go_num, below_drewN' HR.out.1 _, HR.out.2.step HA.out.1 HA.out.2.1 HA.out.2.2.symm⟩
          case measure => simp [intOf]; omega
        | false =>
          go_wp2_with fail
          go_quiet (fail)
          go_wp2_with fail
          go_ret
          exact ⟨by rw [eqL_bad HA.out.1 HA.out.2.1 HA.out.2.2.symm]; rfl, below_drewN' HR.out.1 _⟩
      · have hq2 : q = n := by omega
        subst hq2
        go_wp2_with fail
        go_ret
        exact ⟨by rw [SameTo.all (by rw [HL.out]; exact HR.out.2) (by rw [HL.out, HM.out])]; rfl, HR.out.1⟩
  · have hne : (n : Int) ≠ (n' : Int) := by omega
    have HF : Hid (eqL L M = false) := eqL_len (by rw [h.len, h'.len]; exact hn)
    clear h h' hn
    go_enter Try.func42, Try.ntmps42
    go_wp2_with fail
    go_ret
    exact ⟨by rw [HF.out]; rfl, Below.refl _ _⟩

end Go.Proofs.Ytnddhlkdemibgaa.At

/-
  Whether maps are alike: atlas.Same, the document's Same.
  Conditions: lists lie in memory.
-/
namespace Go.Proofs.Ytnddhlkdemibgaa.At
open Go.RowKit By Fl
set_option linter.unusedVariables false
set_option linter.unusedSimpArgs false
set_option maxRecDepth 100000

set_option maxHeartbeats 1600000 in
theorem same_any {w : World} {x y : Option Addr} {n c n' c' : Nat} (a b : Mp) (h : Os w x n c a.osds) (h' : Os w y n' c' b.osds) :
    Calls Try.prog 22 #[vM a.ep a.pool x n c, vM b.ep b.pool y n' c'] w fun e w' => e = .returned (.bool (eqM a b)) ∧ Below w.heap.size w w' := by
  obtain ⟨ea, pa, L⟩ := a
  obtain ⟨eb, pb, M⟩ := b
  have hE := fun W => eq_pool pa pb W
  unfold eqM
  dsimp only at h h' ⊢
  have b0 := on (al w (.cells #[.int .i64 ea, .int .i64 pa.k, .int .i64 pa.m, .int .i64 pa.pgs, .int .i64 pa.dom, .slice x n c] 26)) (al _ (.cells #[.int .i64 eb, .int .i64 pb.k, .int .i64 pb.m, .int .i64 pb.pgs, .int .i64 pb.dom, .slice y n' c'] 26))
  have hQ := equal_any (h.below b0) (h'.below b0)
  generalize eqP pa pb = t1 at *
  generalize eqL L M = t2 at *
  obtain ⟨a1, a2, a3, a4⟩ := pa
  obtain ⟨b1, b2, b3, b4⟩ := pb
  unfold vM
  unfold vP at hE
  dsimp only at hE hQ b0 ⊢
  clear h h'
  by_cases e : ea = eb
  · subst e
    cases t1 with
    | false =>
      go_enter Try.func22, Try.ntmps22
      go_wp2_with fail
      go_ret
      exact ⟨by simp, b0⟩
    | true =>
      go_enter Try.func22, Try.ntmps22
      go_wp2_with (go_at_call 42; refine hQ.mono ?_; rintro e w2 ⟨rfl, hb2⟩; clear hQ)
      go_ret
      exact ⟨by simp, on b0 hb2⟩
  · have hne : ea ≠ eb := e
    go_enter Try.func22, Try.ntmps22
    go_wp2_with fail
    go_ret
    exact ⟨by simp [e], b0⟩

set_option maxHeartbeats 1600000 in
theorem rsame_any {w : World} {x y : Option Addr} {n c n' c' : Nat} (a b : Mp) (h : Os w x n c a.osds) (h' : Os w y n' c' b.osds) :
    Calls Try.prog 14 #[vM a.ep a.pool x n c, vM b.ep b.pool y n' c'] w fun e w' => e = .returned (.bool (eqM a b)) ∧ Below w.heap.size w w' := by
  obtain ⟨ea, pa, L⟩ := a
  obtain ⟨eb, pb, M⟩ := b
  have hE := fun W => neq_pool pa pb W
  unfold eqM
  dsimp only at h h' ⊢
  have hm := h.small
  have hm' := h'.small
  have b0 := on (al w (.cells #[.int .i64 ea, .int .i64 pa.k, .int .i64 pa.m, .int .i64 pa.pgs, .int .i64 pa.dom, .slice x n c] 26)) (al _ (.cells #[.int .i64 eb, .int .i64 pb.k, .int .i64 pb.m, .int .i64 pb.pgs, .int .i64 pb.dom, .slice y n' c'] 26))
  have HO := hid (h.below b0)
  have HO' := hid (h'.below b0)
  have HL := hid h.len
  have HM := hid h'.len
  have k5 : ((w.alloc (.cells #[.int .i64 ea, .int .i64 pa.k, .int .i64 pa.m, .int .i64 pa.pgs, .int .i64 pa.dom, .slice x n c] 26)).alloc (.cells #[.int .i64 eb, .int .i64 pb.k, .int .i64 pb.m, .int .i64 pb.pgs, .int .i64 pb.dom, .slice y n' c'] 26)).cell? ⟨w.heap.size, 5, none⟩ = some (.slice x n c) := by go_simp
  have l5 : ((w.alloc (.cells #[.int .i64 ea, .int .i64 pa.k, .int .i64 pa.m, .int .i64 pa.pgs, .int .i64 pa.dom, .slice x n c] 26)).alloc (.cells #[.int .i64 eb, .int .i64 pb.k, .int .i64 pb.m, .int .i64 pb.pgs, .int .i64 pb.dom, .slice y n' c'] 26)).cell? ⟨w.heap.size + 1, 5, none⟩ = some (.slice y n' c') := by go_simp
  have HK := hid (And.intro k5 l5)
  generalize eqP pa pb = t1 at *
  obtain ⟨a1, a2, a3, a4⟩ := pa
  obtain ⟨b1, b2, b3, b4⟩ := pb
  unfold vM
  unfold vP at hE
  have HB := hid b0
  dsimp only at hE HB HK HO HO' ⊢
  clear h h' k5 l5 b0
  by_cases e : ea = eb
  · subst e
    cases t1 with
    | false =>
      go_enter Try.func14, Try.ntmps14
      go_wp2_with fail
      go_ret
      exact ⟨by simp, HB.out⟩
    | true =>
      by_cases hn : n = n'
      · subst hn
        go_enter Try.func14, Try.ntmps14
        go_wp2_with fail
        generalize (w.alloc (.cells #[.int .i64 ea, .int .i64 a1, .int .i64 a2, .int .i64 a3, .int .i64 a4, .slice x n c] 26)).alloc (.cells #[.int .i64 ea, .int .i64 b1, .int .i64 b2, .int .i64 b3, .int .i64 b4, .slice y n c'] 26) = w0 at *
        go_loopw [5] (fun i wr => ∃ q : Nat, q ≤ n ∧ i = .int .i64 q ∧ Hid (Below w0.heap.size w0 wr ∧ SameTo L M q)) (fun i _ => n - (intOf i).toNat)
        case atStart => exact ⟨0, by omega, rfl, Below.refl _ _, fun j u v hj => by omega⟩
        case round =>
          obtain ⟨q, hq, rfl, HR⟩ := hrel
          have k5 := keep HR.out.1 HK.out.1
          have j5 := keep HR.out.1 HK.out.2
          by_cases hlt : q < n
          · have hqn : (q : Int) < (n : Int) := by omega
            obtain ⟨u, hu⟩ : ∃ a, L[q]? = some a := ⟨L[q]'(by have := HL.out; omega), List.getElem?_eq_getElem (by have := HL.out; omega)⟩
            obtain ⟨v, hv⟩ : ∃ a, M[q]? = some a := ⟨M[q]'(by have := HM.out; omega), List.getElem?_eq_getElem (by have := HM.out; omega)⟩
            have ho := HO.out.below HR.out.1
            have ho' := HO'.out.below HR.out.1
            rcases ho.row with h0 | ⟨b, o, rfl, hbl, hcell⟩
            · omega
            rcases ho'.row with h0 | ⟨b', o', rfl, hbl', hcell'⟩
            · omega
            obtain ⟨k0, k1, k2, k3, k4, k5', k6, k7⟩ := Os.at (n := n) (c := c) hcell hu
            obtain ⟨l0, l1, l2, l3, l4, l5', l6, l7⟩ := Os.at (n := n) (c := c) hcell' hv
            have hE2 := fun W => neq_osd u v W
            obtain ⟨t, ht⟩ : ∃ t, t = eqO u v := ⟨_, rfl⟩
            rw [← ht] at hE2
            have HA := hid (show L[q]? = some u ∧ M[q]? = some v ∧ t = eqO u v from ⟨hu, hv, ht⟩)
            clear hcell hcell' hu hv ht ho ho' hE
            obtain ⟨u0, u1, u2, u3, u4, u5, u6, u7⟩ := u
            obtain ⟨v0, v1, v2, v3, v4, v5, v6, v7⟩ := v
            unfold vO at hE2
            dsimp only at k0 k1 k2 k3 k4 k5' k6 k7 l0 l1 l2 l3 l4 l5' l6 l7 hE2
            cases t with
            | true =>
              go_wp2_with fail
              go_quiet (fail)
              go_wp2_with fail
              go_roundw
              case rel => exact ⟨q + 1, by omega, by go_num, below_drewN' HR.out.1 _, HR.out.2.step HA.out.1 HA.out.2.1 HA.out.2.2.symm⟩
              case measure => simp [intOf]; omega
            | false =>
              go_wp2_with fail
              go_quiet (fail)
              go_wp2_with fail
              go_ret
              exact ⟨by rw [eqL_bad HA.out.1 HA.out.2.1 HA.out.2.2.symm]; simp, on HB.out (below_drewN' HR.out.1 _)⟩
          · have hq2 : q = n := by omega
            subst hq2
            go_wp2_with fail
            go_ret
            exact ⟨by rw [SameTo.all (by rw [HL.out]; exact HR.out.2) (by rw [HL.out, HM.out])]; simp, on HB.out HR.out.1⟩
      · have hne : (n : Int) ≠ (n' : Int) := by omega
        have HF : Hid (eqL L M = false) := eqL_len (by rw [HL.out, HM.out]; exact hn)
        clear hn
        go_enter Try.func14, Try.ntmps14
        go_wp2_with fail
        go_ret
        exact ⟨by rw [HF.out]; simp, HB.out⟩
  · have hne : ea ≠ eb := e
    go_enter Try.func14, Try.ntmps14
    go_wp2_with fail
    go_ret
    exact ⟨by simp [e], HB.out⟩

end Go.Proofs.Ytnddhlkdemibgaa.At
