/-
  4 texts of this proof, one behind the other: AtNew, AtFold, AtAwake, AtMay.
-/
import Derived.Test.YtnddhlkdemibgaaJ02
import Derived.Test.YtnddhlkdemibgaaJ04
import Derived.Test.YtnddhlkdemibgaaJ05
/-
  Package atlas: New, Find; the document's Find.
  Conditions: lists lie in memory.
-/
namespace Go.Proofs.Ytnddhlkdemibgaa.At
open Go.RowKit By Fl
set_option linter.unusedVariables false
set_option linter.unusedSimpArgs false
set_option maxRecDepth 100000

theorem results_cell2 {fn : Func} {p q : Tmp} {ty : TypeId} (h : fn.results = #[.cell p ty, .tmp q]) (tmps : Array Value) (P : Program) (w : World) :
    (results fn tmps).run P w = ((asAddr (tmps.getD p undef)).run P w).andThen fun a w₁ => ((loadVar ty a).run P w₁).andThen fun v w₂ => .ok (.tuple #[v, tmps.getD q undef]) w₂ := by
  simp only [results, h]
  simp [Sem.run_bind, Result.andThen]

theorem new_no (p : Pool) (w : World) (hk : p.k ≤ 9223372036854775807) (hno : poolB p = false) : Calls Try.prog 9 #[vP p] w fun e w' => e = .returned (.tuple #[vM 0 noP none 0 0, .int .i64 1]) ∧ Below w.heap.size w w' := by
  have hP := fun W => poolMay_any p W hk
  rw [hno] at hP
  clear hno hk
  obtain ⟨k, m, g, d⟩ := p
  unfold vP at *
  dsimp only at hP ⊢
  have b0 : Below w.heap.size w ((w.alloc (.cells #[.int .i64 k, .int .i64 m, .int .i64 g, .int .i64 d] 23)).alloc (.cells #[.int .i64 0, .int .i64 0, .int .i64 0, .int .i64 0, .int .i64 0, .slice none 0 0] 26)) := on (al _ _) (al _ _)
  go_enter Try.func9, Try.ntmps9
  go_wp2_with (first
    | (
       go_at_call 32; refine (hP _).mono ?_; rintro e w1 ⟨rfl, hb1⟩; clear hP
       have k0 := keep hb1 (b := w.heap.size + 1) (o := 0) (x := .int .i64 0) (by first | assumption | go_simp)
       have k1 := keep hb1 (b := w.heap.size + 1) (o := 1) (x := .int .i64 0) (by first | assumption | go_simp)
       have k2 := keep hb1 (b := w.heap.size + 1) (o := 2) (x := .int .i64 0) (by first | assumption | go_simp)
       have k3 := keep hb1 (b := w.heap.size + 1) (o := 3) (x := .int .i64 0) (by first | assumption | go_simp)
       have k4 := keep hb1 (b := w.heap.size + 1) (o := 4) (x := .int .i64 0) (by first | assumption | go_simp)
       have k5 := keep hb1 (b := w.heap.size + 1) (o := 5) (x := .slice none 0 0) (by first | assumption | go_simp)
       have f0 := keepf hb1 (b := w.heap.size + 1) (o := 0) (by first | (simp <;> omega) | exact cell_lt' (a := ⟨w.heap.size + 1, 0, none⟩) (by assumption) | (simp; exact cell_lt' (a := ⟨w.heap.size + 1, 0, none⟩) (by assumption))) (by first | assumption | go_simp)
       have f1 := keepf hb1 (b := w.heap.size + 1) (o := 1) (by first | (simp <;> omega) | exact cell_lt' (a := ⟨w.heap.size + 1, 1, none⟩) (by assumption) | (simp; exact cell_lt' (a := ⟨w.heap.size + 1, 1, none⟩) (by assumption))) (by first | assumption | go_simp)
       have f2 := keepf hb1 (b := w.heap.size + 1) (o := 2) (by first | (simp <;> omega) | exact cell_lt' (a := ⟨w.heap.size + 1, 2, none⟩) (by assumption) | (simp; exact cell_lt' (a := ⟨w.heap.size + 1, 2, none⟩) (by assumption))) (by first | assumption | go_simp)
       have f3 := keepf hb1 (b := w.heap.size + 1) (o := 3) (by first | (simp <;> omega) | exact cell_lt' (a := ⟨w.heap.size + 1, 3, none⟩) (by assumption) | (simp; exact cell_lt' (a := ⟨w.heap.size + 1, 3, none⟩) (by assumption))) (by first | assumption | go_simp)
       have f4 := keepf hb1 (b := w.heap.size + 1) (o := 4) (by first | (simp <;> omega) | exact cell_lt' (a := ⟨w.heap.size + 1, 4, none⟩) (by assumption) | (simp; exact cell_lt' (a := ⟨w.heap.size + 1, 4, none⟩) (by assumption))) (by first | assumption | go_simp)
       have f5 := keepf hb1 (b := w.heap.size + 1) (o := 5) (by first | (simp <;> omega) | exact cell_lt' (a := ⟨w.heap.size + 1, 5, none⟩) (by assumption) | (simp; exact cell_lt' (a := ⟨w.heap.size + 1, 5, none⟩) (by assumption))) (by first | assumption | go_simp)
       have B1 := on b0 hb1; clear hb1))
  refine bodyPost_ret (v := .tuple #[vM 0 noP none 0 0, .int .i64 1]) ?_ rfl ?_
  · rw [results_cell2 rfl]
    unfold vM noP
    go_simp
  · refine ⟨rfl, ?_⟩
    repeat (first | with_reducible exact B1 | (with_reducible refine Below.setCell ?_ (by first | (simp; done) | (simp; omega) | omega) _) | (with_reducible refine Below.alloc ?_ (by first | (simp; done) | (simp; omega) | omega) _))

theorem new_yes (p : Pool) (w : World) (hk : p.k ≤ 9223372036854775807) (hyes : poolB p = true) : Calls Try.prog 9 #[vP p] w fun e w' => e = .returned (.tuple #[vM 0 p none 0 0, .int .i64 0]) ∧ Below w.heap.size w w' := by
  have hP := fun W => poolMay_any p W hk
  rw [hyes] at hP
  clear hyes hk
  obtain ⟨k, m, g, d⟩ := p
  unfold vP at *
  dsimp only at hP ⊢
  have b0 : Below w.heap.size w ((w.alloc (.cells #[.int .i64 k, .int .i64 m, .int .i64 g, .int .i64 d] 23)).alloc (.cells #[.int .i64 0, .int .i64 0, .int .i64 0, .int .i64 0, .int .i64 0, .slice none 0 0] 26)) := on (al _ _) (al _ _)
  go_enter Try.func9, Try.ntmps9
  go_wp2_with (first
    | (
       go_at_call 32; refine (hP _).mono ?_; rintro e w1 ⟨rfl, hb1⟩; clear hP
       have k0 := keep hb1 (b := w.heap.size + 1) (o := 0) (x := .int .i64 0) (by first | assumption | go_simp)
       have k1 := keep hb1 (b := w.heap.size + 1) (o := 1) (x := .int .i64 0) (by first | assumption | go_simp)
       have k2 := keep hb1 (b := w.heap.size + 1) (o := 2) (x := .int .i64 0) (by first | assumption | go_simp)
       have k3 := keep hb1 (b := w.heap.size + 1) (o := 3) (x := .int .i64 0) (by first | assumption | go_simp)
       have k4 := keep hb1 (b := w.heap.size + 1) (o := 4) (x := .int .i64 0) (by first | assumption | go_simp)
       have k5 := keep hb1 (b := w.heap.size + 1) (o := 5) (x := .slice none 0 0) (by first | assumption | go_simp)
       have f0 := keepf hb1 (b := w.heap.size + 1) (o := 0) (by first | (simp <;> omega) | exact cell_lt' (a := ⟨w.heap.size + 1, 0, none⟩) (by assumption) | (simp; exact cell_lt' (a := ⟨w.heap.size + 1, 0, none⟩) (by assumption))) (by first | assumption | go_simp)
       have f1 := keepf hb1 (b := w.heap.size + 1) (o := 1) (by first | (simp <;> omega) | exact cell_lt' (a := ⟨w.heap.size + 1, 1, none⟩) (by assumption) | (simp; exact cell_lt' (a := ⟨w.heap.size + 1, 1, none⟩) (by assumption))) (by first | assumption | go_simp)
       have f2 := keepf hb1 (b := w.heap.size + 1) (o := 2) (by first | (simp <;> omega) | exact cell_lt' (a := ⟨w.heap.size + 1, 2, none⟩) (by assumption) | (simp; exact cell_lt' (a := ⟨w.heap.size + 1, 2, none⟩) (by assumption))) (by first | assumption | go_simp)
       have f3 := keepf hb1 (b := w.heap.size + 1) (o := 3) (by first | (simp <;> omega) | exact cell_lt' (a := ⟨w.heap.size + 1, 3, none⟩) (by assumption) | (simp; exact cell_lt' (a := ⟨w.heap.size + 1, 3, none⟩) (by assumption))) (by first | assumption | go_simp)
       have f4 := keepf hb1 (b := w.heap.size + 1) (o := 4) (by first | (simp <;> omega) | exact cell_lt' (a := ⟨w.heap.size + 1, 4, none⟩) (by assumption) | (simp; exact cell_lt' (a := ⟨w.heap.size + 1, 4, none⟩) (by assumption))) (by first | assumption | go_simp)
       have f5 := keepf hb1 (b := w.heap.size + 1) (o := 5) (by first | (simp <;> omega) | exact cell_lt' (a := ⟨w.heap.size + 1, 5, none⟩) (by assumption) | (simp; exact cell_lt' (a := ⟨w.heap.size + 1, 5, none⟩) (by assumption))) (by first | assumption | go_simp)
       have j0 := keep hb1 (b := w.heap.size) (o := 0) (x := .int .i64 k) (by first | assumption | go_simp)
       have j1 := keep hb1 (b := w.heap.size) (o := 1) (x := .int .i64 m) (by first | assumption | go_simp)
       have j2 := keep hb1 (b := w.heap.size) (o := 2) (x := .int .i64 g) (by first | assumption | go_simp)
       have j3 := keep hb1 (b := w.heap.size) (o := 3) (x := .int .i64 d) (by first | assumption | go_simp)
       have B1 := on b0 hb1; clear hb1))
  refine bodyPost_ret (v := .tuple #[vM 0 ⟨k, m, g, d⟩ none 0 0, .int .i64 0]) ?_ rfl ?_
  · rw [results_cell2 rfl]
    unfold vM
    go_simp
  · refine ⟨rfl, ?_⟩
    repeat (first | with_reducible exact B1 | (with_reducible refine Below.setCell ?_ (by first | (simp; done) | (simp; omega) | omega) _) | (with_reducible refine Below.alloc ?_ (by first | (simp; done) | (simp; omega) | omega) _))

def findP (L : List Osd) (id : Int) : Osd × Bool := match L.findIdx? (isId id) with | some k => (L.getD k (noO 0), true) | none => (noO 0, false)

theorem find_any {w : World} {x : Option Addr} {n c : Nat} (m : Mp) (id : Int) (h : Os w x n c m.osds) :
    Calls Try.prog 10 #[vM m.ep m.pool x n c, .int .i64 id] w fun e w' => e = .returned (.tuple #[vO (findP m.osds id).1, .bool (findP m.osds id).2]) ∧ Below w.heap.size w w' := by
  obtain ⟨ep, ⟨k, mm, g, d⟩, L⟩ := m
  have HO := hid h
  dsimp only at HO ⊢
  unfold vM
  dsimp only
  have b0 : Below w.heap.size w ((w.alloc (.cells #[.int .i64 ep, .int .i64 k, .int .i64 mm, .int .i64 g, .int .i64 d, .slice x n c] 26)).alloc (.cells #[.int .i64 0, .bool false, .bool false, .int .i64 0, .int .i64 0, .int .i64 0, .int .i64 0, .int .i64 0] 28)) := on (al _ _) (al _ _)
  have hS := seat_any id (HO.out.below b0)
  have HB := hid b0
  have hsm := h.small
  clear h b0
  cases hi : L.findIdx? (isId id) with
  | none =>
    rw [show idx (isId id) L = -1 by unfold idx; rw [hi]] at hS
    have HF : Hid (findP L id = (noO 0, false)) := hid (by unfold findP; rw [hi])
    clear hi
    go_enter Try.func10, Try.ntmps10
    go_wp2_with (first
      | (
         go_at_call 33; refine hS.mono ?_; rintro e w1 ⟨rfl, hb1⟩; clear hS
         have k0 := keep hb1 (b := w.heap.size + 1) (o := 0) (x := .int .i64 0) (by first | assumption | go_simp)
         have k1 := keep hb1 (b := w.heap.size + 1) (o := 1) (x := .bool false) (by first | assumption | go_simp)
         have k2 := keep hb1 (b := w.heap.size + 1) (o := 2) (x := .bool false) (by first | assumption | go_simp)
         have k3 := keep hb1 (b := w.heap.size + 1) (o := 3) (x := .int .i64 0) (by first | assumption | go_simp)
         have k4 := keep hb1 (b := w.heap.size + 1) (o := 4) (x := .int .i64 0) (by first | assumption | go_simp)
         have k5 := keep hb1 (b := w.heap.size + 1) (o := 5) (x := .int .i64 0) (by first | assumption | go_simp)
         have k6 := keep hb1 (b := w.heap.size + 1) (o := 6) (x := .int .i64 0) (by first | assumption | go_simp)
         have k7 := keep hb1 (b := w.heap.size + 1) (o := 7) (x := .int .i64 0) (by first | assumption | go_simp)
         have f0 := keepf hb1 (b := w.heap.size + 1) (o := 0) (by first | (simp <;> omega) | exact cell_lt' (a := ⟨w.heap.size + 1, 0, none⟩) (by assumption) | (simp; exact cell_lt' (a := ⟨w.heap.size + 1, 0, none⟩) (by assumption))) (by first | assumption | go_simp)
         have f1 := keepf hb1 (b := w.heap.size + 1) (o := 1) (by first | (simp <;> omega) | exact cell_lt' (a := ⟨w.heap.size + 1, 1, none⟩) (by assumption) | (simp; exact cell_lt' (a := ⟨w.heap.size + 1, 1, none⟩) (by assumption))) (by first | assumption | go_simp)
         have f2 := keepf hb1 (b := w.heap.size + 1) (o := 2) (by first | (simp <;> omega) | exact cell_lt' (a := ⟨w.heap.size + 1, 2, none⟩) (by assumption) | (simp; exact cell_lt' (a := ⟨w.heap.size + 1, 2, none⟩) (by assumption))) (by first | assumption | go_simp)
         have f3 := keepf hb1 (b := w.heap.size + 1) (o := 3) (by first | (simp <;> omega) | exact cell_lt' (a := ⟨w.heap.size + 1, 3, none⟩) (by assumption) | (simp; exact cell_lt' (a := ⟨w.heap.size + 1, 3, none⟩) (by assumption))) (by first | assumption | go_simp)
         have f4 := keepf hb1 (b := w.heap.size + 1) (o := 4) (by first | (simp <;> omega) | exact cell_lt' (a := ⟨w.heap.size + 1, 4, none⟩) (by assumption) | (simp; exact cell_lt' (a := ⟨w.heap.size + 1, 4, none⟩) (by assumption))) (by first | assumption | go_simp)
         have f5 := keepf hb1 (b := w.heap.size + 1) (o := 5) (by first | (simp <;> omega) | exact cell_lt' (a := ⟨w.heap.size + 1, 5, none⟩) (by assumption) | (simp; exact cell_lt' (a := ⟨w.heap.size + 1, 5, none⟩) (by assumption))) (by first | assumption | go_simp)
         have f6 := keepf hb1 (b := w.heap.size + 1) (o := 6) (by first | (simp <;> omega) | exact cell_lt' (a := ⟨w.heap.size + 1, 6, none⟩) (by assumption) | (simp; exact cell_lt' (a := ⟨w.heap.size + 1, 6, none⟩) (by assumption))) (by first | assumption | go_simp)
         have f7 := keepf hb1 (b := w.heap.size + 1) (o := 7) (by first | (simp <;> omega) | exact cell_lt' (a := ⟨w.heap.size + 1, 7, none⟩) (by assumption) | (simp; exact cell_lt' (a := ⟨w.heap.size + 1, 7, none⟩) (by assumption))) (by first | assumption | go_simp)
         have B1 := on HB.out hb1; clear hb1))
    refine bodyPost_ret (v := .tuple #[vO (noO 0), .bool false]) ?_ rfl ?_
    · rw [results_cell2 rfl]
      unfold vO noO
      go_simp
    · rw [HF.out]
      refine ⟨rfl, ?_⟩
      repeat (first | with_reducible exact B1 | (with_reducible refine Below.setCell ?_ (by first | (simp; done) | (simp; omega) | omega) _) | (with_reducible refine Below.alloc ?_ (by first | (simp; done) | (simp; omega) | omega) _))
  | some q =>
    obtain ⟨a, ha, _, _⟩ := idx_some hi
    rw [show idx (isId id) L = (q : Int) by unfold idx; rw [hi]] at hS
    have HF : Hid (findP L id = (a, true)) := hid (by unfold findP; rw [hi]; simp [List.getD, ha])
    have HA := hid ha
    have hqn : q < n := by rw [← HO.out.len]; exact (List.getElem?_eq_some_iff.1 ha).1
    have hq0 : ¬ (q : Int) < 0 := by omega
    have hqI : (q : Int) < (n : Int) := by omega
    rcases HO.out.row with h0 | ⟨b, o, rfl, hbl, hcell⟩
    · omega
    have HC := hid hcell
    clear hi ha hcell
    obtain ⟨a0, a1, a2, a3, a4, a5, a6, a7⟩ := a
    go_enter Try.func10, Try.ntmps10
    go_wp2_with (first
      | (
         go_at_call 33; refine hS.mono ?_; rintro e w1 ⟨rfl, hb1⟩; clear hS
         have k0 := keep hb1 (b := w.heap.size + 1) (o := 0) (x := .int .i64 0) (by first | assumption | go_simp)
         have k1 := keep hb1 (b := w.heap.size + 1) (o := 1) (x := .bool false) (by first | assumption | go_simp)
         have k2 := keep hb1 (b := w.heap.size + 1) (o := 2) (x := .bool false) (by first | assumption | go_simp)
         have k3 := keep hb1 (b := w.heap.size + 1) (o := 3) (x := .int .i64 0) (by first | assumption | go_simp)
         have k4 := keep hb1 (b := w.heap.size + 1) (o := 4) (x := .int .i64 0) (by first | assumption | go_simp)
         have k5 := keep hb1 (b := w.heap.size + 1) (o := 5) (x := .int .i64 0) (by first | assumption | go_simp)
         have k6 := keep hb1 (b := w.heap.size + 1) (o := 6) (x := .int .i64 0) (by first | assumption | go_simp)
         have k7 := keep hb1 (b := w.heap.size + 1) (o := 7) (x := .int .i64 0) (by first | assumption | go_simp)
         have f0 := keepf hb1 (b := w.heap.size + 1) (o := 0) (by first | (simp <;> omega) | exact cell_lt' (a := ⟨w.heap.size + 1, 0, none⟩) (by assumption) | (simp; exact cell_lt' (a := ⟨w.heap.size + 1, 0, none⟩) (by assumption))) (by first | assumption | go_simp)
         have f1 := keepf hb1 (b := w.heap.size + 1) (o := 1) (by first | (simp <;> omega) | exact cell_lt' (a := ⟨w.heap.size + 1, 1, none⟩) (by assumption) | (simp; exact cell_lt' (a := ⟨w.heap.size + 1, 1, none⟩) (by assumption))) (by first | assumption | go_simp)
         have f2 := keepf hb1 (b := w.heap.size + 1) (o := 2) (by first | (simp <;> omega) | exact cell_lt' (a := ⟨w.heap.size + 1, 2, none⟩) (by assumption) | (simp; exact cell_lt' (a := ⟨w.heap.size + 1, 2, none⟩) (by assumption))) (by first | assumption | go_simp)
         have f3 := keepf hb1 (b := w.heap.size + 1) (o := 3) (by first | (simp <;> omega) | exact cell_lt' (a := ⟨w.heap.size + 1, 3, none⟩) (by assumption) | (simp; exact cell_lt' (a := ⟨w.heap.size + 1, 3, none⟩) (by assumption))) (by first | assumption | go_simp)
         have f4 := keepf hb1 (b := w.heap.size + 1) (o := 4) (by first | (simp <;> omega) | exact cell_lt' (a := ⟨w.heap.size + 1, 4, none⟩) (by assumption) | (simp; exact cell_lt' (a := ⟨w.heap.size + 1, 4, none⟩) (by assumption))) (by first | assumption | go_simp)
         have f5 := keepf hb1 (b := w.heap.size + 1) (o := 5) (by first | (simp <;> omega) | exact cell_lt' (a := ⟨w.heap.size + 1, 5, none⟩) (by assumption) | (simp; exact cell_lt' (a := ⟨w.heap.size + 1, 5, none⟩) (by assumption))) (by first | assumption | go_simp)
         have f6 := keepf hb1 (b := w.heap.size + 1) (o := 6) (by first | (simp <;> omega) | exact cell_lt' (a := ⟨w.heap.size + 1, 6, none⟩) (by assumption) | (simp; exact cell_lt' (a := ⟨w.heap.size + 1, 6, none⟩) (by assumption))) (by first | assumption | go_simp)
         have f7 := keepf hb1 (b := w.heap.size + 1) (o := 7) (by first | (simp <;> omega) | exact cell_lt' (a := ⟨w.heap.size + 1, 7, none⟩) (by assumption) | (simp; exact cell_lt' (a := ⟨w.heap.size + 1, 7, none⟩) (by assumption))) (by first | assumption | go_simp)
         have j5 := keep hb1 (b := w.heap.size) (o := 5) (x := .slice (some ⟨b, o, none⟩) n c) (by first | assumption | go_simp)
         have B1 := on HB.out hb1; clear hb1
         obtain ⟨l0, l1, l2, l3, l4, l5, l6, l7⟩ := Os.at (n := n) (c := c) (fun k a hk j v hv => keep B1 (HC.out k a hk j v hv)) HA.out
         have lt1 : w.heap.size + 1 < w1.heap.size := cell_lt' k0
         have lb1 : b ≠ w.heap.size + 1 := by omega))
    refine bodyPost_ret (v := .tuple #[vO ⟨a0, a1, a2, a3, a4, a5, a6, a7⟩, .bool true]) ?_ rfl ?_
    · rw [results_cell2 rfl]
      unfold vO
      go_simp
    · rw [HF.out]
      refine ⟨rfl, ?_⟩
      repeat (first | with_reducible exact B1 | (with_reducible refine Below.setCell ?_ (by first | (simp; done) | (simp; omega) | omega) _) | (with_reducible refine Below.alloc ?_ (by first | (simp; done) | (simp; omega) | omega) _))

end Go.Proofs.Ytnddhlkdemibgaa.At

/-
  Package atlas: Fold.
  Conditions: no more than 300 changes, that lie in memory.
-/
namespace Go.Proofs.Ytnddhlkdemibgaa.At
open Go.RowKit By Fl
set_option linter.unusedVariables false
set_option linter.unusedSimpArgs false
set_option maxRecDepth 100000

theorem results_cell3 {fn : Func} {p q r : Tmp} {ty : TypeId} (h : fn.results = #[.cell p ty, .tmp q, .tmp r]) (tmps : Array Value) (P : Program) (w : World) :
    (results fn tmps).run P w = ((asAddr (tmps.getD p undef)).run P w).andThen fun a w₁ => ((loadVar ty a).run P w₁).andThen fun v w₂ => .ok (.tuple #[v, tmps.getD q undef, tmps.getD r undef]) w₂ := by
  simp only [results, h]
  simp [Sem.run_bind, Result.andThen]

theorem fold_no {w : World} {x : Option Addr} {n c : Nat} (p : Pool) (hk : p.k ≤ 9223372036854775807) (hp : poolB p = false) :
    Calls Try.prog 23 #[vP p, .slice x n c] w fun e w' => e = .returned (.tuple #[vM 0 noP none 0 0, .slice none 0 0, .int .i64 1]) ∧ Below w.heap.size w w' := by
  have hN := fun W => new_no p W hk hp
  clear hk hp
  obtain ⟨k, m, g, d⟩ := p
  unfold vP vM noP at *
  dsimp only at hN ⊢
  have b0 : Below w.heap.size w ((w.alloc (.cells #[.int .i64 k, .int .i64 m, .int .i64 g, .int .i64 d] 23)).alloc (.cells #[.int .i64 0, .int .i64 0, .int .i64 0, .int .i64 0, .int .i64 0, .slice none 0 0] 26)) := on (al _ _) (al _ _)
  go_enter Try.func23, Try.ntmps23
  go_wp2_with (first
    | (
       go_at_call 9; refine (hN _).mono ?_; rintro e w1 ⟨rfl, hb1⟩; clear hN
       have k0 := keep hb1 (b := w.heap.size + 1) (o := 0) (x := .int .i64 0) (by first | assumption | go_simp)
       have k1 := keep hb1 (b := w.heap.size + 1) (o := 1) (x := .int .i64 0) (by first | assumption | go_simp)
       have k2 := keep hb1 (b := w.heap.size + 1) (o := 2) (x := .int .i64 0) (by first | assumption | go_simp)
       have k3 := keep hb1 (b := w.heap.size + 1) (o := 3) (x := .int .i64 0) (by first | assumption | go_simp)
       have k4 := keep hb1 (b := w.heap.size + 1) (o := 4) (x := .int .i64 0) (by first | assumption | go_simp)
       have k5 := keep hb1 (b := w.heap.size + 1) (o := 5) (x := .slice none 0 0) (by first | assumption | go_simp)
       have f0 := keepf hb1 (b := w.heap.size + 1) (o := 0) (by first | (simp <;> omega) | exact cell_lt' (a := ⟨w.heap.size + 1, 0, none⟩) (by assumption) | (simp; exact cell_lt' (a := ⟨w.heap.size + 1, 0, none⟩) (by assumption))) (by first | assumption | go_simp)
       have f1 := keepf hb1 (b := w.heap.size + 1) (o := 1) (by first | (simp <;> omega) | exact cell_lt' (a := ⟨w.heap.size + 1, 1, none⟩) (by assumption) | (simp; exact cell_lt' (a := ⟨w.heap.size + 1, 1, none⟩) (by assumption))) (by first | assumption | go_simp)
       have f2 := keepf hb1 (b := w.heap.size + 1) (o := 2) (by first | (simp <;> omega) | exact cell_lt' (a := ⟨w.heap.size + 1, 2, none⟩) (by assumption) | (simp; exact cell_lt' (a := ⟨w.heap.size + 1, 2, none⟩) (by assumption))) (by first | assumption | go_simp)
       have f3 := keepf hb1 (b := w.heap.size + 1) (o := 3) (by first | (simp <;> omega) | exact cell_lt' (a := ⟨w.heap.size + 1, 3, none⟩) (by assumption) | (simp; exact cell_lt' (a := ⟨w.heap.size + 1, 3, none⟩) (by assumption))) (by first | assumption | go_simp)
       have f4 := keepf hb1 (b := w.heap.size + 1) (o := 4) (by first | (simp <;> omega) | exact cell_lt' (a := ⟨w.heap.size + 1, 4, none⟩) (by assumption) | (simp; exact cell_lt' (a := ⟨w.heap.size + 1, 4, none⟩) (by assumption))) (by first | assumption | go_simp)
       have f5 := keepf hb1 (b := w.heap.size + 1) (o := 5) (by first | (simp <;> omega) | exact cell_lt' (a := ⟨w.heap.size + 1, 5, none⟩) (by assumption) | (simp; exact cell_lt' (a := ⟨w.heap.size + 1, 5, none⟩) (by assumption))) (by first | assumption | go_simp)
       have lt1 : w.heap.size + 1 < w1.heap.size := cell_lt' k0
       have B1 := on b0 hb1; clear hb1))
  refine bodyPost_ret (v := .tuple #[.agg #[.int .i64 0, .int .i64 0, .int .i64 0, .int .i64 0, .int .i64 0, .slice none 0 0], .slice none 0 0, .int .i64 1]) ?_ rfl ?_
  · rw [results_cell3 rfl]
    go_simp
  · refine ⟨rfl, ?_⟩
    repeat (first | with_reducible exact B1 | (with_reducible refine Below.setCell ?_ (by first | (simp; done) | (simp; omega) | omega) _) | (with_reducible refine Below.alloc ?_ (by first | (simp; done) | (simp; omega) | omega) _))

structure FoldAt (w W2 wr : World) (pm gt n k : Nat) (m0 : Mp) (l : List Ch) (R : Value) : Prop where
  map : MapAt wr w.heap.size pm (foldP m0 (l.take k)).2 R
  turns : Turns (fun j => j = pm ∨ j = gt) W2 wr
  new : ∀ g, R.ownBlock = some g → W2.heap.size ≤ g
  told : Ns wr gt 31 ((foldP m0 (l.take k)).1 ++ List.replicate (n - k) 0)
  lt : gt < W2.heap.size
  ne : pm ≠ gt
  big : w.heap.size ≤ W2.heap.size

theorem FoldAt.below {w W2 wr wr' : World} {pm gt n k : Nat} {m0 : Mp} {l : List Ch} {R : Value} (h : FoldAt w W2 wr pm gt n k m0 l R) (b : Below wr.heap.size wr wr') : FoldAt w W2 wr' pm gt n k m0 l R :=
  ⟨h.map.below b, h.turns.more (Turns.of_below (F := fun _ => False) b) (fun _ h => h.elim), h.new, h.told.below b, h.lt, h.ne, h.big⟩

theorem FoldAt.toldM {w W2 wr w3 : World} {pm gt n k : Nat} {m0 m' : Mp} {l : List Ch} {R : Value} (h : FoldAt w W2 wr pm gt n k m0 l R) (hm : Moved wr w3 w.heap.size pm R m') : Ns w3 gt 31 ((foldP m0 (l.take k)).1 ++ List.replicate (n - k) 0) := by
  obtain ⟨R', h1, h2, h3⟩ := hm
  exact h.told.turns h2 (fun e => by
    rcases e with e | e
    · exact h.ne e.symm
    · have := h.new _ e; have := h.lt; omega)

theorem rep_set {T : List Int} {k n : Nat} (hT : T.length = k) (hk : k < n) (v : Int) : (T ++ List.replicate (n - k) 0).set k v = T ++ [v] ++ List.replicate (n - (k + 1)) 0 := by
  obtain ⟨q, hq⟩ : ∃ q, n - k = q + 1 := ⟨n - k - 1, by omega⟩
  rw [hq, show n - (k + 1) = q by omega, List.replicate_succ, List.set_append_right _ _ (by omega), hT, Nat.sub_self, List.set_cons_zero]
  simp

theorem FoldAt.step {w W2 wr w3 : World} {pm gt n k : Nat} {m0 : Mp} {l : List Ch} {c : Ch} {R : Value} (h : FoldAt w W2 wr pm gt n k m0 l R) (hc : l[k]? = some c) (hl : l.length = n) (hm : Moved wr w3 w.heap.size pm R (advP (foldP m0 (l.take k)).2 c).2) :
    ∃ R', FoldAt w W2 (w3.setCell ⟨gt, k, none⟩ (.int .i64 (advP (foldP m0 (l.take k)).2 c).1)) pm gt n (k + 1) m0 l R' := by
  have hT := h.toldM hm
  have hkn : k < n := by rw [← hl]; exact (List.getElem?_eq_some_iff.1 hc).1
  obtain ⟨R', h1, h2, h3⟩ := hm
  have e := fold_take m0 hc
  have hlt := h.lt
  have hsz := h.turns.size
  have hnb : ∀ g, R'.ownBlock = some g → W2.heap.size ≤ g := fun g hg => by
    rcases h3 g hg with q | q
    · exact h.new g q
    · omega
  refine ⟨R', ?_, ?_, hnb, ?_, h.lt, h.ne, h.big⟩
  · rw [e]
    exact h1.turns (turns_put (Turns.refl _ _) _ _) (fun e => h.ne e) (fun g hg e => by have := hnb g hg; omega)
  · refine Turns.setCell (p := ⟨gt, k, none⟩) ?_ (.inl (.inr rfl)) _
    exact h.turns.more h2 (fun i hi => by
      rcases hi with q | q
      · exact .inl (.inl q)
      · exact .inr (h.new i q))
  · rw [e]
    have := hT.set k (advP (foldP m0 (l.take k)).2 c).1
    rw [rep_set (by rw [foldP_len, List.length_take]; omega) hkn] at this
    exact this

set_option maxHeartbeats 1600000 in
theorem fold_yes {w : World} {x : Option Addr} {n c : Nat} {l : List Ch} (p : Pool) (hk : p.k ≤ 9223372036854775807) (hp : poolB p = true) (h : Cs w x n c l) (hn : n ≤ 300) :
    Calls Try.prog 23 #[vP p, .slice x n c] w fun e w' => ∃ y yn yc gt, e = .returned (.tuple #[vM (foldP ⟨0, p, []⟩ l).2.ep (foldP ⟨0, p, []⟩ l).2.pool y yn yc, .slice (some ⟨gt, 0, none⟩) n n, .int .i64 0]) ∧
      Hid (Below w.heap.size w w' ∧ Own w' w.heap.size 28 8 enO (.slice y yn yc) (foldP ⟨0, p, []⟩ l).2.osds ∧ Ns w' gt 31 (foldP ⟨0, p, []⟩ l).1 ∧ w.heap.size ≤ gt ∧ (foldP ⟨0, p, []⟩ l).2.osds.length ≤ 64) := by
  have hN := fun W => new_yes p W hk hp
  have HC := hid h
  have HL := hid h.len
  have hmk := fun W => run_make_ns W 48 31 (by kernel_rfl) (by kernel_rfl) n (by omega)
  obtain ⟨m0, hm0⟩ : ∃ m0, m0 = (⟨0, p, []⟩ : Mp) := ⟨_, rfl⟩
  rw [← hm0]
  have HM0 := hid hm0
  have HEP : Hid (∀ k, 0 ≤ (foldP m0 (l.take k)).2.ep ∧ (foldP m0 (l.take k)).2.ep ≤ 1048576) := fun k => fold_ep _ _ (by rw [HM0.out]; exact Int.le_refl _) (by rw [HM0.out]; show (0 : Int) ≤ 1048576; omega)
  clear hk hp h hm0
  obtain ⟨k, m, g, d⟩ := p
  unfold vP vM at *
  dsimp only at hN ⊢
  have b0 : Below w.heap.size w ((w.alloc (.cells #[.int .i64 k, .int .i64 m, .int .i64 g, .int .i64 d] 23)).alloc (.cells #[.int .i64 0, .int .i64 0, .int .i64 0, .int .i64 0, .int .i64 0, .slice none 0 0] 26)) := on (al _ _) (al _ _)
  obtain ⟨rz, hrz⟩ : ∃ r : Array Value, r = ((List.replicate n (0 : Int)).map fun v => Value.int .i64 v).toArray := ⟨_, rfl⟩
  rw [← hrz] at hmk
  have HRZ := hid hrz
  have hbk : (((w.alloc (.cells #[.int .i64 k, .int .i64 m, .int .i64 g, .int .i64 d] 23)).alloc (.cells #[.int .i64 0, .int .i64 0, .int .i64 0, .int .i64 0, .int .i64 0, .slice none 0 0] 26))).heap[w.heap.size + 1]? = some (.cells #[.int .i64 0, .int .i64 0, .int .i64 0, .int .i64 0, .int .i64 0, .slice none 0 0] 26 (0, 0)) := by
    have := heap_alloc_new (w.alloc (.cells #[.int .i64 k, .int .i64 m, .int .i64 g, .int .i64 d] 23)) (.cells #[.int .i64 0, .int .i64 0, .int .i64 0, .int .i64 0, .int .i64 0, .slice none 0 0] 26)
    simpa using this
  have HBK := hid hbk
  have HB0 := hid b0
  clear hrz hbk b0
  go_enter Try.func23, Try.ntmps23
  go_wp2_with (first
    | (
       go_at_call 9; refine (hN _).mono ?_; rintro e w1 ⟨rfl, hb1⟩; clear hN
       have B1 := hid (on HB0.out hb1)
       have BK1 : Hid (w1.heap[w.heap.size + 1]? = some (.cells #[.int .i64 0, .int .i64 0, .int .i64 0, .int .i64 0, .int .i64 0, .slice none 0 0] 26 (0, 0))) := (hb1.block _ (by simp)).trans HBK.out
       clear hb1))
  obtain ⟨W2, hW2⟩ : ∃ W2, W2 = (w1.alloc (.cells #[.int .i64 0, .int .i64 k, .int .i64 m, .int .i64 g, .int .i64 d, .slice none 0 0] 26)).alloc (.cells rz 31) := ⟨_, rfl⟩
  have bW : Below w1.heap.size w1 W2 := by rw [hW2]; exact on (al _ _) (al _ _)
  have hsz : W2.heap.size = w1.heap.size + 1 + 1 := by rw [hW2]; simp
  have hF0 : FoldAt w W2 W2 w1.heap.size (w1.heap.size + 1) n 0 m0 l (.slice none 0 0) := by
    refine ⟨⟨?_, ?_, ?_⟩, Turns.refl _ _, fun g hg => (by cases hg), ?_, by omega, by omega, by have := B1.out.size; omega⟩
    · rw [HM0.out, hW2]
      have h1 := heap_alloc_new w1 (.cells #[.int .i64 0, .int .i64 k, .int .i64 m, .int .i64 g, .int .i64 d, .slice none 0 0] 26)
      exact ((al (w1.alloc (.cells #[.int .i64 0, .int .i64 k, .int .i64 m, .int .i64 g, .int .i64 d, .slice none 0 0] 26)) (.cells rz 31)).block _ (by simp)).trans h1
    · rw [HM0.out]
      exact Own.nil _ _ _ _ _
    · rw [HM0.out]
      exact Nat.zero_le _
    · show Ns W2 _ _ (List.replicate (n - 0) 0)
      rw [Nat.sub_zero, hW2, HRZ.out]
      have := Ns.new (w1.alloc (.cells #[.int .i64 0, .int .i64 k, .int .i64 m, .int .i64 g, .int .i64 d, .slice none 0 0] 26)) 31 (List.replicate n 0)
      simpa using this
  have HF0 := hid hF0
  have HW2 := hid hW2
  have HBW := hid bW
  have HSZ := hid hsz
  have lt1 : w.heap.size + 1 < w1.heap.size := (Array.getElem?_eq_some_iff.1 BK1.out).1
  rw [← hW2]
  clear hF0 hW2 bW hsz hmk
  go_loopw [26, 10, 11] (fun i _ _ wr => ∃ q : Nat, q ≤ n ∧ i = .int .i64 q ∧ Hid (∃ R, FoldAt w W2 wr w1.heap.size (w1.heap.size + 1) n q m0 l R)) (fun i _ _ _ => n - (intOf i).toNat)
  case atStart => exact ⟨0, by omega, rfl, _, HF0.out⟩
  case round =>
    obtain ⟨q, hq, rfl, HR⟩ := hrel
    by_cases hlt : q < n
    · have hqn : (q : Int) < (n : Int) := by omega
      obtain ⟨cc, hcc⟩ : ∃ a, l[q]? = some a := ⟨l[q]'(by have := HL.out; omega), List.getElem?_eq_getElem (by have := HL.out; omega)⟩
      obtain ⟨R, hR⟩ := HR.out
      have hBr : Below w.heap.size w wr := on B1.out (HBW.out.trans (hR.turns.below (B := w1.heap.size) (fun k hk => by omega) (by have := HSZ.out; omega)))
      have hc0 := HC.out.below hBr
      rcases hc0.row with h0 | ⟨b, o, rfl, hbl, hcell⟩
      · omega
      obtain ⟨k0, k1, k2, k3, k4, k5, k6, k7, k8⟩ := Cs.at hcell hcc
      have HCC := hid hcc
      have bx := al wr (.cells #[.int .i64 cc.kind, .int .i64 cc.osd.id, .bool cc.osd.up, .bool cc.osd.inn, .int .i64 cc.osd.wt, .int .i64 cc.osd.life, .int .i64 cc.osd.boot, .int .i64 cc.osd.host, .int .i64 cc.osd.rack] 30)
      have hR1 := hR.below bx
      have hA := advance_any cc hR1.map (by have := hR1.big; have := hR1.turns.size; omega) (HEP.out q).1 (HEP.out q).2
      have HR1 := hid hR1
      obtain ⟨r, hr⟩ : ∃ r, r = advP (foldP m0 (l.take q)).2 cc := ⟨_, rfl⟩
      rw [← hr] at hA
      have HRr := hid hr
      obtain ⟨r1, r2⟩ := r
      clear hc0 hcell hcc hR hR1 hr
      obtain ⟨ck, i0, i1, i2, i3, i4, i5, i6, i7⟩ := cc
      unfold vC at hA
      dsimp only at k0 k1 k2 k3 k4 k5 k6 k7 k8 hA bx
      go_wp2_with (first
        | (
           go_at_call 41; refine hA.mono ?_; rintro e w3 ⟨rfl, H3⟩; clear hA
           have hT := HR1.out.toldM H3.out
           obtain ⟨t0, ht0⟩ : ∃ v, ((foldP m0 (l.take q)).1 ++ List.replicate (n - q) 0)[q]? = some v := ⟨_, List.getElem?_eq_getElem (by rw [List.length_append, foldP_len, List.length_take, List.length_replicate]; have := HL.out; omega)⟩
           have u0 := hT.cell ht0
           have f0 := hT.fr q
           clear hT ht0))
      go_roundw
      case rel => 
        refine ⟨q + 1, by omega, by go_num, ?_⟩
        have := HR1.out.step HCC.out HL.out (by rw [← HRr.out]; exact H3.out)
        rw [← HRr.out] at this
        exact this
      case measure => simp [intOf]; omega
    · have hq2 : q = n := by omega
      subst hq2
      obtain ⟨R, hR⟩ := HR.out
      have htk : l.take q = l := by rw [← HL.out]; exact List.take_length
      have hM := hR.map
      have hTd := hR.told
      rw [htk] at hM hTd
      rw [Nat.sub_self, List.replicate_zero, List.append_nil] at hTd
      have hBr : Below w.heap.size w wr := on B1.out (HBW.out.trans (hR.turns.below (B := w1.heap.size) (fun k hk => by omega) (by have := HSZ.out; omega)))
      have hbk : wr.heap[w.heap.size + 1]? = some (.cells #[.int .i64 0, .int .i64 0, .int .i64 0, .int .i64 0, .int .i64 0, .slice none 0 0] 26 (0, 0)) :=
        ((hR.turns.block _ (by have := HSZ.out; omega) (by omega)).trans (HBW.out.block _ lt1)).trans BK1.out
      obtain ⟨y, yc, hRe, _⟩ := hM.own.form
      obtain ⟨m', hm'⟩ : ∃ m', m' = (foldP m0 l).2 := ⟨_, rfl⟩
      rw [← hm'] at hM hRe
      have HMm := hid hm'
      obtain ⟨yn, hyn⟩ : ∃ yn, yn = m'.osds.length := ⟨_, rfl⟩
      rw [← hyn] at hRe
      subst hRe
      have e0 : wr.cell? ⟨w1.heap.size, 0, none⟩ = some (.int .i64 m'.ep) := cell_heap hM.blk rfl
      have e1 : wr.cell? ⟨w1.heap.size, 1, none⟩ = some (.int .i64 m'.pool.k) := cell_heap hM.blk rfl
      have e2 : wr.cell? ⟨w1.heap.size, 2, none⟩ = some (.int .i64 m'.pool.m) := cell_heap hM.blk rfl
      have e3 : wr.cell? ⟨w1.heap.size, 3, none⟩ = some (.int .i64 m'.pool.pgs) := cell_heap hM.blk rfl
      have e4 : wr.cell? ⟨w1.heap.size, 4, none⟩ = some (.int .i64 m'.pool.dom) := cell_heap hM.blk rfl
      have e5 : wr.cell? ⟨w1.heap.size, 5, none⟩ = some (.slice y yn yc) := cell_heap hM.blk rfl
      have d0 : wr.cell? ⟨w.heap.size + 1, 0, none⟩ = some (.int .i64 0) := cell_heap hbk rfl
      have d1 : wr.cell? ⟨w.heap.size + 1, 1, none⟩ = some (.int .i64 0) := cell_heap hbk rfl
      have d2 : wr.cell? ⟨w.heap.size + 1, 2, none⟩ = some (.int .i64 0) := cell_heap hbk rfl
      have d3 : wr.cell? ⟨w.heap.size + 1, 3, none⟩ = some (.int .i64 0) := cell_heap hbk rfl
      have d4 : wr.cell? ⟨w.heap.size + 1, 4, none⟩ = some (.int .i64 0) := cell_heap hbk rfl
      have d5 : wr.cell? ⟨w.heap.size + 1, 5, none⟩ = some (.slice none 0 0) := cell_heap hbk rfl
      have f0 := fr_heap hbk 0
      have f1 := fr_heap hbk 1
      have f2 := fr_heap hbk 2
      have f3 := fr_heap hbk 3
      have f4 := fr_heap hbk 4
      have f5 := fr_heap hbk 5
      have HMa := hid hM
      have HTd := hid hTd
      have HBr := hid hBr
      have HLN := hid hlt
      have HRn : Hid (∀ g, (Value.slice y yn yc).ownBlock = some g → W2.heap.size ≤ g) := hR.new
      obtain ⟨ep, ⟨pk, pm, pg, pd⟩, os⟩ := m'
      dsimp only at e0 e1 e2 e3 e4 e5
      have hnes : w1.heap.size ≠ w.heap.size + 1 := by omega
      have hlt1 : w.heap.size + 1 < wr.heap.size := cell_lt' d0
      clear hM hTd hbk hBr hR hyn hlt htk hm'
      go_wp2_with fail
      refine bodyPost_ret (v := .tuple #[.agg #[.int .i64 ep, .int .i64 pk, .int .i64 pm, .int .i64 pg, .int .i64 pd, .slice y yn yc], .slice (some ⟨w1.heap.size + 1, 0, none⟩) q q, .int .i64 0]) ?_ rfl ?_
      · rw [results_cell3 rfl]
        go_simp
      · rw [← HMm.out]
        refine ⟨y, yn, yc, w1.heap.size + 1, rfl, ?_, ?_, ?_, by have := B1.out.size; omega, HMa.out.small⟩
        · repeat (first | with_reducible exact HBr.out | (with_reducible refine Below.setCell ?_ (by first | (simp; done) | (simp; omega) | omega) _) | (with_reducible refine Below.alloc ?_ (by first | (simp; done) | (simp; omega) | omega) _))
        · refine HMa.out.own.turns (G := fun k => k = w.heap.size + 1) ?_ (fun g hg e => by have := HRn.out g hg; have := HSZ.out; omega)
          exact turns_put (turns_put (turns_put (turns_put (turns_put (turns_put (Turns.refl _ _) _ _) _ _) _ _) _ _) _ _) _ _
        · refine HTd.out.turns (G := fun k => k = w.heap.size + 1) ?_ (fun e => by have e2 : w1.heap.size + 1 = w.heap.size + 1 := e; omega)
          exact turns_put (turns_put (turns_put (turns_put (turns_put (turns_put (Turns.refl _ _) _ _) _ _) _ _) _ _) _ _) _ _

end Go.Proofs.Ytnddhlkdemibgaa.At

/-
  The statements' question whether an OSD comes up.
  Conditions: none.
-/
namespace Go.Proofs.Ytnddhlkdemibgaa.At
open Go.RowKit By Fl
set_option linter.unusedVariables false
set_option linter.unusedSimpArgs false
set_option maxRecDepth 100000

theorem cs_new (w : World) (l : List Ch) (hl : l.length ≤ 1000) : Cs (w.alloc (.cells (flat enC l).toArray 30)) (some ⟨w.heap.size, 0, none⟩) l.length l.length l := by
  refine ⟨rfl, Nat.le_refl _, by omega, (fun e => by cases e), .inr ⟨w.heap.size, 0, rfl, by simp, fun k a hk j v hv => ?_⟩⟩
  have hj : j < 9 := (List.getElem?_eq_some_iff.1 hv).1
  have h := flat_get (enc := enC) (sz := 9) (fun a => rfl) l k a hk j hj
  refine cell_heap (heap_alloc_new w _) ?_
  rw [Nat.zero_add]
  simp [h, hv]

def wl : List Ch := [⟨1, noO 3⟩, ⟨2, ⟨3, false, false, 0, 7, 1, 0, 0⟩⟩, ⟨3, noO 9⟩]
def wo : Osd := ⟨3, true, false, 0, 7, 1, 0, 0⟩
theorem wfold : foldP ⟨0, ⟨2, 1, 4, 0⟩, []⟩ wl = ([0, 0, 4], ⟨2, ⟨2, 1, 4, 0⟩, [wo]⟩) := by rfl
theorem wfind : findP [wo] 3 = (wo, true) := by rfl

set_option maxHeartbeats 1600000 in
theorem awake_any (w : World) : Calls Try.prog 19 #[] w fun e w' => e = .returned (.bool true) ∧ Below w.heap.size w w' := by
  have hF := fold_yes (⟨2, 1, 4, 0⟩ : Pool) (by decide) (by rfl) (cs_new w wl (by decide)) (by decide)
  rw [wfold] at hF
  have hFd := fun W (x : Option Addr) (n c : Nat) (h : Os W x n c [wo]) => find_any ⟨2, ⟨2, 1, 4, 0⟩, [wo]⟩ 3 h
  dsimp only at hFd
  rw [wfind] at hFd
  have b0 := al w (.cells (flat enC wl).toArray 30)
  have HB := hid b0
  clear b0
  change Calls Try.prog 23 #[.agg #[.int .i64 2, .int .i64 1, .int .i64 4, .int .i64 0], .slice (some ⟨w.heap.size, 0, none⟩) 3 3] (w.alloc (.cells #[.int .i64 1, .int .i64 3, .bool false, .bool false, .int .i64 0, .int .i64 0, .int .i64 0, .int .i64 0, .int .i64 0, .int .i64 2, .int .i64 3, .bool false, .bool false, .int .i64 0, .int .i64 7, .int .i64 1, .int .i64 0, .int .i64 0, .int .i64 3, .int .i64 9, .bool false, .bool false, .int .i64 0, .int .i64 0, .int .i64 0, .int .i64 0, .int .i64 0] 30)) _ at hF
  unfold vM vO wo at *
  dsimp only at hF hFd
  go_enter Try.func19, Try.ntmps19
  go_wp2_with (first
    | (
       go_at_call 23; refine hF.mono ?_; rintro e w1 ⟨y, yn, yc, gt, rfl, H1⟩; clear hF
       have n2 := H1.out.2.2.1.cell (i := 2) (v := 4) rfl
       have bm := al w1 (.cells #[.int .i64 2, .int .i64 2, .int .i64 1, .int .i64 4, .int .i64 0, .slice y yn yc] 26)
       have n2' := keep bm n2
       have hFd2 := hFd _ y yn yc ((own_os H1.out.2.1 (by decide)).below bm)
       have HBm := hid bm
       clear hFd bm)
    | (
       go_at_call 10; refine hFd2.mono ?_; rintro e w2 ⟨rfl, hb2⟩; clear hFd2
       have n3 := keep hb2 n2'
       have k0 := keep hb2 (b := w1.heap.size) (o := 0) (x := .int .i64 2) (by first | assumption | go_simp)
       have lt1 : gt < w2.heap.size := cell_lt' n3
       have lt2 : w1.heap.size < w2.heap.size := cell_lt' k0))
  go_ret
  exact ⟨rfl, on (on (on (on HB.out H1.out.1) HBm.out) hb2) (al _ _)⟩

end Go.Proofs.Ytnddhlkdemibgaa.At

/-
  Package atlas: which lists of OSDs and which maps may be.
  Conditions: the list lies in memory.
-/
namespace Go.Proofs.Ytnddhlkdemibgaa.At
open Go.RowKit By Fl
set_option linter.unusedVariables false
set_option linter.unusedSimpArgs false
set_option maxRecDepth 100000

/- All ahead of k are as they should be. -/
def GoodTo (L : List Osd) (k : Nat) : Prop := ∀ (i : Nat) (a : Osd), i < k → L[i]? = some a → osdB a = true ∧ ∀ (j : Nat) (b : Osd), j < i → L[j]? = some b → lowB a b = true

theorem GoodTo.all {L : List Osd} (h : GoodTo L L.length) : goodB L = true := (goodB_iff L).2 fun i a ha => h i a (List.getElem?_eq_some_iff.1 ha).1 ha

theorem GoodTo.step {L : List Osd} {k : Nat} {a : Osd} (h : GoodTo L k) (ha : L[k]? = some a) (h1 : osdB a = true) (h2 : ∀ b, 0 < k → L[k - 1]? = some b → b.id < a.id) (h3 : movedB (L.take k) a = false) : GoodTo L (k + 1) := fun i c hi hc => by
  by_cases e : i = k
  · subst e
    have := Option.some.inj (ha.symm.trans hc)
    subst this
    refine ⟨h1, fun j b hj hb => (lowB_iff _ _).2 ⟨?_, ?_⟩⟩
    · have hlt := (List.getElem?_eq_some_iff.1 ha).1
      have hl : L[i - 1]? = some (L[i - 1]'(by omega)) := List.getElem?_eq_getElem _
      have hx := h2 _ (by omega) hl
      by_cases ej : j = i - 1
      · subst ej
        rw [hl] at hb
        injection hb with hb
        rw [← hb]
        exact hx
      · have := ((lowB_iff _ _).1 ((h (i - 1) _ (by omega) hl).2 j b (by omega) hb)).1
        omega
    · exact (moved_no _ _).1 h3 b (by
        rw [List.mem_iff_getElem?]
        exact ⟨j, by rw [List.getElem?_take, if_pos hj]; exact hb⟩)
  · exact h i c (by omega) hc

theorem bad_low {L : List Osd} {k : Nat} {a b : Osd} (ha : L[k + 1]? = some a) (hb : L[k]? = some b) (h : a.id ≤ b.id) : goodB L = false :=
  goodB_false ha (.inr ⟨k, b, by omega, hb, by
    cases hl : lowB a b with
    | false => rfl
    | true => have := ((lowB_iff _ _).1 hl).1; omega⟩)

theorem bad_moved {L : List Osd} {k : Nat} {a : Osd} (ha : L[k]? = some a) (h : movedB (L.take k) a = true) : goodB L = false := by
  obtain ⟨x, hx, h1, h2⟩ := (moved_iff _ _).1 h
  obtain ⟨j, hj⟩ := List.mem_iff_getElem?.1 hx
  rw [List.getElem?_take] at hj
  split at hj
  · rename_i hjk
    exact goodB_false ha (.inr ⟨j, x, hjk, hj, by
      cases hl : lowB a x with
      | false => rfl
      | true => exact absurd (((lowB_iff _ _).1 hl).2 h1) h2⟩)
  · cases hj

set_option maxHeartbeats 1600000 in
theorem osdsMay_any {w : World} {x : Option Addr} {n c : Nat} {L : List Osd} (h : Os w x n c L) :
    Calls Try.prog 37 #[.slice x n c] w fun e w' => e = .returned (.bool (osdsB L)) ∧ Below w.heap.size w w' := by
  have hm := h.small
  have hlen := h.len
  unfold osdsB
  rw [hlen]
  by_cases h64 : 64 < n
  · have i64 : (64 : Int) < (n : Int) := by omega
    go_enter Try.func37, Try.ntmps37
    go_wp2_with fail
    go_ret
    exact ⟨by rw [decide_eq_false (by omega)]; rfl, Below.refl _ _⟩
  have i64 : (n : Int) ≤ 64 := by omega
  rw [decide_eq_true (by omega), Bool.true_and]
  have HO : Hid (Os w x n c L) := h
  have HL : Hid (L.length = n) := hlen
  clear h hlen hm h64
  go_enter Try.func37, Try.ntmps37
  go_wp2_with fail
  go_loopw [10, 3, 4] (fun i _ _ wr => ∃ k : Nat, k ≤ n ∧ i = .int .i64 k ∧ Hid (Below w.heap.size w wr ∧ GoodTo L k)) (fun i _ _ _ => n - (intOf i).toNat)
  case atStart => exact ⟨0, by omega, rfl, Below.refl _ _, fun i a hi => by omega⟩
  case round =>
    obtain ⟨k, hk, rfl, HR⟩ := hrel
    by_cases hlt : k < n
    · have hkn : (k : Int) < (n : Int) := by omega
      obtain ⟨m, hLm⟩ : ∃ m, L[k]? = some m := ⟨L[k]'(by have := HL.out; omega), List.getElem?_eq_getElem (by have := HL.out; omega)⟩
      have ho := HO.out.below HR.out.1
      have hO := osdMay_any m
      have hM := fun (p : After (wr.alloc (.cells #[.int .i64 m.id, .bool m.up, .bool m.inn, .int .i64 m.wt, .int .i64 m.life, .int .i64 m.boot, .int .i64 m.host, .int .i64 m.rack] 28))) => moved_any m ((ho.take hk).below (on (al _ _) p.h))
      obtain ⟨tm, htm⟩ : ∃ t, t = movedB (L.take k) m := ⟨_, rfl⟩
      obtain ⟨to, hto⟩ : ∃ t, t = osdB m := ⟨_, rfl⟩
      rw [← htm] at hM
      rw [← hto] at hO
      have HM : Hid (L[k]? = some m ∧ tm = movedB (L.take k) m ∧ to = osdB m) := ⟨hLm, htm, hto⟩
      rcases ho.row with h0 | ⟨b, o, rfl, hbl, hcell⟩
      · omega
      obtain ⟨k0, k1, k2, k3, k4, k5, k6, k7⟩ := Os.at (n := n) (c := c) hcell hLm
      have HC := hid hcell
      clear ho hLm hcell htm hto
      have HB : Hid (∀ b, 0 < k → L[k - 1]? = some b → True) := fun _ _ _ => trivial
      obtain ⟨id, up, inn, wt, life, boot, host, rack⟩ := m
      unfold vO at hO hM
      dsimp only at k0 k1 k2 k3 k4 k5 k6 k7 hO hM
      have b0 := al wr (.cells #[.int .i64 id, .bool up, .bool inn, .int .i64 wt, .int .i64 life, .int .i64 boot, .int .i64 host, .int .i64 rack] 28)
      obtain ⟨w0, hw0⟩ : ∃ w0, w0 = wr.alloc (.cells #[.int .i64 id, .bool up, .bool inn, .int .i64 wt, .int .i64 life, .int .i64 boot, .int .i64 host, .int .i64 rack] 28) := ⟨_, rfl⟩
      have c0 : w0.cell? ⟨wr.heap.size, 0, none⟩ = some (.int .i64 id) := by rw [hw0]; go_simp
      have c1 : w0.cell? ⟨wr.heap.size, 1, none⟩ = some (.bool up) := by rw [hw0]; go_simp
      have c2 : w0.cell? ⟨wr.heap.size, 2, none⟩ = some (.bool inn) := by rw [hw0]; go_simp
      have c3 : w0.cell? ⟨wr.heap.size, 3, none⟩ = some (.int .i64 wt) := by rw [hw0]; go_simp
      have c4 : w0.cell? ⟨wr.heap.size, 4, none⟩ = some (.int .i64 life) := by rw [hw0]; go_simp
      have c5 : w0.cell? ⟨wr.heap.size, 5, none⟩ = some (.int .i64 boot) := by rw [hw0]; go_simp
      have c6 : w0.cell? ⟨wr.heap.size, 6, none⟩ = some (.int .i64 host) := by rw [hw0]; go_simp
      have c7 : w0.cell? ⟨wr.heap.size, 7, none⟩ = some (.int .i64 rack) := by rw [hw0]; go_simp
      have HW := hid hw0
      rw [← hw0] at hM b0
      have B0 : Hid (Below w.heap.size w w0) := on HR.out.1 b0
      have q0 := After.cell c0
      have q1 := After.cell c1
      have q2 := After.cell c2
      have q3 := After.cell c3
      have q4 := After.cell c4
      have q5 := After.cell c5
      have q6 := After.cell c6
      have q7 := After.cell c7
      have HP : Hid (∀ (q : Nat) (a : Osd), L[q]? = some a → w0.cell? ⟨b, o + q * 8, none⟩ = some (.int .i64 a.id)) := fun q a ha => keep b0 (HC.out q a ha 0 _ rfl)
      clear hw0 c0 c1 c2 c3 c4 c5 c6 c7 b0 HC HB
      haveI := After.ne w0
      go_wp2_with fail
      rw [← HW.out]
      clear k0 k1 k2 k3 k4 k5 k6 k7
      cases to with
      | false =>
        clear hM
        refine wp_region_after (by kernel_rfl) (by kernel_rfl) ?_
        repeat (go_big_quiet_step ((first | (go_at_call 56; refine Calls.after_of (hO _)) | (go_at_call 57; refine Calls.after_of (hM _)))))
        refine wpQuiet_nil ?_
        rintro _ ⟨p, rfl⟩
        go_wp2_with fail
        go_ret
        exact ⟨by rw [goodB_false HM.out.1 (.inl HM.out.2.2.symm)]; rfl, on B0.out p.h⟩
      | true =>
        by_cases hk0 : k = 0
        · have hn0 : decide (0 < k) = false := by simp; omega
          have htm : tm = false := by rw [HM.out.2.1, hk0]; rfl
          subst htm
          have HK := hid hk0
          have hkc : (k : Int) ≤ (c : Int) := by have := HO.out.le; omega
          clear hk0
          refine wp_region_after (by kernel_rfl) (by kernel_rfl) ?_
          repeat (go_big_quiet_step ((first | (go_at_call 56; refine Calls.after_of (hO _)) | (go_at_call 57; refine Calls.after_of (hM _)))))
          refine wpQuiet_nil ?_
          rintro _ ⟨p, rfl⟩
          go_wp2_with fail
          go_roundw
          case rel =>
            exact ⟨k + 1, by omega, by go_num, on B0.out p.h, HR.out.2.step HM.out.1 HM.out.2.2.symm (fun b hb => by have := HK.out; omega) HM.out.2.1.symm⟩
          case measure => simp [intOf]; omega
        · obtain ⟨q, rfl⟩ : ∃ q, k = q + 1 := ⟨k - 1, by omega⟩
          obtain ⟨m2, hm2⟩ : ∃ m, L[q]? = some m := ⟨L[q]'(by have := HL.out; omega), List.getElem?_eq_getElem (by have := HL.out; omega)⟩
          have r0 := After.cell (HP.out q m2 hm2)
          have HM2 := hid hm2
          have hkc : ((q + 1 : Nat) : Int) ≤ (c : Int) := by have := HO.out.le; omega
          have sub1 : ((q + 1 : Nat) : Int) - 1 = (q : Int) := by omega
          have hq0 : (0 : Int) < ((q + 1 : Nat) : Int) := by omega
          have hqn : (q : Int) < (n : Int) := by omega
          obtain ⟨id2, hid2⟩ : ∃ i, i = m2.id := ⟨_, rfl⟩
          rw [← hid2] at r0
          have HI := hid hid2
          clear hid2 hm2 hk0
          by_cases hle : id ≤ id2
          · clear hM
            refine wp_region_after (by kernel_rfl) (by kernel_rfl) ?_
            repeat (go_big_quiet_step ((first | (go_at_call 56; refine Calls.after_of (hO _)) | (go_at_call 57; refine Calls.after_of (hM _)))))
            refine wpQuiet_nil ?_
            rintro _ ⟨p, rfl⟩
            go_wp2_with fail
            go_ret
            exact ⟨by rw [bad_low HM.out.1 HM2.out (by rw [← HI.out]; exact hle)]; rfl, on B0.out p.h⟩
          · cases tm with
            | true =>
              refine wp_region_after (by kernel_rfl) (by kernel_rfl) ?_
              repeat (go_big_quiet_step ((first | (go_at_call 56; refine Calls.after_of (hO _)) | (go_at_call 57; refine Calls.after_of (hM _)))))
              refine wpQuiet_nil ?_
              rintro _ ⟨p, rfl⟩
              go_wp2_with fail
              go_ret
              exact ⟨by rw [bad_moved HM.out.1 HM.out.2.1.symm]; rfl, on B0.out p.h⟩
            | false =>
              refine wp_region_after (by kernel_rfl) (by kernel_rfl) ?_
              repeat (go_big_quiet_step ((first | (go_at_call 56; refine Calls.after_of (hO _)) | (go_at_call 57; refine Calls.after_of (hM _)))))
              refine wpQuiet_nil ?_
              rintro _ ⟨p, rfl⟩
              go_wp2_with fail
              go_roundw
              case rel =>
                refine ⟨q + 1 + 1, by omega, by go_num, on B0.out p.h, HR.out.2.step HM.out.1 HM.out.2.2.symm (fun b hb hbb => ?_) HM.out.2.1.symm⟩
                have := Option.some.inj (HM2.out.symm.trans hbb)
                have h3 := HI.out
                rw [this] at h3
                show b.id < id
                omega
              case measure => simp [intOf]; omega
    · have hk2 : k = n := by omega
      subst hk2
      go_wp2_with fail
      go_ret
      exact ⟨by rw [GoodTo.all (by rw [HL.out]; exact HR.out.2)]; rfl, HR.out.1⟩

theorem check_any {w : World} {x : Option Addr} {n c : Nat} (m : Mp) (h : Os w x n c m.osds) (hk : m.pool.k ≤ 9223372036854775807) :
    Calls Try.prog 15 #[vM m.ep m.pool x n c] w fun e w' => e = .returned (.int .i64 (errB (mayM m))) ∧ Below w.heap.size w w' := by
  obtain ⟨ep, p, L⟩ := m
  have hW := fun n a b W => within_any n a b W
  have hP := fun W => poolMay_any p W hk
  have HO := hid h
  have hM := fun W (hb : Below w.heap.size w W) => osdsMay_any (HO.out.below hb)
  unfold mayM
  dsimp only at hM ⊢
  generalize poolB p = tp at *
  generalize osdsB L = tl at *
  clear h hk
  obtain ⟨k, m, g, d⟩ := p
  unfold vM
  unfold vP at hP
  dsimp only at hP ⊢
  have b0 := al w (.cells #[.int .i64 ep, .int .i64 k, .int .i64 m, .int .i64 g, .int .i64 d, .slice x n c] 26)
  have k5 : (w.alloc (.cells #[.int .i64 ep, .int .i64 k, .int .i64 m, .int .i64 g, .int .i64 d, .slice x n c] 26)).cell? ⟨w.heap.size, 5, none⟩ = some (.slice x n c) := by go_simp
  cases hwi : wi ep 0 1048576 with
  | false =>
    go_enter Try.func15, Try.ntmps15
    go_wp2_with (go_at_call 36; refine (hW _ _ _ _).mono ?_; rintro e w1 ⟨rfl, rfl⟩)
    go_ret
    exact ⟨by simp [errB], b0⟩
  | true =>
    cases tp with
    | false =>
      go_enter Try.func15, Try.ntmps15
      go_wp2_with (first
        | (go_at_call 36; refine (hW _ _ _ _).mono ?_; rintro e w1 ⟨rfl, rfl⟩)
        | (go_at_call 32; refine (hP _).mono ?_; rintro e w2 ⟨rfl, hb2⟩; clear hP))
      go_ret
      exact ⟨by simp [errB], on b0 hb2⟩
    | true =>
      cases tl with
      | false =>
        go_enter Try.func15, Try.ntmps15
        go_wp2_with (first
          | (go_at_call 36; refine (hW _ _ _ _).mono ?_; rintro e w1 ⟨rfl, rfl⟩)
          | (go_at_call 32; refine (hP _).mono ?_; rintro e w2 ⟨rfl, hb2⟩; clear hP; have q5 := keep hb2 k5; have hM2 := hM _ (on b0 hb2))
          | (go_at_call 37; refine hM2.mono ?_; rintro e w3 ⟨rfl, hb3⟩; clear hM2))
        go_ret
        exact ⟨by simp [errB], on (on b0 hb2) hb3⟩
      | true =>
        go_enter Try.func15, Try.ntmps15
        go_wp2_with (first
          | (go_at_call 36; refine (hW _ _ _ _).mono ?_; rintro e w1 ⟨rfl, rfl⟩)
          | (go_at_call 32; refine (hP _).mono ?_; rintro e w2 ⟨rfl, hb2⟩; clear hP; have q5 := keep hb2 k5; have hM2 := hM _ (on b0 hb2))
          | (go_at_call 37; refine hM2.mono ?_; rintro e w3 ⟨rfl, hb3⟩; clear hM2))
        go_ret
        exact ⟨by simp [errB], on (on b0 hb2) hb3⟩

end Go.Proofs.Ytnddhlkdemibgaa.At
