/-
  5 texts of this proof, one behind the other: AtNew, AtFold, AtAwake, AtCode, AtPut.
-/
import Derived.Test.YtnddhlkdemibgaaJ04
import Derived.Test.YtnddhlkdemibgaaJ06
import Derived.Test.YtnddhlkdemibgaaJ07
import Derived.Test.YtnddhlkdemibgaaJ02
import Derived.Lib.AppendZeros
/-
  Package atlas: New, Find; the document's Find.
  Conditions: lists lie in memory.
-/
namespace Go.Proofs.Ytnddhlkdemibgaa.At
open Go.RowKit By Fl
set_option linter.unusedVariables false
set_option linter.unusedSimpArgs false
set_option maxRecDepth 100000

theorem results_cell2 {fn : Func} {p q : Tmp} {ty : TypeId} (h : fn.results = #[.cell p ty, .tmp q]) (tmps : Array Value) (P : Program) (w : World) :
    (results fn tmps).run P w = ((asAddr (tmps.getD p undef)).run P w).andThen fun a w₁ => ((loadVar ty a).run P w₁).andThen fun v w₂ => .ok (.tuple #[v, tmps.getD q undef]) w₂ := by
  simp only [results, h]
  simp [Sem.run_bind, Result.andThen]

theorem new_no (p : Pool) (w : World) (hk : p.k ≤ 9223372036854775807) (hno : poolB p = false) : Calls Try.prog 9 #[vP p] w fun e w' => e = .returned (.tuple #[vM 0 noP none 0 0, .int .i64 1]) ∧ Below w.heap.size w w' := by
  have hP := fun W => poolMay_any p W hk
  rw [hno] at hP
  clear hno hk
  obtain ⟨k, m, g, d⟩ := p
  unfold vP at *
  dsimp only at hP ⊢
  have b0 : Below w.heap.size w ((w.alloc (.cells #[.int .i64 k, .int .i64 m, .int .i64 g, .int .i64 d] 23)).alloc (.cells #[.int .i64 0, .int .i64 0, .int .i64 0, .int .i64 0, .int .i64 0, .slice none 0 0] 26)) := on (al _ _) (al _ _)
  go_enter Try.func9, Try.ntmps9
  go_wp2_with (first
    | (
       go_at_call 32; refine (hP _).mono ?_; rintro e w1 ⟨rfl, hb1⟩; clear hP
       have k0 := keep hb1 (b := w.heap.size + 1) (o := 0) (x := .int .i64 0) (by first | assumption | go_simp)
       have k1 := keep hb1 (b := w.heap.size + 1) (o := 1) (x := .int .i64 0) (by first | assumption | go_simp)
       have k2 := keep hb1 (b := w.heap.size + 1) (o := 2) (x := .int .i64 0) (by first | assumption | go_simp)
       have k3 := keep hb1 (b := w.heap.size + 1) (o := 3) (x := .int .i64 0) (by first | assumption | go_simp)
       have k4 := keep hb1 (b := w.heap.size + 1) (o := 4) (x := .int .i64 0) (by first | assumption | go_simp)
       have k5 := keep hb1 (b := w.heap.size + 1) (o := 5) (x := .slice none 0 0) (by first | assumption | go_simp)
       have f0 := keepf hb1 (b := w.heap.size + 1) (o := 0) (by first | (simp <;> omega) | exact cell_lt' (a := ⟨w.heap.size + 1, 0, none⟩) (by assumption) | (simp; exact cell_lt' (a := ⟨w.heap.size + 1, 0, none⟩) (by assumption))) (by first | assumption | go_simp)
       have f1 := keepf hb1 (b := w.heap.size + 1) (o := 1) (by first | (simp <;> omega) | exact cell_lt' (a := ⟨w.heap.size + 1, 1, none⟩) (by assumption) | (simp; exact cell_lt' (a := ⟨w.heap.size + 1, 1, none⟩) (by assumption))) (by first | assumption | go_simp)
       have f2 := keepf hb1 (b := w.heap.size + 1) (o := 2) (by first | (simp <;> omega) | exact cell_lt' (a := ⟨w.heap.size + 1, 2, none⟩) (by assumption) | (simp; exact cell_lt' (a := ⟨w.heap.size + 1, 2, none⟩) (by assumption))) (by first | assumption | go_simp)
       have f3 := keepf hb1 (b := w.heap.size + 1) (o := 3) (by first | (simp <;> omega) | exact cell_lt' (a := ⟨w.heap.size + 1, 3, none⟩) (by assumption) | (simp; exact cell_lt' (a := ⟨w.heap.size + 1, 3, none⟩) (by assumption))) (by first | assumption | go_simp)
       have f4 := keepf hb1 (b := w.heap.size + 1) (o := 4) (by first | (simp <;> omega) | exact cell_lt' (a := ⟨w.heap.size + 1, 4, none⟩) (by assumption) | (simp; exact cell_lt' (a := ⟨w.heap.size + 1, 4, none⟩) (by assumption))) (by first | assumption | go_simp)
       have f5 := keepf hb1 (b := w.heap.size + 1) (o := 5) (by first | (simp <;> omega) | exact cell_lt' (a := ⟨w.heap.size + 1, 5, none⟩) (by assumption) | (simp; exact cell_lt' (a := ⟨w.heap.size + 1, 5, none⟩) (by assumption))) (by first | assumption | go_simp)
       have B1 := on b0 hb1; clear hb1))
  refine bodyPost_ret (v := .tuple #[vM 0 noP none 0 0, .int .i64 1]) ?_ rfl ?_
  · rw [results_cell2 rfl]
    unfold vM noP
    go_simp
  · refine ⟨rfl, ?_⟩
    repeat (first | with_reducible exact B1 | (with_reducible refine Below.setCell ?_ (by first | (simp; done) | (simp; omega) | omega) _) | (with_reducible refine Below.alloc ?_ (by first | (simp; done) | (simp; omega) | omega) _))

theorem new_yes (p : Pool) (w : World) (hk : p.k ≤ 9223372036854775807) (hyes : poolB p = true) : Calls Try.prog 9 #[vP p] w fun e w' => e = .returned (.tuple #[vM 0 p none 0 0, .int .i64 0]) ∧ Below w.heap.size w w' := by
  have hP := fun W => poolMay_any p W hk
  rw [hyes] at hP
  clear hyes hk
  obtain ⟨k, m, g, d⟩ := p
  unfold vP at *
  dsimp only at hP ⊢
  have b0 : Below w.heap.size w ((w.alloc (.cells #[.int .i64 k, .int .i64 m, .int .i64 g, .int .i64 d] 23)).alloc (.cells #[.int .i64 0, .int .i64 0, .int .i64 0, .int .i64 0, .int .i64 0, .slice none 0 0] 26)) := on (al _ _) (al _ _)
  go_enter Try.func9, Try.ntmps9
  go_wp2_with (first
    | (
       go_at_call 32; refine (hP _).mono ?_; rintro e w1 ⟨rfl, hb1⟩; clear hP
       have k0 := keep hb1 (b := w.heap.size + 1) (o := 0) (x := .int .i64 0) (by first | assumption | go_simp)
       have k1 := keep hb1 (b := w.heap.size + 1) (o := 1) (x := .int .i64 0) (by first | assumption | go_simp)
       have k2 := keep hb1 (b := w.heap.size + 1) (o := 2) (x := .int .i64 0) (by first | assumption | go_simp)
       have k3 := keep hb1 (b := w.heap.size + 1) (o := 3) (x := .int .i64 0) (by first | assumption | go_simp)
       have k4 := keep hb1 (b := w.heap.size + 1) (o := 4) (x := .int .i64 0) (by first | assumption | go_simp)
       have k5 := keep hb1 (b := w.heap.size + 1) (o := 5) (x := .slice none 0 0) (by first | assumption | go_simp)
       have f0 := keepf hb1 (b := w.heap.size + 1) (o := 0) (by first | (simp <;> omega) | exact cell_lt' (a := ⟨w.heap.size + 1, 0, none⟩) (by assumption) | (simp; exact cell_lt' (a := ⟨w.heap.size + 1, 0, none⟩) (by assumption))) (by first | assumption | go_simp)
       have f1 := keepf hb1 (b := w.heap.size + 1) (o := 1) (by first | (simp <;> omega) | exact cell_lt' (a := ⟨w.heap.size + 1, 1, none⟩) (by assumption) | (simp; exact cell_lt' (a := ⟨w.heap.size + 1, 1, none⟩) (by assumption))) (by first | assumption | go_simp)
       have f2 := keepf hb1 (b := w.heap.size + 1) (o := 2) (by first | (simp <;> omega) | exact cell_lt' (a := ⟨w.heap.size + 1, 2, none⟩) (by assumption) | (simp; exact cell_lt' (a := ⟨w.heap.size + 1, 2, none⟩) (by assumption))) (by first | assumption | go_simp)
       have f3 := keepf hb1 (b := w.heap.size + 1) (o := 3) (by first | (simp <;> omega) | exact cell_lt' (a := ⟨w.heap.size + 1, 3, none⟩) (by assumption) | (simp; exact cell_lt' (a := ⟨w.heap.size + 1, 3, none⟩) (by assumption))) (by first | assumption | go_simp)
       have f4 := keepf hb1 (b := w.heap.size + 1) (o := 4) (by first | (simp <;> omega) | exact cell_lt' (a := ⟨w.heap.size + 1, 4, none⟩) (by assumption) | (simp; exact cell_lt' (a := ⟨w.heap.size + 1, 4, none⟩) (by assumption))) (by first | assumption | go_simp)
       have f5 := keepf hb1 (b := w.heap.size + 1) (o := 5) (by first | (simp <;> omega) | exact cell_lt' (a := ⟨w.heap.size + 1, 5, none⟩) (by assumption) | (simp; exact cell_lt' (a := ⟨w.heap.size + 1, 5, none⟩) (by assumption))) (by first | assumption | go_simp)
       have j0 := keep hb1 (b := w.heap.size) (o := 0) (x := .int .i64 k) (by first | assumption | go_simp)
       have j1 := keep hb1 (b := w.heap.size) (o := 1) (x := .int .i64 m) (by first | assumption | go_simp)
       have j2 := keep hb1 (b := w.heap.size) (o := 2) (x := .int .i64 g) (by first | assumption | go_simp)
       have j3 := keep hb1 (b := w.heap.size) (o := 3) (x := .int .i64 d) (by first | assumption | go_simp)
       have B1 := on b0 hb1; clear hb1))
  refine bodyPost_ret (v := .tuple #[vM 0 ⟨k, m, g, d⟩ none 0 0, .int .i64 0]) ?_ rfl ?_
  · rw [results_cell2 rfl]
    unfold vM
    go_simp
  · refine ⟨rfl, ?_⟩
    repeat (first | with_reducible exact B1 | (with_reducible refine Below.setCell ?_ (by first | (simp; done) | (simp; omega) | omega) _) | (with_reducible refine Below.alloc ?_ (by first | (simp; done) | (simp; omega) | omega) _))

def findP (L : List Osd) (id : Int) : Osd × Bool := match L.findIdx? (isId id) with | some k => (L.getD k (noO 0), true) | none => (noO 0, false)

theorem find_any {w : World} {x : Option Addr} {n c : Nat} (m : Mp) (id : Int) (h : Os w x n c m.osds) :
    Calls Try.prog 10 #[vM m.ep m.pool x n c, .int .i64 id] w fun e w' => e = .returned (.tuple #[vO (findP m.osds id).1, .bool (findP m.osds id).2]) ∧ Below w.heap.size w w' := by
  obtain ⟨ep, ⟨k, mm, g, d⟩, L⟩ := m
  have HO := hid h
  dsimp only at HO ⊢
  unfold vM
  dsimp only
  have b0 : Below w.heap.size w ((w.alloc (.cells #[.int .i64 ep, .int .i64 k, .int .i64 mm, .int .i64 g, .int .i64 d, .slice x n c] 26)).alloc (.cells #[.int .i64 0, .bool false, .bool false, .int .i64 0, .int .i64 0, .int .i64 0, .int .i64 0, .int .i64 0] 28)) := on (al _ _) (al _ _)
  have hS := seat_any id (HO.out.below b0)
  have HB := hid b0
  have hsm := h.small
  clear h b0
  cases hi : L.findIdx? (isId id) with
  | none =>
    rw [show idx (isId id) L = -1 by unfold idx; rw [hi]] at hS
    have HF : Hid (findP L id = (noO 0, false)) := hid (by unfold findP; rw [hi])
    clear hi
    go_enter Try.func10, Try.ntmps10
    go_wp2_with (first
      | (
         go_at_call 33; refine hS.mono ?_; rintro e w1 ⟨rfl, hb1⟩; clear hS
         have k0 := keep hb1 (b := w.heap.size + 1) (o := 0) (x := .int .i64 0) (by first | assumption | go_simp)
         have k1 := keep hb1 (b := w.heap.size + 1) (o := 1) (x := .bool false) (by first | assumption | go_simp)
         have k2 := keep hb1 (b := w.heap.size + 1) (o := 2) (x := .bool false) (by first | assumption | go_simp)
         have k3 := keep hb1 (b := w.heap.size + 1) (o := 3) (x := .int .i64 0) (by first | assumption | go_simp)
         have k4 := keep hb1 (b := w.heap.size + 1) (o := 4) (x := .int .i64 0) (by first | assumption | go_simp)
         have k5 := keep hb1 (b := w.heap.size + 1) (o := 5) (x := .int .i64 0) (by first | assumption | go_simp)
         have k6 := keep hb1 (b := w.heap.size + 1) (o := 6) (x := .int .i64 0) (by first | assumption | go_simp)
         have k7 := keep hb1 (b := w.heap.size + 1) (o := 7) (x := .int .i64 0) (by first | assumption | go_simp)
         have f0 := keepf hb1 (b := w.heap.size + 1) (o := 0) (by first | (simp <;> omega) | exact cell_lt' (a := ⟨w.heap.size + 1, 0, none⟩) (by assumption) | (simp; exact cell_lt' (a := ⟨w.heap.size + 1, 0, none⟩) (by assumption))) (by first | assumption | go_simp)
         have f1 := keepf hb1 (b := w.heap.size + 1) (o := 1) (by first | (simp <;> omega) | exact cell_lt' (a := ⟨w.heap.size + 1, 1, none⟩) (by assumption) | (simp; exact cell_lt' (a := ⟨w.heap.size + 1, 1, none⟩) (by assumption))) (by first | assumption | go_simp)
         have f2 := keepf hb1 (b := w.heap.size + 1) (o := 2) (by first | (simp <;> omega) | exact cell_lt' (a := ⟨w.heap.size + 1, 2, none⟩) (by assumption) | (simp; exact cell_lt' (a := ⟨w.heap.size + 1, 2, none⟩) (by assumption))) (by first | assumption | go_simp)
         have f3 := keepf hb1 (b := w.heap.size + 1) (o := 3) (by first | (simp <;> omega) | exact cell_lt' (a := ⟨w.heap.size + 1, 3, none⟩) (by assumption) | (simp; exact cell_lt' (a := ⟨w.heap.size + 1, 3, none⟩) (by assumption))) (by first | assumption | go_simp)
         have f4 := keepf hb1 (b := w.heap.size + 1) (o := 4) (by first | (simp <;> omega) | exact cell_lt' (a := ⟨w.heap.size + 1, 4, none⟩) (by assumption) | (simp; exact cell_lt' (a := ⟨w.heap.size + 1, 4, none⟩) (by assumption))) (by first | assumption | go_simp)
         have f5 := keepf hb1 (b := w.heap.size + 1) (o := 5) (by first | (simp <;> omega) | exact cell_lt' (a := ⟨w.heap.size + 1, 5, none⟩) (by assumption) | (simp; exact cell_lt' (a := ⟨w.heap.size + 1, 5, none⟩) (by assumption))) (by first | assumption | go_simp)
         have f6 := keepf hb1 (b := w.heap.size + 1) (o := 6) (by first | (simp <;> omega) | exact cell_lt' (a := ⟨w.heap.size + 1, 6, none⟩) (by assumption) | (simp; exact cell_lt' (a := ⟨w.heap.size + 1, 6, none⟩) (by assumption))) (by first | assumption | go_simp)
         have f7 := keepf hb1 (b := w.heap.size + 1) (o := 7) (by first | (simp <;> omega) | exact cell_lt' (a := ⟨w.heap.size + 1, 7, none⟩) (by assumption) | (simp; exact cell_lt' (a := ⟨w.heap.size + 1, 7, none⟩) (by assumption))) (by first | assumption | go_simp)
         have B1 := on HB.out hb1; clear hb1))
    refine bodyPost_ret (v := .tuple #[vO (noO 0), .bool false]) ?_ rfl ?_
    · rw [results_cell2 rfl]
      unfold vO noO
      go_simp
    · rw [HF.out]
      refine ⟨rfl, ?_⟩
      repeat (first | with_reducible exact B1 | (with_reducible refine Below.setCell ?_ (by first | (simp; done) | (simp; omega) | omega) _) | (with_reducible refine Below.alloc ?_ (by first | (simp; done) | (simp; omega) | omega) _))
  | some q =>
    obtain ⟨a, ha, _, _⟩ := idx_some hi
    rw [show idx (isId id) L = (q : Int) by unfold idx; rw [hi]] at hS
    have HF : Hid (findP L id = (a, true)) := hid (by unfold findP; rw [hi]; simp [List.getD, ha])
    have HA := hid ha
    have hqn : q < n := by rw [← HO.out.len]; exact (List.getElem?_eq_some_iff.1 ha).1
    have hq0 : ¬ (q : Int) < 0 := by omega
    have hqI : (q : Int) < (n : Int) := by omega
    rcases HO.out.row with h0 | ⟨b, o, rfl, hbl, hcell⟩
    · omega
    have HC := hid hcell
    clear hi ha hcell
    obtain ⟨a0, a1, a2, a3, a4, a5, a6, a7⟩ := a
    go_enter Try.func10, Try.ntmps10
    go_wp2_with (first
      | (
         go_at_call 33; refine hS.mono ?_; rintro e w1 ⟨rfl, hb1⟩; clear hS
         have k0 := keep hb1 (b := w.heap.size + 1) (o := 0) (x := .int .i64 0) (by first | assumption | go_simp)
         have k1 := keep hb1 (b := w.heap.size + 1) (o := 1) (x := .bool false) (by first | assumption | go_simp)
         have k2 := keep hb1 (b := w.heap.size + 1) (o := 2) (x := .bool false) (by first | assumption | go_simp)
         have k3 := keep hb1 (b := w.heap.size + 1) (o := 3) (x := .int .i64 0) (by first | assumption | go_simp)
         have k4 := keep hb1 (b := w.heap.size + 1) (o := 4) (x := .int .i64 0) (by first | assumption | go_simp)
         have k5 := keep hb1 (b := w.heap.size + 1) (o := 5) (x := .int .i64 0) (by first | assumption | go_simp)
         have k6 := keep hb1 (b := w.heap.size + 1) (o := 6) (x := .int .i64 0) (by first | assumption | go_simp)
         have k7 := keep hb1 (b := w.heap.size + 1) (o := 7) (x := .int .i64 0) (by first | assumption | go_simp)
         have f0 := keepf hb1 (b := w.heap.size + 1) (o := 0) (by first | (simp <;> omega) | exact cell_lt' (a := ⟨w.heap.size + 1, 0, none⟩) (by assumption) | (simp; exact cell_lt' (a := ⟨w.heap.size + 1, 0, none⟩) (by assumption))) (by first | assumption | go_simp)
         have f1 := keepf hb1 (b := w.heap.size + 1) (o := 1) (by first | (simp <;> omega) | exact cell_lt' (a := ⟨w.heap.size + 1, 1, none⟩) (by assumption) | (simp; exact cell_lt' (a := ⟨w.heap.size + 1, 1, none⟩) (by assumption))) (by first | assumption | go_simp)
         have f2 := keepf hb1 (b := w.heap.size + 1) (o := 2) (by first | (simp <;> omega) | exact cell_lt' (a := ⟨w.heap.size + 1, 2, none⟩) (by assumption) | (simp; exact cell_lt' (a := ⟨w.heap.size + 1, 2, none⟩) (by assumption))) (by first | assumption | go_simp)
         have f3 := keepf hb1 (b := w.heap.size + 1) (o := 3) (by first | (simp <;> omega) | exact cell_lt' (a := ⟨w.heap.size + 1, 3, none⟩) (by assumption) | (simp; exact cell_lt' (a := ⟨w.heap.size + 1, 3, none⟩) (by assumption))) (by first | assumption | go_simp)
         have f4 := keepf hb1 (b := w.heap.size + 1) (o := 4) (by first | (simp <;> omega) | exact cell_lt' (a := ⟨w.heap.size + 1, 4, none⟩) (by assumption) | (simp; exact cell_lt' (a := ⟨w.heap.size + 1, 4, none⟩) (by assumption))) (by first | assumption | go_simp)
         have f5 := keepf hb1 (b := w.heap.size + 1) (o := 5) (by first | (simp <;> omega) | exact cell_lt' (a := ⟨w.heap.size + 1, 5, none⟩) (by assumption) | (simp; exact cell_lt' (a := ⟨w.heap.size + 1, 5, none⟩) (by assumption))) (by first | assumption | go_simp)
         have f6 := keepf hb1 (b := w.heap.size + 1) (o := 6) (by first | (simp <;> omega) | exact cell_lt' (a := ⟨w.heap.size + 1, 6, none⟩) (by assumption) | (simp; exact cell_lt' (a := ⟨w.heap.size + 1, 6, none⟩) (by assumption))) (by first | assumption | go_simp)
         have f7 := keepf hb1 (b := w.heap.size + 1) (o := 7) (by first | (simp <;> omega) | exact cell_lt' (a := ⟨w.heap.size + 1, 7, none⟩) (by assumption) | (simp; exact cell_lt' (a := ⟨w.heap.size + 1, 7, none⟩) (by assumption))) (by first | assumption | go_simp)
         have j5 := keep hb1 (b := w.heap.size) (o := 5) (x := .slice (some ⟨b, o, none⟩) n c) (by first | assumption | go_simp)
         have B1 := on HB.out hb1; clear hb1
         obtain ⟨l0, l1, l2, l3, l4, l5, l6, l7⟩ := Os.at (n := n) (c := c) (fun k a hk j v hv => keep B1 (HC.out k a hk j v hv)) HA.out
         have lt1 : w.heap.size + 1 < w1.heap.size := cell_lt' k0
         have lb1 : b ≠ w.heap.size + 1 := by omega))
    refine bodyPost_ret (v := .tuple #[vO ⟨a0, a1, a2, a3, a4, a5, a6, a7⟩, .bool true]) ?_ rfl ?_
    · rw [results_cell2 rfl]
      unfold vO
      go_simp
    · rw [HF.out]
      refine ⟨rfl, ?_⟩
      repeat (first | with_reducible exact B1 | (with_reducible refine Below.setCell ?_ (by first | (simp; done) | (simp; omega) | omega) _) | (with_reducible refine Below.alloc ?_ (by first | (simp; done) | (simp; omega) | omega) _))

end Go.Proofs.Ytnddhlkdemibgaa.At

/-
  Package atlas: Fold.
  Conditions: no more than 300 changes, that lie in memory.
-/
namespace Go.Proofs.Ytnddhlkdemibgaa.At
open Go.RowKit By Fl
set_option linter.unusedVariables false
set_option linter.unusedSimpArgs false
set_option maxRecDepth 100000

theorem results_cell3 {fn : Func} {p q r : Tmp} {ty : TypeId} (h : fn.results = #[.cell p ty, .tmp q, .tmp r]) (tmps : Array Value) (P : Program) (w : World) :
    (results fn tmps).run P w = ((asAddr (tmps.getD p undef)).run P w).andThen fun a w₁ => ((loadVar ty a).run P w₁).andThen fun v w₂ => .ok (.tuple #[v, tmps.getD q undef, tmps.getD r undef]) w₂ := by
  simp only [results, h]
  simp [Sem.run_bind, Result.andThen]

theorem fold_no {w : World} {x : Option Addr} {n c : Nat} (p : Pool) (hk : p.k ≤ 9223372036854775807) (hp : poolB p = false) :
    Calls Try.prog 23 #[vP p, .slice x n c] w fun e w' => e = .returned (.tuple #[vM 0 noP none 0 0, .slice none 0 0, .int .i64 1]) ∧ Below w.heap.size w w' := by
  have hN := fun W => new_no p W hk hp
  clear hk hp
  obtain ⟨k, m, g, d⟩ := p
  unfold vP vM noP at *
  dsimp only at hN ⊢
  have b0 : Below w.heap.size w ((w.alloc (.cells #[.int .i64 k, .int .i64 m, .int .i64 g, .int .i64 d] 23)).alloc (.cells #[.int .i64 0, .int .i64 0, .int .i64 0, .int .i64 0, .int .i64 0, .slice none 0 0] 26)) := on (al _ _) (al _ _)
  go_enter Try.func23, Try.ntmps23
  go_wp2_with (first
    | (
       go_at_call 9; refine (hN _).mono ?_; rintro e w1 ⟨rfl, hb1⟩; clear hN
       have k0 := keep hb1 (b := w.heap.size + 1) (o := 0) (x := .int .i64 0) (by first | assumption | go_simp)
       have k1 := keep hb1 (b := w.heap.size + 1) (o := 1) (x := .int .i64 0) (by first | assumption | go_simp)
       have k2 := keep hb1 (b := w.heap.size + 1) (o := 2) (x := .int .i64 0) (by first | assumption | go_simp)
       have k3 := keep hb1 (b := w.heap.size + 1) (o := 3) (x := .int .i64 0) (by first | assumption | go_simp)
       have k4 := keep hb1 (b := w.heap.size + 1) (o := 4) (x := .int .i64 0) (by first | assumption | go_simp)
       have k5 := keep hb1 (b := w.heap.size + 1) (o := 5) (x := .slice none 0 0) (by first | assumption | go_simp)
       have f0 := keepf hb1 (b := w.heap.size + 1) (o := 0) (by first | (simp <;> omega) | exact cell_lt' (a := ⟨w.heap.size + 1, 0, none⟩) (by assumption) | (simp; exact cell_lt' (a := ⟨w.heap.size + 1, 0, none⟩) (by assumption))) (by first | assumption | go_simp)
       have f1 := keepf hb1 (b := w.heap.size + 1) (o := 1) (by first | (simp <;> omega) | exact cell_lt' (a := ⟨w.heap.size + 1, 1, none⟩) (by assumption) | (simp; exact cell_lt' (a := ⟨w.heap.size + 1, 1, none⟩) (by assumption))) (by first | assumption | go_simp)
       have f2 := keepf hb1 (b := w.heap.size + 1) (o := 2) (by first | (simp <;> omega) | exact cell_lt' (a := ⟨w.heap.size + 1, 2, none⟩) (by assumption) | (simp; exact cell_lt' (a := ⟨w.heap.size + 1, 2, none⟩) (by assumption))) (by first | assumption | go_simp)
       have f3 := keepf hb1 (b := w.heap.size + 1) (o := 3) (by first | (simp <;> omega) | exact cell_lt' (a := ⟨w.heap.size + 1, 3, none⟩) (by assumption) | (simp; exact cell_lt' (a := ⟨w.heap.size + 1, 3, none⟩) (by assumption))) (by first | assumption | go_simp)
       have f4 := keepf hb1 (b := w.heap.size + 1) (o := 4) (by first | (simp <;> omega) | exact cell_lt' (a := ⟨w.heap.size + 1, 4, none⟩) (by assumption) | (simp; exact cell_lt' (a := ⟨w.heap.size + 1, 4, none⟩) (by assumption))) (by first | assumption | go_simp)
       have f5 := keepf hb1 (b := w.heap.size + 1) (o := 5) (by first | (simp <;> omega) | exact cell_lt' (a := ⟨w.heap.size + 1, 5, none⟩) (by assumption) | (simp; exact cell_lt' (a := ⟨w.heap.size + 1, 5, none⟩) (by assumption))) (by first | assumption | go_simp)
       have lt1 : w.heap.size + 1 < w1.heap.size := cell_lt' k0
       have B1 := on b0 hb1; clear hb1))
  refine bodyPost_ret (v := .tuple #[.agg #[.int .i64 0, .int .i64 0, .int .i64 0, .int .i64 0, .int .i64 0, .slice none 0 0], .slice none 0 0, .int .i64 1]) ?_ rfl ?_
  · rw [results_cell3 rfl]
    go_simp
  · refine ⟨rfl, ?_⟩
    repeat (first | with_reducible exact B1 | (with_reducible refine Below.setCell ?_ (by first | (simp; done) | (simp; omega) | omega) _) | (with_reducible refine Below.alloc ?_ (by first | (simp; done) | (simp; omega) | omega) _))

structure FoldAt (w W2 wr : World) (pm gt n k : Nat) (m0 : Mp) (l : List Ch) (R : Value) : Prop where
  map : MapAt wr w.heap.size pm (foldP m0 (l.take k)).2 R
  turns : Turns (fun j => j = pm ∨ j = gt) W2 wr
  new : ∀ g, R.ownBlock = some g → W2.heap.size ≤ g
  told : Ns wr gt 31 ((foldP m0 (l.take k)).1 ++ List.replicate (n - k) 0)
  lt : gt < W2.heap.size
  ne : pm ≠ gt
  big : w.heap.size ≤ W2.heap.size

theorem FoldAt.below {w W2 wr wr' : World} {pm gt n k : Nat} {m0 : Mp} {l : List Ch} {R : Value} (h : FoldAt w W2 wr pm gt n k m0 l R) (b : Below wr.heap.size wr wr') : FoldAt w W2 wr' pm gt n k m0 l R :=
  ⟨h.map.below b, h.turns.more (Turns.of_below (F := fun _ => False) b) (fun _ h => h.elim), h.new, h.told.below b, h.lt, h.ne, h.big⟩

theorem FoldAt.toldM {w W2 wr w3 : World} {pm gt n k : Nat} {m0 m' : Mp} {l : List Ch} {R : Value} (h : FoldAt w W2 wr pm gt n k m0 l R) (hm : Moved wr w3 w.heap.size pm R m') : Ns w3 gt 31 ((foldP m0 (l.take k)).1 ++ List.replicate (n - k) 0) := by
  obtain ⟨R', h1, h2, h3⟩ := hm
  exact h.told.turns h2 (fun e => by
    rcases e with e | e
    · exact h.ne e.symm
    · have := h.new _ e; have := h.lt; omega)

theorem rep_set {T : List Int} {k n : Nat} (hT : T.length = k) (hk : k < n) (v : Int) : (T ++ List.replicate (n - k) 0).set k v = T ++ [v] ++ List.replicate (n - (k + 1)) 0 := by
  obtain ⟨q, hq⟩ : ∃ q, n - k = q + 1 := ⟨n - k - 1, by omega⟩
  rw [hq, show n - (k + 1) = q by omega, List.replicate_succ, List.set_append_right _ _ (by omega), hT, Nat.sub_self, List.set_cons_zero]
  simp

theorem FoldAt.step {w W2 wr w3 : World} {pm gt n k : Nat} {m0 : Mp} {l : List Ch} {c : Ch} {R : Value} (h : FoldAt w W2 wr pm gt n k m0 l R) (hc : l[k]? = some c) (hl : l.length = n) (hm : Moved wr w3 w.heap.size pm R (advP (foldP m0 (l.take k)).2 c).2) :
    ∃ R', FoldAt w W2 (w3.setCell ⟨gt, k, none⟩ (.int .i64 (advP (foldP m0 (l.take k)).2 c).1)) pm gt n (k + 1) m0 l R' := by
  have hT := h.toldM hm
  have hkn : k < n := by rw [← hl]; exact (List.getElem?_eq_some_iff.1 hc).1
  obtain ⟨R', h1, h2, h3⟩ := hm
  have e := fold_take m0 hc
  have hlt := h.lt
  have hsz := h.turns.size
  have hnb : ∀ g, R'.ownBlock = some g → W2.heap.size ≤ g := fun g hg => by
    rcases h3 g hg with q | q
    · exact h.new g q
    · omega
  refine ⟨R', ?_, ?_, hnb, ?_, h.lt, h.ne, h.big⟩
  · rw [e]
    exact h1.turns (turns_put (Turns.refl _ _) _ _) (fun e => h.ne e) (fun g hg e => by have := hnb g hg; omega)
  · refine Turns.setCell (p := ⟨gt, k, none⟩) ?_ (.inl (.inr rfl)) _
    exact h.turns.more h2 (fun i hi => by
      rcases hi with q | q
      · exact .inl (.inl q)
      · exact .inr (h.new i q))
  · rw [e]
    have := hT.set k (advP (foldP m0 (l.take k)).2 c).1
    rw [rep_set (by rw [foldP_len, List.length_take]; omega) hkn] at this
    exact this

set_option maxHeartbeats 1600000 in
theorem fold_yes {w : World} {x : Option Addr} {n c : Nat} {l : List Ch} (p : Pool) (hk : p.k ≤ 9223372036854775807) (hp : poolB p = true) (h : Cs w x n c l) (hn : n ≤ 300) :
    Calls Try.prog 23 #[vP p, .slice x n c] w fun e w' => ∃ y yn yc gt, e = .returned (.tuple #[vM (foldP ⟨0, p, []⟩ l).2.ep (foldP ⟨0, p, []⟩ l).2.pool y yn yc, .slice (some ⟨gt, 0, none⟩) n n, .int .i64 0]) ∧
      Hid (Below w.heap.size w w' ∧ Own w' w.heap.size 28 8 enO (.slice y yn yc) (foldP ⟨0, p, []⟩ l).2.osds ∧ Ns w' gt 31 (foldP ⟨0, p, []⟩ l).1 ∧ w.heap.size ≤ gt ∧ (foldP ⟨0, p, []⟩ l).2.osds.length ≤ 64) := by
  have hN := fun W => new_yes p W hk hp
  have HC := hid h
  have HL := hid h.len
  have hmk := fun W => run_make_ns W 48 31 (by kernel_rfl) (by kernel_rfl) n (by omega)
  obtain ⟨m0, hm0⟩ : ∃ m0, m0 = (⟨0, p, []⟩ : Mp) := ⟨_, rfl⟩
  rw [← hm0]
  have HM0 := hid hm0
  have HEP : Hid (∀ k, 0 ≤ (foldP m0 (l.take k)).2.ep ∧ (foldP m0 (l.take k)).2.ep ≤ 1048576) := fun k => fold_ep _ _ (by rw [HM0.out]; exact Int.le_refl _) (by rw [HM0.out]; show (0 : Int) ≤ 1048576; omega)
  clear hk hp h hm0
  obtain ⟨k, m, g, d⟩ := p
  unfold vP vM at *
  dsimp only at hN ⊢
  have b0 : Below w.heap.size w ((w.alloc (.cells #[.int .i64 k, .int .i64 m, .int .i64 g, .int .i64 d] 23)).alloc (.cells #[.int .i64 0, .int .i64 0, .int .i64 0, .int .i64 0, .int .i64 0, .slice none 0 0] 26)) := on (al _ _) (al _ _)
  obtain ⟨rz, hrz⟩ : ∃ r : Array Value, r = ((List.replicate n (0 : Int)).map fun v => Value.int .i64 v).toArray := ⟨_, rfl⟩
  rw [← hrz] at hmk
  have HRZ := hid hrz
  have hbk : (((w.alloc (.cells #[.int .i64 k, .int .i64 m, .int .i64 g, .int .i64 d] 23)).alloc (.cells #[.int .i64 0, .int .i64 0, .int .i64 0, .int .i64 0, .int .i64 0, .slice none 0 0] 26))).heap[w.heap.size + 1]? = some (.cells #[.int .i64 0, .int .i64 0, .int .i64 0, .int .i64 0, .int .i64 0, .slice none 0 0] 26 (0, 0)) := by
    have := heap_alloc_new (w.alloc (.cells #[.int .i64 k, .int .i64 m, .int .i64 g, .int .i64 d] 23)) (.cells #[.int .i64 0, .int .i64 0, .int .i64 0, .int .i64 0, .int .i64 0, .slice none 0 0] 26)
    simpa using this
  have HBK := hid hbk
  have HB0 := hid b0
  clear hrz hbk b0
  go_enter Try.func23, Try.ntmps23
  go_wp2_with (first
    | (
       go_at_call 9; refine (hN _).mono ?_; rintro e w1 ⟨rfl, hb1⟩; clear hN
       have B1 := hid (on HB0.out hb1)
       have BK1 : Hid (w1.heap[w.heap.size + 1]? = some (.cells #[.int .i64 0, .int .i64 0, .int .i64 0, .int .i64 0, .int .i64 0, .slice none 0 0] 26 (0, 0))) := (hb1.block _ (by simp)).trans HBK.out
       clear hb1))
  obtain ⟨W2, hW2⟩ : ∃ W2, W2 = (w1.alloc (.cells #[.int .i64 0, .int .i64 k, .int .i64 m, .int .i64 g, .int .i64 d, .slice none 0 0] 26)).alloc (.cells rz 31) := ⟨_, rfl⟩
  have bW : Below w1.heap.size w1 W2 := by rw [hW2]; exact on (al _ _) (al _ _)
  have hsz : W2.heap.size = w1.heap.size + 1 + 1 := by rw [hW2]; simp
  have hF0 : FoldAt w W2 W2 w1.heap.size (w1.heap.size + 1) n 0 m0 l (.slice none 0 0) := by
    refine ⟨⟨?_, ?_, ?_⟩, Turns.refl _ _, fun g hg => (by cases hg), ?_, by omega, by omega, by have := B1.out.size; omega⟩
    · rw [HM0.out, hW2]
      have h1 := heap_alloc_new w1 (.cells #[.int .i64 0, .int .i64 k, .int .i64 m, .int .i64 g, .int .i64 d, .slice none 0 0] 26)
      exact ((al (w1.alloc (.cells #[.int .i64 0, .int .i64 k, .int .i64 m, .int .i64 g, .int .i64 d, .slice none 0 0] 26)) (.cells rz 31)).block _ (by simp)).trans h1
    · rw [HM0.out]
      exact Own.nil _ _ _ _ _
    · rw [HM0.out]
      exact Nat.zero_le _
    · show Ns W2 _ _ (List.replicate (n - 0) 0)
      rw [Nat.sub_zero, hW2, HRZ.out]
      have := Ns.new (w1.alloc (.cells #[.int .i64 0, .int .i64 k, .int .i64 m, .int .i64 g, .int .i64 d, .slice none 0 0] 26)) 31 (List.replicate n 0)
      simpa using this
  have HF0 := hid hF0
  have HW2 := hid hW2
  have HBW := hid bW
  have HSZ := hid hsz
  have lt1 : w.heap.size + 1 < w1.heap.size := (Array.getElem?_eq_some_iff.1 BK1.out).1
  rw [← hW2]
  clear hF0 hW2 bW hsz hmk
  go_loopw [26, 10, 11] (fun i _ _ wr => ∃ q : Nat, q ≤ n ∧ i = .int .i64 q ∧ Hid (∃ R, FoldAt w W2 wr w1.heap.size (w1.heap.size + 1) n q m0 l R)) (fun i _ _ _ => n - (intOf i).toNat)
  case atStart => exact ⟨0, by omega, rfl, _, HF0.out⟩
  case round =>
    obtain ⟨q, hq, rfl, HR⟩ := hrel
    by_cases hlt : q < n
    · have hqn : (q : Int) < (n : Int) := by omega
      obtain ⟨cc, hcc⟩ : ∃ a, l[q]? = some a := ⟨l[q]'(by have := HL.out; omega), List.getElem?_eq_getElem (by have := HL.out; omega)⟩
      obtain ⟨R, hR⟩ := HR.out
      have hBr : Below w.heap.size w wr := on B1.out (HBW.out.trans (hR.turns.below (B := w1.heap.size) (fun k hk => by omega) (by have := HSZ.out; omega)))
      have hc0 := HC.out.below hBr
      rcases hc0.row with h0 | ⟨b, o, rfl, hbl, hcell⟩
      · omega
      obtain ⟨k0, k1, k2, k3, k4, k5, k6, k7, k8⟩ := Cs.at hcell hcc
      have HCC := hid hcc
      have bx := al wr (.cells #[.int .i64 cc.kind, .int .i64 cc.osd.id, .bool cc.osd.up, .bool cc.osd.inn, .int .i64 cc.osd.wt, .int .i64 cc.osd.life, .int .i64 cc.osd.boot, .int .i64 cc.osd.host, .int .i64 cc.osd.rack] 30)
      have hR1 := hR.below bx
      have hA := advance_any cc hR1.map (by have := hR1.big; have := hR1.turns.size; omega) (HEP.out q).1 (HEP.out q).2
      have HR1 := hid hR1
      obtain ⟨r, hr⟩ : ∃ r, r = advP (foldP m0 (l.take q)).2 cc := ⟨_, rfl⟩
      rw [← hr] at hA
      have HRr := hid hr
      obtain ⟨r1, r2⟩ := r
      clear hc0 hcell hcc hR hR1 hr
      obtain ⟨ck, i0, i1, i2, i3, i4, i5, i6, i7⟩ := cc
      unfold vC at hA
      dsimp only at k0 k1 k2 k3 k4 k5 k6 k7 k8 hA bx
      go_wp2_with (first
        | (
           go_at_call 41; refine hA.mono ?_; rintro e w3 ⟨rfl, H3⟩; clear hA
           have hT := HR1.out.toldM H3.out
           obtain ⟨t0, ht0⟩ : ∃ v, ((foldP m0 (l.take q)).1 ++ List.replicate (n - q) 0)[q]? = some v := ⟨_, List.getElem?_eq_getElem (by rw [List.length_append, foldP_len, List.length_take, List.length_replicate]; have := HL.out; omega)⟩
           have u0 := hT.cell ht0
           have f0 := hT.fr q
           clear hT ht0))
      go_roundw
      case rel => 
        refine ⟨q + 1, by omega, by go_num, ?_⟩
        have := HR1.out.step HCC.out HL.out (by rw [← HRr.out]; exact H3.out)
        rw [← HRr.out] at this
        exact this
      case measure => simp [intOf]; omega
    · have hq2 : q = n := by omega
      subst hq2
      obtain ⟨R, hR⟩ := HR.out
      have htk : l.take q = l := by rw [← HL.out]; exact List.take_length
      have hM := hR.map
      have hTd := hR.told
      rw [htk] at hM hTd
      rw [Nat.sub_self, List.replicate_zero, List.append_nil] at hTd
      have hBr : Below w.heap.size w wr := on B1.out (HBW.out.trans (hR.turns.below (B := w1.heap.size) (fun k hk => by omega) (by have := HSZ.out; omega)))
      have hbk : wr.heap[w.heap.size + 1]? = some (.cells #[.int .i64 0, .int .i64 0, .int .i64 0, .int .i64 0, .int .i64 0, .slice none 0 0] 26 (0, 0)) :=
        ((hR.turns.block _ (by have := HSZ.out; omega) (by omega)).trans (HBW.out.block _ lt1)).trans BK1.out
      obtain ⟨y, yc, hRe, _⟩ := hM.own.form
      obtain ⟨m', hm'⟩ : ∃ m', m' = (foldP m0 l).2 := ⟨_, rfl⟩
      rw [← hm'] at hM hRe
      have HMm := hid hm'
      obtain ⟨yn, hyn⟩ : ∃ yn, yn = m'.osds.length := ⟨_, rfl⟩
      rw [← hyn] at hRe
      subst hRe
      have e0 : wr.cell? ⟨w1.heap.size, 0, none⟩ = some (.int .i64 m'.ep) := cell_heap hM.blk rfl
      have e1 : wr.cell? ⟨w1.heap.size, 1, none⟩ = some (.int .i64 m'.pool.k) := cell_heap hM.blk rfl
      have e2 : wr.cell? ⟨w1.heap.size, 2, none⟩ = some (.int .i64 m'.pool.m) := cell_heap hM.blk rfl
      have e3 : wr.cell? ⟨w1.heap.size, 3, none⟩ = some (.int .i64 m'.pool.pgs) := cell_heap hM.blk rfl
      have e4 : wr.cell? ⟨w1.heap.size, 4, none⟩ = some (.int .i64 m'.pool.dom) := cell_heap hM.blk rfl
      have e5 : wr.cell? ⟨w1.heap.size, 5, none⟩ = some (.slice y yn yc) := cell_heap hM.blk rfl
      have d0 : wr.cell? ⟨w.heap.size + 1, 0, none⟩ = some (.int .i64 0) := cell_heap hbk rfl
      have d1 : wr.cell? ⟨w.heap.size + 1, 1, none⟩ = some (.int .i64 0) := cell_heap hbk rfl
      have d2 : wr.cell? ⟨w.heap.size + 1, 2, none⟩ = some (.int .i64 0) := cell_heap hbk rfl
      have d3 : wr.cell? ⟨w.heap.size + 1, 3, none⟩ = some (.int .i64 0) := cell_heap hbk rfl
      have d4 : wr.cell? ⟨w.heap.size + 1, 4, none⟩ = some (.int .i64 0) := cell_heap hbk rfl
      have d5 : wr.cell? ⟨w.heap.size + 1, 5, none⟩ = some (.slice none 0 0) := cell_heap hbk rfl
      have f0 := fr_heap hbk 0
      have f1 := fr_heap hbk 1
      have f2 := fr_heap hbk 2
      have f3 := fr_heap hbk 3
      have f4 := fr_heap hbk 4
      have f5 := fr_heap hbk 5
      have HMa := hid hM
      have HTd := hid hTd
      have HBr := hid hBr
      have HLN := hid hlt
      have HRn : Hid (∀ g, (Value.slice y yn yc).ownBlock = some g → W2.heap.size ≤ g) := hR.new
      obtain ⟨ep, ⟨pk, pm, pg, pd⟩, os⟩ := m'
      dsimp only at e0 e1 e2 e3 e4 e5
      have hnes : w1.heap.size ≠ w.heap.size + 1 := by omega
      have hlt1 : w.heap.size + 1 < wr.heap.size := cell_lt' d0
      clear hM hTd hbk hBr hR hyn hlt htk hm'
      go_wp2_with fail
      refine bodyPost_ret (v := .tuple #[.agg #[.int .i64 ep, .int .i64 pk, .int .i64 pm, .int .i64 pg, .int .i64 pd, .slice y yn yc], .slice (some ⟨w1.heap.size + 1, 0, none⟩) q q, .int .i64 0]) ?_ rfl ?_
      · rw [results_cell3 rfl]
        go_simp
      · rw [← HMm.out]
        refine ⟨y, yn, yc, w1.heap.size + 1, rfl, ?_, ?_, ?_, by have := B1.out.size; omega, HMa.out.small⟩
        · repeat (first | with_reducible exact HBr.out | (with_reducible refine Below.setCell ?_ (by first | (simp; done) | (simp; omega) | omega) _) | (with_reducible refine Below.alloc ?_ (by first | (simp; done) | (simp; omega) | omega) _))
        · refine HMa.out.own.turns (G := fun k => k = w.heap.size + 1) ?_ (fun g hg e => by have := HRn.out g hg; have := HSZ.out; omega)
          exact turns_put (turns_put (turns_put (turns_put (turns_put (turns_put (Turns.refl _ _) _ _) _ _) _ _) _ _) _ _) _ _
        · refine HTd.out.turns (G := fun k => k = w.heap.size + 1) ?_ (fun e => by have e2 : w1.heap.size + 1 = w.heap.size + 1 := e; omega)
          exact turns_put (turns_put (turns_put (turns_put (turns_put (turns_put (Turns.refl _ _) _ _) _ _) _ _) _ _) _ _) _ _

end Go.Proofs.Ytnddhlkdemibgaa.At

/-
  The statements' question whether an OSD comes up.
  Conditions: none.
-/
namespace Go.Proofs.Ytnddhlkdemibgaa.At
open Go.RowKit By Fl
set_option linter.unusedVariables false
set_option linter.unusedSimpArgs false
set_option maxRecDepth 100000

theorem cs_new (w : World) (l : List Ch) (hl : l.length ≤ 1000) : Cs (w.alloc (.cells (flat enC l).toArray 30)) (some ⟨w.heap.size, 0, none⟩) l.length l.length l := by
  refine ⟨rfl, Nat.le_refl _, by omega, (fun e => by cases e), .inr ⟨w.heap.size, 0, rfl, by simp, fun k a hk j v hv => ?_⟩⟩
  have hj : j < 9 := (List.getElem?_eq_some_iff.1 hv).1
  have h := flat_get (enc := enC) (sz := 9) (fun a => rfl) l k a hk j hj
  refine cell_heap (heap_alloc_new w _) ?_
  rw [Nat.zero_add]
  simp [h, hv]

def wl : List Ch := [⟨1, noO 3⟩, ⟨2, ⟨3, false, false, 0, 7, 1, 0, 0⟩⟩, ⟨3, noO 9⟩]
def wo : Osd := ⟨3, true, false, 0, 7, 1, 0, 0⟩
theorem wfold : foldP ⟨0, ⟨2, 1, 4, 0⟩, []⟩ wl = ([0, 0, 4], ⟨2, ⟨2, 1, 4, 0⟩, [wo]⟩) := by rfl
theorem wfind : findP [wo] 3 = (wo, true) := by rfl

set_option maxHeartbeats 1600000 in
theorem awake_any (w : World) : Calls Try.prog 19 #[] w fun e w' => e = .returned (.bool true) ∧ Below w.heap.size w w' := by
  have hF := fold_yes (⟨2, 1, 4, 0⟩ : Pool) (by decide) (by rfl) (cs_new w wl (by decide)) (by decide)
  rw [wfold] at hF
  have hFd := fun W (x : Option Addr) (n c : Nat) (h : Os W x n c [wo]) => find_any ⟨2, ⟨2, 1, 4, 0⟩, [wo]⟩ 3 h
  dsimp only at hFd
  rw [wfind] at hFd
  have b0 := al w (.cells (flat enC wl).toArray 30)
  have HB := hid b0
  clear b0
  change Calls Try.prog 23 #[.agg #[.int .i64 2, .int .i64 1, .int .i64 4, .int .i64 0], .slice (some ⟨w.heap.size, 0, none⟩) 3 3] (w.alloc (.cells #[.int .i64 1, .int .i64 3, .bool false, .bool false, .int .i64 0, .int .i64 0, .int .i64 0, .int .i64 0, .int .i64 0, .int .i64 2, .int .i64 3, .bool false, .bool false, .int .i64 0, .int .i64 7, .int .i64 1, .int .i64 0, .int .i64 0, .int .i64 3, .int .i64 9, .bool false, .bool false, .int .i64 0, .int .i64 0, .int .i64 0, .int .i64 0, .int .i64 0] 30)) _ at hF
  unfold vM vO wo at *
  dsimp only at hF hFd
  go_enter Try.func19, Try.ntmps19
  go_wp2_with (first
    | (
       go_at_call 23; refine hF.mono ?_; rintro e w1 ⟨y, yn, yc, gt, rfl, H1⟩; clear hF
       have n2 := H1.out.2.2.1.cell (i := 2) (v := 4) rfl
       have bm := al w1 (.cells #[.int .i64 2, .int .i64 2, .int .i64 1, .int .i64 4, .int .i64 0, .slice y yn yc] 26)
       have n2' := keep bm n2
       have hFd2 := hFd _ y yn yc ((own_os H1.out.2.1 (by decide)).below bm)
       have HBm := hid bm
       clear hFd bm)
    | (
       go_at_call 10; refine hFd2.mono ?_; rintro e w2 ⟨rfl, hb2⟩; clear hFd2
       have n3 := keep hb2 n2'
       have k0 := keep hb2 (b := w1.heap.size) (o := 0) (x := .int .i64 2) (by first | assumption | go_simp)
       have lt1 : gt < w2.heap.size := cell_lt' n3
       have lt2 : w1.heap.size < w2.heap.size := cell_lt' k0))
  go_ret
  exact ⟨rfl, on (on (on (on HB.out H1.out.1) HBm.out) hb2) (al _ _)⟩

end Go.Proofs.Ytnddhlkdemibgaa.At

/-
  Package atlas: numbers as bytes: truth, parts, write.
  Conditions: numbers from 0 to 2^31 - 1.
-/
namespace Go.Proofs.Ytnddhlkdemibgaa.At
open Go.RowKit By Fl Wi
set_option linter.unusedVariables false
set_option linter.unusedSimpArgs false
set_option maxRecDepth 100000

def bitI (b : Bool) : Int := if b then 1 else 0
def partsP (o : Osd) : List Int := [o.id, bitI o.up, bitI o.inn, o.wt, o.life, o.boot, o.host, o.rack]
def wrB (l : List Int) : List Nat := l.flatMap fun v => uv v.toNat
def headP (m : Mp) : List Int := [m.ep, m.pool.k, m.pool.m, m.pool.pgs, m.pool.dom, (m.osds.length : Int)]
def numsM (m : Mp) : List Int := headP m ++ m.osds.flatMap partsP
def numsC (c : Ch) : List Int := c.kind :: partsP c.osd

theorem wrB_app (a b : List Int) : wrB (a ++ b) = wrB a ++ wrB b := by simp [wrB]
theorem wrB_lt (l : List Int) : ∀ v ∈ wrB l, v < 256 := fun v hv => by
  simp only [wrB, List.mem_flatMap] at hv
  obtain ⟨a, _, h⟩ := hv
  exact uv_lt _ v h
theorem wrB_len (l : List Int) (h : ∀ v ∈ l, 0 ≤ v ∧ v ≤ 2147483647) : (wrB l).length ≤ 10 * l.length := by
  induction l with
  | nil => simp [wrB]
  | cons a l ih =>
    have := ih (fun v hv => h v (List.mem_cons_of_mem _ hv))
    have h2 := h a List.mem_cons_self
    have := uv_ten (n := a.toNat) (by omega)
    simp only [wrB, List.flatMap_cons, List.length_append, List.length_cons] at *
    omega

theorem truth_any (b : Bool) (w : World) : Calls Try.prog 67 #[.bool b] w fun e w' => e = .returned (.int .i64 (bitI b)) ∧ w' = w := by
  unfold bitI
  cases b with
  | true =>
    go_enter Try.func67, Try.ntmps67
    go_wp2_with fail
    go_ret
    exact ⟨rfl, rfl⟩
  | false =>
    go_enter Try.func67, Try.ntmps67
    go_wp2_with fail
    go_ret
    exact ⟨rfl, rfl⟩

/- A list of numbers that is read. -/
structure Is (w : World) (x : Option Addr) (n c : Nat) (l : List Int) : Prop where
  len : l.length = n
  le : n ≤ c
  nil : x = none → n = 0 ∧ c = 0
  row : n = 0 ∨ ∃ b o, x = some ⟨b, o, none⟩ ∧ b < w.heap.size ∧ ∀ (k : Nat) (v : Int), l[k]? = some v → w.cell? ⟨b, o + k, none⟩ = some (.int .i64 v)

theorem Is.below {w w' : World} {x : Option Addr} {n c : Nat} {l : List Int} (h : Is w x n c l) (hb : Below w.heap.size w w') : Is w' x n c l := by
  refine ⟨h.len, h.le, h.nil, ?_⟩
  rcases h.row with h0 | ⟨b, o, h1, h2, h3⟩
  · exact .inl h0
  · exact .inr ⟨b, o, h1, Nat.lt_of_lt_of_le h2 hb.size, fun k a hk => keep hb (h3 k a hk)⟩

theorem Ns.is {w : World} {g : Nat} {t : TypeId} {l : List Int} (h : Ns w g t l) : Is w (some ⟨g, 0, none⟩) l.length l.length l :=
  ⟨rfl, Nat.le_refl _, (fun e => by cases e), .inr ⟨g, 0, rfl, h.lt, fun k v hk => by rw [Nat.zero_add]; exact h.cell hk⟩⟩

def enI (v : Int) : List Value := [.int .i64 v]
theorem irow : Row 76 3 1 8 enI := by
  have hi : (Try.prog.info? 3).map (fun i => (i.zero, i.size, i.bytes)) = some (some (.int .i64 0), 1, 8) := by kernel_rfl
  obtain ⟨i0, h1, h2, h3, h4⟩ := info_parts hi
  exact ⟨Try.underlying76, ⟨i0, _, h1, h2, h3, h4, rfl⟩, by decide, by decide, fun a => rfl, fun a v hv => by simp [enI] at hv; subst hv; rfl⟩

theorem own_is {w : World} {B : Nat} {x : Option Addr} {n c : Nat} {L : List Int} (h : Own w B 3 1 enI (.slice x n c) L) : Is w x n c L := by
  obtain ⟨x', c', e, h1, h2, h3⟩ := h.form
  injection e with e1 e2 e3
  subst e1 e2 e3
  refine ⟨rfl, h1, h2, ?_⟩
  by_cases h0 : L.length = 0
  · exact .inl h0
  · cases x with
    | none => exact .inl (h2 rfl).1
    | some ad =>
      obtain ⟨g, rfl, hB, hg⟩ := h3 ad rfl
      refine .inr ⟨g, 0, rfl, hg, fun k a hk => ?_⟩
      have := h.cell irow.len hk (j := 0) (v := .int .i64 a) rfl
      rw [Nat.mul_one, Nat.add_zero] at this
      rw [Nat.zero_add]
      exact this

set_option maxHeartbeats 1600000 in
theorem write_any {w : World} {x : Option Addr} {n c : Nat} {l : List Int} (h : Is w x n c l) (hv : ∀ v ∈ l, 0 ≤ v ∧ v ≤ 2147483647) (hn : n ≤ 1000) :
    Calls Try.prog 44 #[.slice x n c] w fun e w' => ∃ R, e = .returned R ∧ Hid (OwnL w' w.heap.size R (wrB l) ∧ Below w.heap.size w w') := by
  have HI := hid h
  have HL := hid h.len
  have HV := hid hv
  have hU := fun (N : Nat) (W : World) (hN : N < 18446744073709551616) => uvarint_any none 0 0 [] N W (Go.Proofs.Ytnddhlkdemibgaa.Sl.empty W) hN (by omega)
  clear h hv
  go_enter Try.func44, Try.ntmps44
  go_wp2_with fail
  go_loopw [8, 3, 5] (fun i b _ wx => ∃ q : Nat, q ≤ n ∧ i = .int .i64 q ∧ Hid (OwnL wx w.heap.size b (wrB (l.take q)) ∧ Below w.heap.size w wx)) (fun i _ _ _ => n - (intOf i).toNat)
  case atStart => exact ⟨0, by omega, rfl, OwnL.start _ _, Below.refl _ _⟩
  case round =>
    obtain ⟨q, hq, rfl, HR⟩ := hrel
    by_cases hlt : q < n
    · have hqI : (q : Int) < (n : Int) := by omega
      obtain ⟨v, hvq⟩ : ∃ v, l[q]? = some v := ⟨l[q]'(by have := HL.out; omega), List.getElem?_eq_getElem (by have := HL.out; omega)⟩
      obtain ⟨v0, v1⟩ := HV.out v (List.mem_of_getElem? hvq)
      rcases (HI.out.below HR.out.2).row with h0 | ⟨b, o, rfl, hbl, hcell⟩
      · omega
      have c0 := hcell q v hvq
      have HS : Hid (wrB (l.take (q + 1)) = wrB (l.take q) ++ uv v.toNat) := hid (by rw [List.take_add_one, hvq, wrB_app]; simp [wrB])
      obtain ⟨N, rfl⟩ : ∃ N : Nat, v = (N : Int) := ⟨v.toNat, by omega⟩
      have hN : N < 18446744073709551616 := by omega
      have hU1 := hU N wr hN
      have hwr : IntKind.u64.wrap (N : Int) = (N : Int) := by rw [IntKind.wrap_u64]; omega
      have HN : Hid (N < 18446744073709551616) := hN
      have hlen : Hid ((wrB (l.take q)).length ≤ 10000) := by
        have := wrB_len (l.take q) (fun v hv => HV.out v (List.mem_of_mem_take hv))
        rw [List.length_take] at this
        show _ ≤ _
        omega
      clear hcell hvq hU v0 v1 hN
      obtain ⟨R0, hR0⟩ : ∃ R0, R0 = u3 := ⟨_, rfl⟩
      subst hR0
      go_wp2_with (first
        | (
           go_at_call 68; refine hU1.mono ?_; rintro e w1 ⟨R1, rfl, ho1, hb1⟩; clear hU1
           rw [List.nil_append] at ho1
           obtain ⟨x1, d1, rfl, hs1, _⟩ := ho1.sl (uv_lt _)
           obtain ⟨R2, w2, hr2, ho2, hb2⟩ := push_list w1 w w.heap.size _ _ (HR.out.1.below hb1) (Nat.le_trans HR.out.2.size hb1.size) (HR.out.2.trans (hb1.mono HR.out.2.size)) x1 _ d1 (uv N) hs1 (by have := hlen.out; have := uv_ten HN.out; omega)
           have HO2 := hid (And.intro ho2 hb2)
           clear ho1 hb1 hs1 ho2 hb2)
        | (
           at_builtin; refine Lib.wpList_append_run _ rfl _ _ _ _ rfl _ _ rfl rfl _ _ hr2 ?_))
      go_roundw
      case rel => exact ⟨q + 1, by omega, by go_num, by rw [HS.out]; exact HO2.out⟩
      case measure => simp [intOf]; omega
    · obtain rfl : q = n := by omega
      have htk : l.take q = l := by rw [← HL.out]; exact List.take_length
      have HR2 := hid HR.out
      rw [htk] at HR2
      go_wp2_with fail
      go_ret
      exact ⟨_, rfl, HR2.out⟩

end Go.Proofs.Ytnddhlkdemibgaa.At

/-
  The document's numbers as bytes: put.
  Conditions: numbers from 0 to 2^31 - 1.
-/
namespace Go.Proofs.Ytnddhlkdemibgaa.At
open Go.RowKit By Fl Wi
set_option linter.unusedVariables false
set_option linter.unusedSimpArgs false
set_option maxRecDepth 100000

def enB (v : Nat) : List Value := [.int .u8 (v : Int)]
theorem brow : Row 52 5 1 1 enB := by
  have hi : (Try.prog.info? 5).map (fun i => (i.zero, i.size, i.bytes)) = some (some (.int .u8 0), 1, 1) := by kernel_rfl
  obtain ⟨i0, h1, h2, h3, h4⟩ := info_parts hi
  exact ⟨Try.underlying52, ⟨i0, _, h1, h2, h3, h4, rfl⟩, by decide, by decide, fun a => rfl, fun a v hv => by simp [enB] at hv; subst hv; rfl⟩

theorem flat_cells (l : List Nat) : flat enB l = cellsL l := by
  induction l with
  | nil => rfl
  | cons a l ih => simp only [flat, cellsL, List.flatMap_cons, List.map_cons, enB] at *; rw [ih]; rfl

theorem ownl_own {w : World} {B : Nat} {R : Value} {l : List Nat} : OwnL w B R l ↔ Own w B 5 1 enB R l := by
  unfold OwnL Own
  rw [flat_cells]

theorem Is.turns {w w' : World} {G : Nat → Prop} {x : Option Addr} {n c : Nat} {l : List Int} (h : Is w x n c l) (t : Turns G w w') (hg : ∀ a, x = some a → ¬ G a.block) : Is w' x n c l := by
  refine ⟨h.len, h.le, h.nil, ?_⟩
  rcases h.row with h0 | ⟨b, o, h1, h2, h3⟩
  · exact .inl h0
  · exact .inr ⟨b, o, h1, Nat.lt_of_lt_of_le h2 t.size, fun k a hk => (World.cell?_of_block (a := ⟨b, o + k, none⟩) (t.block b h2 (hg _ h1))).trans (h3 k a hk)⟩

structure PutAt (w wx : World) (B : Nat) (R b : Value) (l : List Nat) : Prop where
  own : OwnL wx B b l
  turns : Turns (fun k => R.ownBlock = some k) w wx
  new : ∀ g, b.ownBlock = some g → R.ownBlock = some g ∨ w.heap.size ≤ g

theorem PutAt.step {w wx w1 : World} {B : Nat} {R b R1 : Value} {l k : List Nat} (h : PutAt w wx B R b l) (hB : B ≤ w.heap.size) (hb : Below wx.heap.size wx w1) (h1 : OwnL w1 wx.heap.size R1 k) (hk : k ≠ []) (hl : l.length + k.length ≤ 100000) :
    ∃ R' W', (Builtin.append_ #[52, 52] 52 #[b, R1]).run Try.prog w1 = .ok R' W' ∧ Hid (PutAt w W' B R R' (l ++ k)) := by
  have o1 := ownl_own.1 h1
  obtain ⟨g1, c1, rfl, q1, q2, q3, q4⟩ := o1.there hk
  have ob := (ownl_own.1 h.own).below hb
  have hsz := h.turns.size
  have hsb := hb.size
  obtain ⟨x', c', W', hr, H⟩ := ob.push brow (by omega) ⟨g1, 0, none⟩ k.length c1 k rfl (fun j u hj => by
    rw [add_at, Nat.zero_add]
    have hjl := (List.getElem?_eq_some_iff.1 hj).1
    rw [flat_len brow.len] at hjl
    have hjl2 : j < k.length := by omega
    have e := flat_get (enc := enB) (sz := 1) brow.len k j _ (List.getElem?_eq_getElem hjl2) 0 (by omega)
    rw [Nat.mul_one, Nat.add_zero] at e
    rw [e] at hj
    have := o1.cell brow.len (List.getElem?_eq_getElem hjl2) (j := 0) (v := u) hj
    rwa [Nat.mul_one, Nat.add_zero] at this) (by omega)
  refine ⟨_, W', hr, ownl_own.2 H.out.1, ?_, fun g hg => ?_⟩
  · exact (h.turns.trans (Turns.of_below hb)).more H.out.2.1 (fun i hi => h.new i hi)
  · rcases H.out.2.2 g hg with q | q
    · exact h.new g q
    · exact .inr (by omega)

set_option maxHeartbeats 1600000 in
theorem rput_any {w : World} {B : Nat} {R : Value} {pre : List Nat} {x : Option Addr} {n c : Nat} {l : List Int} (hR : OwnL w B R pre) (hB : B ≤ w.heap.size) (h : Is w x n c l) (hv : ∀ v ∈ l, 0 ≤ v ∧ v ≤ 2147483647) (hn : n ≤ 1000) (hp : pre.length + 10 * n ≤ 100000)
    (hx : ∀ a, x = some a → ¬ R.ownBlock = some a.block) :
    Calls Try.prog 45 #[R, .slice x n c] w fun e w' => ∃ R', e = .returned R' ∧ Hid (PutAt w w' B R R' (pre ++ wrB l)) := by
  have HI := hid h
  have HL := hid h.len
  have HV := hid hv
  have HX := hid hx
  have HP0 : Hid (PutAt w w B R R (pre ++ wrB (l.take 0))) := ⟨by simpa [wrB] using hR, Turns.refl _ _, fun g hg => .inl hg⟩
  have hU := fun (N : Nat) (W : World) (hN : N < 18446744073709551616) => ruvarint_any N W hN
  clear h hv hx hR
  go_enter Try.func45, Try.ntmps45
  go_wp2_with fail
  go_loopw [5, 0] (fun i b wx => ∃ q : Nat, q ≤ n ∧ i = .int .i64 q ∧ Hid (PutAt w wx B R b (pre ++ wrB (l.take q)))) (fun i _ _ => n - (intOf i).toNat)
  case atStart => exact ⟨0, by omega, rfl, HP0.out⟩
  case round =>
    obtain ⟨q, hq, rfl, HR⟩ := hrel
    by_cases hlt : q < n
    · have hqI : (q : Int) < (n : Int) := by omega
      obtain ⟨v, hvq⟩ : ∃ v, l[q]? = some v := ⟨l[q]'(by have := HL.out; omega), List.getElem?_eq_getElem (by have := HL.out; omega)⟩
      obtain ⟨v0, v1⟩ := HV.out v (List.mem_of_getElem? hvq)
      rcases (HI.out.turns HR.out.turns HX.out).row with h0 | ⟨b, o, rfl, hbl, hcell⟩
      · omega
      have c0 := hcell q v hvq
      have HS : Hid (pre ++ wrB (l.take (q + 1)) = pre ++ wrB (l.take q) ++ uv v.toNat) := hid (by rw [List.take_add_one, hvq, wrB_app]; simp [wrB])
      obtain ⟨N, rfl⟩ : ∃ N : Nat, v = (N : Int) := ⟨v.toNat, by omega⟩
      have hN : N < 18446744073709551616 := by omega
      have hU1 := hU N wr hN
      have hwr : IntKind.u64.wrap (N : Int) = (N : Int) := by rw [IntKind.wrap_u64]; omega
      have HN : Hid (N < 18446744073709551616) := hN
      have hlen : Hid ((pre ++ wrB (l.take q)).length ≤ pre.length + 10 * q) := by
        have := wrB_len (l.take q) (fun v hv => HV.out v (List.mem_of_mem_take hv))
        rw [List.length_take] at this
        show _ ≤ _
        rw [List.length_append]
        omega
      clear hcell hvq hU v0 v1 hN
      go_wp2_with (first
        | (
           go_at_call 69; refine hU1.mono ?_; rintro e w1 ⟨R1, rfl, ho1, hb1⟩; clear hU1
           obtain ⟨R2, w2, hr2, HO2⟩ := HR.out.step hB hb1 ho1 (fun e => by have := uv_pos N; rw [e] at this; simp at this) (by have := hlen.out; have := uv_ten HN.out; omega)
           obtain ⟨x1, d1, rfl, _⟩ := ho1.sl (uv_lt _)
           clear ho1 hb1)
        | (
           at_builtin; refine Lib.wpList_append_run _ rfl _ _ _ _ rfl _ _ rfl rfl _ _ hr2 ?_))
      go_roundw
      case rel => exact ⟨q + 1, by omega, by go_num, by rw [HS.out]; exact HO2.out⟩
      case measure => simp [intOf]; omega
    · obtain rfl : q = n := by omega
      have htk : l.take q = l := by rw [← HL.out]; exact List.take_length
      have HR2 := hid HR.out
      rw [htk] at HR2
      go_wp2_with fail
      go_ret
      exact ⟨_, rfl, HR2.out⟩

end Go.Proofs.Ytnddhlkdemibgaa.At
