/-
  5 texts of this proof, one behind the other: BaAccept, BaBump, PxMem, PxRd, PxDec.
-/
import Derived.Test.YtdbahebhodoooaaJ05
import Derived.Test.YtdbahebhodoooaaJ04
import Derived.Test.YtdbahebhodoooaaJ02
import Derived.Lib.ConvBytes
import Derived.Laws.ResultCell
/-
  What an acceptor accepts.
  Conditions: none.
-/
namespace Go.Proofs.Ytdbahebhodoooaa.Ba
open Go.RowKit By Fl
set_option linter.unusedVariables false
set_option linter.unusedSimpArgs false
set_option maxRecDepth 100000

theorem accept_no (p a : Bt) (x : Option Addr) (n c : Nat) (l : List Nat) (b : Bt) (vx : Option Addr) (vn vc : Nat) (w : World) (hl : Sl w x n c l) (hn : n ≤ 140737488355328) (hf : freeb p a n b = false) :
    Calls Try.prog 49 #[ac p a x n c, bt b, .slice vx vn vc] w fun e w' => ∃ y cy, e = .returned (.tuple #[ac p a y n cy, .bool false]) ∧ Hid (Vl w w' y n cy l) := by
  have hF := fun W => free_any p a x n c b W
  rw [hf] at hF
  clear hf
  have HC := fun W h => clone_vl x n c l W h hn
  clear hn
  obtain ⟨p1, p2⟩ := p
  obtain ⟨a1, a2⟩ := a
  obtain ⟨b1, b2⟩ := b
  dsimp only [bt, ac] at *
  have b0 : ∀ x y z, Below w.heap.size w (((w.alloc x).alloc y).alloc z) := fun x y z => on (on (al _ _) (al _ _)) (al _ _)
  go_enter Try.func49, Try.ntmps49
  go_wp2_with (first
    | (
       go_at_call 68; refine (hF _).mono ?_; rintro e w1 ⟨rfl, hb1⟩; clear hF
       have k0 := keep hb1 (b := w.heap.size) (o := 0) (x := .int .i64 p1) (by first | assumption | go_simp)
       have k1 := keep hb1 (b := w.heap.size) (o := 1) (x := .int .i64 p2) (by first | assumption | go_simp)
       have k2 := keep hb1 (b := w.heap.size) (o := 2) (x := .int .i64 a1) (by first | assumption | go_simp)
       have k3 := keep hb1 (b := w.heap.size) (o := 3) (x := .int .i64 a2) (by first | assumption | go_simp)
       have k4 := keep hb1 (b := w.heap.size) (o := 4) (x := .slice x n c) (by first | assumption | go_simp)
       have r0 := keep hb1 (b := w.heap.size + 1 + 1) (o := 0) (x := .int .i64 0) (by first | assumption | go_simp)
       have r1 := keep hb1 (b := w.heap.size + 1 + 1) (o := 1) (x := .int .i64 0) (by first | assumption | go_simp)
       have r2 := keep hb1 (b := w.heap.size + 1 + 1) (o := 2) (x := .int .i64 0) (by first | assumption | go_simp)
       have r3 := keep hb1 (b := w.heap.size + 1 + 1) (o := 3) (x := .int .i64 0) (by first | assumption | go_simp)
       have r4 := keep hb1 (b := w.heap.size + 1 + 1) (o := 4) (x := .slice none 0 0) (by first | assumption | go_simp)
       have f4 := keepf hb1 (b := w.heap.size) (o := 4) (by first | (simp <;> omega) | exact cell_lt' (a := ⟨w.heap.size, 4, none⟩) (by assumption) | (simp; exact cell_lt' (a := ⟨w.heap.size, 4, none⟩) (by assumption))) (by first | assumption | go_simp)
       have g0 := keepf hb1 (b := w.heap.size + 1 + 1) (o := 0) (by first | (simp <;> omega) | exact cell_lt' (a := ⟨w.heap.size + 1 + 1, 0, none⟩) (by assumption) | (simp; exact cell_lt' (a := ⟨w.heap.size + 1 + 1, 0, none⟩) (by assumption))) (by first | assumption | go_simp)
       have g1 := keepf hb1 (b := w.heap.size + 1 + 1) (o := 1) (by first | (simp <;> omega) | exact cell_lt' (a := ⟨w.heap.size + 1 + 1, 1, none⟩) (by assumption) | (simp; exact cell_lt' (a := ⟨w.heap.size + 1 + 1, 1, none⟩) (by assumption))) (by first | assumption | go_simp)
       have g2 := keepf hb1 (b := w.heap.size + 1 + 1) (o := 2) (by first | (simp <;> omega) | exact cell_lt' (a := ⟨w.heap.size + 1 + 1, 2, none⟩) (by assumption) | (simp; exact cell_lt' (a := ⟨w.heap.size + 1 + 1, 2, none⟩) (by assumption))) (by first | assumption | go_simp)
       have g3 := keepf hb1 (b := w.heap.size + 1 + 1) (o := 3) (by first | (simp <;> omega) | exact cell_lt' (a := ⟨w.heap.size + 1 + 1, 3, none⟩) (by assumption) | (simp; exact cell_lt' (a := ⟨w.heap.size + 1 + 1, 3, none⟩) (by assumption))) (by first | assumption | go_simp)
       have g4 := keepf hb1 (b := w.heap.size + 1 + 1) (o := 4) (by first | (simp <;> omega) | exact cell_lt' (a := ⟨w.heap.size + 1 + 1, 4, none⟩) (by assumption) | (simp; exact cell_lt' (a := ⟨w.heap.size + 1 + 1, 4, none⟩) (by assumption))) (by first | assumption | go_simp)
       have l0 : w.heap.size + 1 + 1 < w1.heap.size := cell_lt' r0
       have B1 := on (b0 _ _ _) hb1; clear hb1)
    | (
       go_at_call 60; refine (HC _ (hl.below B1)).mono ?_; rintro e w2 ⟨y, cy, rfl, H2⟩; clear HC
       have k0 := keep H2.out.1 (b := w.heap.size) (o := 0) (x := .int .i64 p1) (by first | assumption | go_simp)
       have k1 := keep H2.out.1 (b := w.heap.size) (o := 1) (x := .int .i64 p2) (by first | assumption | go_simp)
       have k2 := keep H2.out.1 (b := w.heap.size) (o := 2) (x := .int .i64 a1) (by first | assumption | go_simp)
       have k3 := keep H2.out.1 (b := w.heap.size) (o := 3) (x := .int .i64 a2) (by first | assumption | go_simp)
       have k4 := keep H2.out.1 (b := w.heap.size) (o := 4) (x := .slice x n c) (by first | assumption | go_simp)
       have r0 := keep H2.out.1 (b := w.heap.size + 1 + 1) (o := 0) (x := .int .i64 0) (by first | assumption | go_simp)
       have r1 := keep H2.out.1 (b := w.heap.size + 1 + 1) (o := 1) (x := .int .i64 0) (by first | assumption | go_simp)
       have r2 := keep H2.out.1 (b := w.heap.size + 1 + 1) (o := 2) (x := .int .i64 0) (by first | assumption | go_simp)
       have r3 := keep H2.out.1 (b := w.heap.size + 1 + 1) (o := 3) (x := .int .i64 0) (by first | assumption | go_simp)
       have r4 := keep H2.out.1 (b := w.heap.size + 1 + 1) (o := 4) (x := .slice none 0 0) (by first | assumption | go_simp)
       have f4 := keepf H2.out.1 (b := w.heap.size) (o := 4) (by first | (simp <;> omega) | exact cell_lt' (a := ⟨w.heap.size, 4, none⟩) (by assumption) | (simp; exact cell_lt' (a := ⟨w.heap.size, 4, none⟩) (by assumption))) (by first | assumption | go_simp)
       have g0 := keepf H2.out.1 (b := w.heap.size + 1 + 1) (o := 0) (by first | (simp <;> omega) | exact cell_lt' (a := ⟨w.heap.size + 1 + 1, 0, none⟩) (by assumption) | (simp; exact cell_lt' (a := ⟨w.heap.size + 1 + 1, 0, none⟩) (by assumption))) (by first | assumption | go_simp)
       have g1 := keepf H2.out.1 (b := w.heap.size + 1 + 1) (o := 1) (by first | (simp <;> omega) | exact cell_lt' (a := ⟨w.heap.size + 1 + 1, 1, none⟩) (by assumption) | (simp; exact cell_lt' (a := ⟨w.heap.size + 1 + 1, 1, none⟩) (by assumption))) (by first | assumption | go_simp)
       have g2 := keepf H2.out.1 (b := w.heap.size + 1 + 1) (o := 2) (by first | (simp <;> omega) | exact cell_lt' (a := ⟨w.heap.size + 1 + 1, 2, none⟩) (by assumption) | (simp; exact cell_lt' (a := ⟨w.heap.size + 1 + 1, 2, none⟩) (by assumption))) (by first | assumption | go_simp)
       have g3 := keepf H2.out.1 (b := w.heap.size + 1 + 1) (o := 3) (by first | (simp <;> omega) | exact cell_lt' (a := ⟨w.heap.size + 1 + 1, 3, none⟩) (by assumption) | (simp; exact cell_lt' (a := ⟨w.heap.size + 1 + 1, 3, none⟩) (by assumption))) (by first | assumption | go_simp)
       have g4 := keepf H2.out.1 (b := w.heap.size + 1 + 1) (o := 4) (by first | (simp <;> omega) | exact cell_lt' (a := ⟨w.heap.size + 1 + 1, 4, none⟩) (by assumption) | (simp; exact cell_lt' (a := ⟨w.heap.size + 1 + 1, 4, none⟩) (by assumption))) (by first | assumption | go_simp)
       skip))
  refine bodyPost_ret (v := .tuple #[.agg #[.int .i64 p1, .int .i64 p2, .int .i64 a1, .int .i64 a2, .slice y n cy], .bool false]) ?_ rfl ⟨y, cy, rfl, Vl.turns B1 H2.out ?_⟩
  · rw [results_cell2 rfl]
    go_simp
  · exact ((Turns.refl _ w2).setCell (p := ⟨w.heap.size, 4, none⟩) (.inl ⟨Nat.le_refl _, by show w.heap.size < _; omega⟩) _).set5 (w.heap.size + 1 + 1) ⟨by omega, by omega⟩ _ _ _ _ _

theorem accept_yes (p a : Bt) (x : Option Addr) (n c : Nat) (b : Bt) (vx : Option Addr) (vn vc : Nat) (vl : List Nat) (w : World) (hl : Sl w vx vn vc vl) (hn : vn ≤ 140737488355328) (hf : freeb p a n b = true) :
    Calls Try.prog 49 #[ac p a x n c, bt b, .slice vx vn vc] w fun e w' => ∃ y cy, e = .returned (.tuple #[ac b b y vn cy, .bool true]) ∧ Hid (Vl w w' y vn cy vl) := by
  have hF := fun W => free_any p a x n c b W
  rw [hf] at hF
  clear hf
  have HC := fun W h => clone_vl vx vn vc vl W h hn
  clear hn
  obtain ⟨p1, p2⟩ := p
  obtain ⟨a1, a2⟩ := a
  obtain ⟨b1, b2⟩ := b
  dsimp only [bt, ac] at *
  have b0 : ∀ x y z, Below w.heap.size w (((w.alloc x).alloc y).alloc z) := fun x y z => on (on (al _ _) (al _ _)) (al _ _)
  go_enter Try.func49, Try.ntmps49
  go_wp2_with (first
    | (
       go_at_call 68; refine (hF _).mono ?_; rintro e w1 ⟨rfl, hb1⟩; clear hF
       have j0 := keep hb1 (b := w.heap.size + 1) (o := 0) (x := .int .i64 b1) (by first | assumption | go_simp)
       have j1 := keep hb1 (b := w.heap.size + 1) (o := 1) (x := .int .i64 b2) (by first | assumption | go_simp)
       have r0 := keep hb1 (b := w.heap.size + 1 + 1) (o := 0) (x := .int .i64 0) (by first | assumption | go_simp)
       have r1 := keep hb1 (b := w.heap.size + 1 + 1) (o := 1) (x := .int .i64 0) (by first | assumption | go_simp)
       have r2 := keep hb1 (b := w.heap.size + 1 + 1) (o := 2) (x := .int .i64 0) (by first | assumption | go_simp)
       have r3 := keep hb1 (b := w.heap.size + 1 + 1) (o := 3) (x := .int .i64 0) (by first | assumption | go_simp)
       have r4 := keep hb1 (b := w.heap.size + 1 + 1) (o := 4) (x := .slice none 0 0) (by first | assumption | go_simp)
       have g0 := keepf hb1 (b := w.heap.size + 1 + 1) (o := 0) (by first | (simp <;> omega) | exact cell_lt' (a := ⟨w.heap.size + 1 + 1, 0, none⟩) (by assumption) | (simp; exact cell_lt' (a := ⟨w.heap.size + 1 + 1, 0, none⟩) (by assumption))) (by first | assumption | go_simp)
       have g1 := keepf hb1 (b := w.heap.size + 1 + 1) (o := 1) (by first | (simp <;> omega) | exact cell_lt' (a := ⟨w.heap.size + 1 + 1, 1, none⟩) (by assumption) | (simp; exact cell_lt' (a := ⟨w.heap.size + 1 + 1, 1, none⟩) (by assumption))) (by first | assumption | go_simp)
       have g2 := keepf hb1 (b := w.heap.size + 1 + 1) (o := 2) (by first | (simp <;> omega) | exact cell_lt' (a := ⟨w.heap.size + 1 + 1, 2, none⟩) (by assumption) | (simp; exact cell_lt' (a := ⟨w.heap.size + 1 + 1, 2, none⟩) (by assumption))) (by first | assumption | go_simp)
       have g3 := keepf hb1 (b := w.heap.size + 1 + 1) (o := 3) (by first | (simp <;> omega) | exact cell_lt' (a := ⟨w.heap.size + 1 + 1, 3, none⟩) (by assumption) | (simp; exact cell_lt' (a := ⟨w.heap.size + 1 + 1, 3, none⟩) (by assumption))) (by first | assumption | go_simp)
       have g4 := keepf hb1 (b := w.heap.size + 1 + 1) (o := 4) (by first | (simp <;> omega) | exact cell_lt' (a := ⟨w.heap.size + 1 + 1, 4, none⟩) (by assumption) | (simp; exact cell_lt' (a := ⟨w.heap.size + 1 + 1, 4, none⟩) (by assumption))) (by first | assumption | go_simp)
       have l0 : w.heap.size + 1 + 1 < w1.heap.size := cell_lt' r0
       have B1 := on (b0 _ _ _) hb1; clear hb1))
  have b1' : Below w1.heap.size w1 w1.drew := (Below.refl _ _).drew
  have B2 : Below w.heap.size w w1.drew := on B1 b1'
  have j0 := keep b1' (b := w.heap.size + 1) (o := 0) (x := .int .i64 b1) (by first | assumption | go_simp)
  have j1 := keep b1' (b := w.heap.size + 1) (o := 1) (x := .int .i64 b2) (by first | assumption | go_simp)
  have r0 := keep b1' (b := w.heap.size + 1 + 1) (o := 0) (x := .int .i64 0) (by first | assumption | go_simp)
  have r1 := keep b1' (b := w.heap.size + 1 + 1) (o := 1) (x := .int .i64 0) (by first | assumption | go_simp)
  have r2 := keep b1' (b := w.heap.size + 1 + 1) (o := 2) (x := .int .i64 0) (by first | assumption | go_simp)
  have r3 := keep b1' (b := w.heap.size + 1 + 1) (o := 3) (x := .int .i64 0) (by first | assumption | go_simp)
  have r4 := keep b1' (b := w.heap.size + 1 + 1) (o := 4) (x := .slice none 0 0) (by first | assumption | go_simp)
  have g0 := keepf b1' (b := w.heap.size + 1 + 1) (o := 0) (by first | (simp <;> omega) | exact cell_lt' (a := ⟨w.heap.size + 1 + 1, 0, none⟩) (by assumption) | (simp; exact cell_lt' (a := ⟨w.heap.size + 1 + 1, 0, none⟩) (by assumption))) (by first | assumption | go_simp)
  have g1 := keepf b1' (b := w.heap.size + 1 + 1) (o := 1) (by first | (simp <;> omega) | exact cell_lt' (a := ⟨w.heap.size + 1 + 1, 1, none⟩) (by assumption) | (simp; exact cell_lt' (a := ⟨w.heap.size + 1 + 1, 1, none⟩) (by assumption))) (by first | assumption | go_simp)
  have g2 := keepf b1' (b := w.heap.size + 1 + 1) (o := 2) (by first | (simp <;> omega) | exact cell_lt' (a := ⟨w.heap.size + 1 + 1, 2, none⟩) (by assumption) | (simp; exact cell_lt' (a := ⟨w.heap.size + 1 + 1, 2, none⟩) (by assumption))) (by first | assumption | go_simp)
  have g3 := keepf b1' (b := w.heap.size + 1 + 1) (o := 3) (by first | (simp <;> omega) | exact cell_lt' (a := ⟨w.heap.size + 1 + 1, 3, none⟩) (by assumption) | (simp; exact cell_lt' (a := ⟨w.heap.size + 1 + 1, 3, none⟩) (by assumption))) (by first | assumption | go_simp)
  have g4 := keepf b1' (b := w.heap.size + 1 + 1) (o := 4) (by first | (simp <;> omega) | exact cell_lt' (a := ⟨w.heap.size + 1 + 1, 4, none⟩) (by assumption) | (simp; exact cell_lt' (a := ⟨w.heap.size + 1 + 1, 4, none⟩) (by assumption))) (by first | assumption | go_simp)
  have l1 : w.heap.size + 1 + 1 < w1.drew.heap.size := l0
  clear b1' l0 B1
  refine wp_region_held_drew (S := fun v => v.cell? ⟨w.heap.size + 1, 0, none⟩ = some (.int .i64 b1) ∧ v.cell? ⟨w.heap.size + 1, 1, none⟩ = some (.int .i64 b2)) (by kernel_rfl) ⟨j0, j1⟩ (fun hHeld => ?_)
  generalize w1.drew = wD at *
  refine wpAnyH_take (i := 0) (v := ?_) rfl (by kernel_rfl) (by kernel_rfl) (by kernel_rfl) (fun _ _ _ h => h) (Or.inl ⟨by rfl, ?_⟩) (by assumption) ?_
  case refine_2 => (intro w hSw; (try dsimp only at hSw); go_simp; (try with_reducible rfl))
  (try simp only [Act.put, List.getElem_toArray, List.getElem_cons_succ, List.getElem_cons_zero, List.setIfInBounds_toArray, List.set_cons_zero, List.set_cons_succ])
  refine wpAnyH_take (i := 1) (v := ?_) rfl (by kernel_rfl) (by kernel_rfl) (by kernel_rfl) (fun _ _ _ h => h) (Or.inl ⟨by rfl, ?_⟩) (by assumption) ?_
  case refine_2 => (intro w hSw; (try dsimp only at hSw); go_simp; (try with_reducible rfl))
  (try simp only [Act.put, List.getElem_toArray, List.getElem_cons_succ, List.getElem_cons_zero, List.setIfInBounds_toArray, List.set_cons_zero, List.set_cons_succ])
  refine wpAnyH_take (i := 2) (v := ?_) rfl (by kernel_rfl) (by kernel_rfl) (by kernel_rfl) (fun _ _ _ h => h) (Or.inl ⟨by rfl, ?_⟩) (by assumption) ?_
  case refine_2 => (intro w hSw; (try dsimp only at hSw); go_simp; (try with_reducible rfl))
  (try simp only [Act.put, List.getElem_toArray, List.getElem_cons_succ, List.getElem_cons_zero, List.setIfInBounds_toArray, List.set_cons_zero, List.set_cons_succ])
  refine wpAnyH_ready (rs := [3]) (by kernel_rfl) (by simp) ?_
  refine AllReadyH.cons rfl (fun K hK => ?_) AllReadyH.nil
  go_simp
  refine (HC _ (hl.below B2)).mono ?_
  rintro e w2 ⟨y, cy, rfl, H2⟩
  have j0 := keep H2.out.1 (b := w.heap.size + 1) (o := 0) (x := .int .i64 b1) (by first | assumption | go_simp)
  have j1 := keep H2.out.1 (b := w.heap.size + 1) (o := 1) (x := .int .i64 b2) (by first | assumption | go_simp)
  have r0 := keep H2.out.1 (b := w.heap.size + 1 + 1) (o := 0) (x := .int .i64 0) (by first | assumption | go_simp)
  have r1 := keep H2.out.1 (b := w.heap.size + 1 + 1) (o := 1) (x := .int .i64 0) (by first | assumption | go_simp)
  have r2 := keep H2.out.1 (b := w.heap.size + 1 + 1) (o := 2) (x := .int .i64 0) (by first | assumption | go_simp)
  have r3 := keep H2.out.1 (b := w.heap.size + 1 + 1) (o := 3) (x := .int .i64 0) (by first | assumption | go_simp)
  have r4 := keep H2.out.1 (b := w.heap.size + 1 + 1) (o := 4) (x := .slice none 0 0) (by first | assumption | go_simp)
  have g0 := keepf H2.out.1 (b := w.heap.size + 1 + 1) (o := 0) (by first | (simp <;> omega) | exact cell_lt' (a := ⟨w.heap.size + 1 + 1, 0, none⟩) (by assumption) | (simp; exact cell_lt' (a := ⟨w.heap.size + 1 + 1, 0, none⟩) (by assumption))) (by first | assumption | go_simp)
  have g1 := keepf H2.out.1 (b := w.heap.size + 1 + 1) (o := 1) (by first | (simp <;> omega) | exact cell_lt' (a := ⟨w.heap.size + 1 + 1, 1, none⟩) (by assumption) | (simp; exact cell_lt' (a := ⟨w.heap.size + 1 + 1, 1, none⟩) (by assumption))) (by first | assumption | go_simp)
  have g2 := keepf H2.out.1 (b := w.heap.size + 1 + 1) (o := 2) (by first | (simp <;> omega) | exact cell_lt' (a := ⟨w.heap.size + 1 + 1, 2, none⟩) (by assumption) | (simp; exact cell_lt' (a := ⟨w.heap.size + 1 + 1, 2, none⟩) (by assumption))) (by first | assumption | go_simp)
  have g3 := keepf H2.out.1 (b := w.heap.size + 1 + 1) (o := 3) (by first | (simp <;> omega) | exact cell_lt' (a := ⟨w.heap.size + 1 + 1, 3, none⟩) (by assumption) | (simp; exact cell_lt' (a := ⟨w.heap.size + 1 + 1, 3, none⟩) (by assumption))) (by first | assumption | go_simp)
  have g4 := keepf H2.out.1 (b := w.heap.size + 1 + 1) (o := 4) (by first | (simp <;> omega) | exact cell_lt' (a := ⟨w.heap.size + 1 + 1, 4, none⟩) (by assumption) | (simp; exact cell_lt' (a := ⟨w.heap.size + 1 + 1, 4, none⟩) (by assumption))) (by first | assumption | go_simp)
  refine hK.out _ _ ⟨j0, j1⟩ (fun hHeld => ?_)
  clear hK K
  refine wpAnyH_take (i := 4) (v := ?_) rfl (by kernel_rfl) (by kernel_rfl) (by kernel_rfl) (fun _ _ _ h => h) (Or.inl ⟨by rfl, ?_⟩) (by assumption) ?_
  case refine_2 => (intro w hSw; (try dsimp only at hSw); go_simp; (try with_reducible rfl))
  (try simp only [Act.put, List.getElem_toArray, List.getElem_cons_succ, List.getElem_cons_zero, List.setIfInBounds_toArray, List.set_cons_zero, List.set_cons_succ])
  refine wpAnyH_ready (rs := [5]) (by kernel_rfl) (by simp) ?_
  refine AllReadyH.cons rfl (fun K hK => ?_) AllReadyH.nil
  go_simp
  refine hK.out _ _ ⟨by go_simp, by go_simp⟩ (fun hHeld => ?_)
  clear hK K
  refine wpAnyH_take (i := 6) (v := ?_) rfl (by kernel_rfl) (by kernel_rfl) (by kernel_rfl) (fun _ _ _ h => h) (Or.inl ⟨by rfl, ?_⟩) (by assumption) ?_
  case refine_2 => (intro w hSw; (try dsimp only at hSw); go_simp; (try with_reducible rfl))
  (try simp only [Act.put, List.getElem_toArray, List.getElem_cons_succ, List.getElem_cons_zero, List.setIfInBounds_toArray, List.set_cons_zero, List.set_cons_succ])
  refine wpAnyH_done (by kernel_rfl) ?_ _
  go_wp2_with fail
  refine bodyPost_ret (v := .tuple #[.agg #[.int .i64 b1, .int .i64 b2, .int .i64 b1, .int .i64 b2, .slice y vn cy], .bool true]) ?_ rfl ⟨y, cy, rfl, Vl.turns B2 H2.out ?_⟩
  · rw [results_cell2 rfl]
    go_simp
  · exact (Turns.refl _ w2).set5 (w.heap.size + 1 + 1) ⟨by omega, by omega⟩ _ _ _ _ _

end Go.Proofs.Ytdbahebhodoooaa.Ba

/-
  Bytes that are turned one by one.
  Conditions: none.
-/
namespace Go.Proofs.Ytdbahebhodoooaa.Ba
open Go.RowKit By Fl
set_option linter.unusedVariables false
set_option linter.unusedSimpArgs false
set_option maxRecDepth 100000

def atB (g : Nat) : Nat → Prop := fun k => k = g

structure Bm (w0 w : World) (g n : Nat) (d : List Nat) (i : Nat) : Prop where
  turns : Turns (atB g) w0 w
  rest : ∀ j, i ≤ j → j < n → w.cell? ⟨g, j, none⟩ = some (.int .u8 (gl d j : Int)) ∧ w.frozen? ⟨g, j, none⟩ = false

theorem Bm.start {w : World} {g n c : Nat} {d : List Nat} (h : Sl w (some ⟨g, 0, none⟩) n c d) (hf : ∀ j, w.frozen? ⟨g, j, none⟩ = false) : Bm w w g n d 0 := by
  refine ⟨Turns.refl _ _, fun j _ hj => ?_⟩
  rcases h.row with h0 | ⟨b, o, e, _, hc⟩
  · omega
  · injection e with e
    injection e with e1 e2 _
    subst e1
    subst e2
    have := hc j hj
    rw [Nat.zero_add] at this
    exact ⟨this, hf j⟩

theorem Bm.step {w0 w : World} {n g : Nat} {d : List Nat} {i : Nat} (h : Bm w0 w g n d i) (u : Value) : Bm w0 (w.setCell ⟨g, i, none⟩ u) g n d (i + 1) := by
  refine ⟨h.turns.setCell (p := ⟨g, i, none⟩) (.inl rfl) u, fun j hj hn => ?_⟩
  obtain ⟨h1, h2⟩ := h.rest j (by omega) hn
  refine ⟨(World.cell?_setCell_other _ _ _ _ (fun e => ?_)).trans h1, ?_⟩
  · injection e with _ e _
    omega
  · rw [World.frozen?_setCell]
    exact h2

theorem keept {G : Nat → Prop} {w v : World} {b o : Nat} {x : Value} (t : Turns G w v) (hb : ¬ G b) (h : w.cell? ⟨b, o, none⟩ = some x) : v.cell? ⟨b, o, none⟩ = some x :=
  (World.cell?_of_block (a := ⟨b, o, none⟩) (t.block b (cell_lt' h) hb)).trans h

theorem keeptf {G : Nat → Prop} {w v : World} {b o : Nat} (t : Turns G w v) (hb : ¬ G b) (hlt : b < w.heap.size) (h : w.frozen? ⟨b, o, none⟩ = false) : v.frozen? ⟨b, o, none⟩ = false := by
  rw [← h]
  unfold World.frozen?
  rw [t.block b hlt hb]

theorem keepn {g : Nat} {w v : World} {b o : Nat} {x : Value} (t : Turns (atB g) w v) (hb : b ≠ g) (h : w.cell? ⟨b, o, none⟩ = some x) : v.cell? ⟨b, o, none⟩ = some x := keept t hb h
theorem keepnf {g : Nat} {w v : World} {b o : Nat} (t : Turns (atB g) w v) (hb : b ≠ g) (hlt : b < w.heap.size) (h : w.frozen? ⟨b, o, none⟩ = false) : v.frozen? ⟨b, o, none⟩ = false := keeptf t hb hlt h

end Go.Proofs.Ytdbahebhodoooaa.Ba

/-
  Lists of bytes in both words; what wire's writers and readers make, told alike.
  Conditions: bytes that are looked at lie in memory.
-/
namespace Go.Proofs.Ytdbahebhodoooaa.Px
open Go.RowKit Wi By Fl Ba
set_option linter.unusedVariables false
set_option linter.unusedSimpArgs false
set_option maxRecDepth 100000

theorem toW {w : World} {x : Option Addr} {n c : Nat} {l : List Nat} (h : Fl.Sl w x n c l) : Go.Proofs.Ytdbahebhodoooaa.Sl w x n c l := ⟨h.len, h.le, h.nil, h.row, h.lt⟩
theorem ofW {w : World} {x : Option Addr} {n c : Nat} {l : List Nat} (h : Go.Proofs.Ytdbahebhodoooaa.Sl w x n c l) : Fl.Sl w x n c l := ⟨h.len, h.le, h.nil, h.row, h.lt⟩

theorem ownL_vl {w w' : World} {R : Value} {l : List Nat} (h : OwnL w' w.heap.size R l) (hl : ∀ u ∈ l, u < 256) (hb : Below w.heap.size w w') : ∃ y m cy, R = .slice y m cy ∧ m = l.length ∧ Vl w w' y m cy l := by
  obtain ⟨x, c, h1, h2, h3⟩ := h.sl hl
  refine ⟨x, l.length, c, h1, rfl, hb, ofW h2, fun a ha => ⟨(h3 a ha).1, ?_⟩⟩
  subst ha
  rcases h.2 with ⟨h0, _⟩ | ⟨g, cap, cur, hv, _, h5, _⟩
  · rw [h1] at h0
    cases h0
  · rw [h1] at hv
    injection hv with hv _ _
    injection hv with hv
    rw [hv]
    exact ⟨_, _, h5⟩

theorem app_lt {l k : List Nat} (h : ∀ u ∈ l, u < 256) (h2 : ∀ u ∈ k, u < 256) : ∀ u ∈ l ++ k, u < 256 := fun u hu => by
  rcases List.mem_append.1 hu with q | q
  · exact h u q
  · exact h2 u q

theorem uvW (x : Option Addr) (n c : Nat) (l : List Nat) (N : Nat) (w : World) (hl : Fl.Sl w x n c l) (hN : N < 18446744073709551616) (hs : n ≤ 140737488350000) :
    Calls Try.prog 85 #[.slice x n c, .int .u64 N] w fun e w' => ∃ y m cy, e = .returned (.slice y m cy) ∧ Hid (m = n + (uv N).length ∧ Vl w w' y m cy (l ++ uv N)) :=
  (uvarint_any x n c l N w (toW hl) hN hs).mono fun e w' ⟨R, h1, h2, h3⟩ => by
    obtain ⟨y, m, cy, rfl, h4, h5⟩ := ownL_vl h2 (app_lt hl.lt (uv_lt N)) h3
    exact ⟨y, m, cy, h1, by rw [h4, List.length_append, hl.len], h5⟩

theorem byW (x : Option Addr) (n c : Nat) (l : List Nat) (y : Option Addr) (m d : Nat) (k : List Nat) (w : World) (hl : Fl.Sl w x n c l) (hk : Fl.Sl w y m d k) (hs : n + m ≤ 140737488350000) :
    Calls Try.prog 88 #[.slice x n c, .slice y m d] w fun e w' => ∃ y' m' cy, e = .returned (.slice y' m' cy) ∧ Hid (m' = n + ((uv m).length + m) ∧ Vl w w' y' m' cy (l ++ (uv m ++ k))) :=
  (bytes_any x n c l y m d k w (toW hl) (toW hk) hs).mono fun e w' ⟨R, h1, h2, h3⟩ => by
    obtain ⟨y', m', cy, rfl, h4, h5⟩ := ownL_vl h2 (app_lt hl.lt (app_lt (uv_lt m) hk.lt)) h3
    exact ⟨y', m', cy, h1, by rw [h4, List.length_append, List.length_append, hl.len, hk.len], h5⟩

theorem fx8W (x : Option Addr) (n c : Nat) (l : List Nat) (N : Nat) (w : World) (hl : Fl.Sl w x n c l) (hN : N < 18446744073709551616) (hs : n ≤ 140737488349000) :
    Calls Try.prog 78 #[.slice x n c, .int .u64 N] w fun e w' => ∃ y m cy, e = .returned (.slice y m cy) ∧ Hid (m = n + 8 ∧ Vl w w' y m cy (l ++ fx N 8)) :=
  (fixed8_any x n c l N w (toW hl) hN hs).mono fun e w' ⟨R, h1, h2, h3⟩ => by
    obtain ⟨y, m, cy, rfl, h4, h5⟩ := ownL_vl h2 (app_lt hl.lt (fx_lt N 8)) h3
    exact ⟨y, m, cy, h1, by rw [h4, List.length_append, hl.len, fx_len], h5⟩

theorem Vl.on {a b c : World} {y : Option Addr} {m cy : Nat} {l : List Nat} (h : Below a.heap.size a b) (k : Vl b c y m cy l) : Vl a c y m cy l :=
  ⟨Ba.on h k.1, k.2.1, fun q hq => ⟨Nat.le_trans h.size (k.2.2 q hq).1, (k.2.2 q hq).2⟩⟩

/- []byte(s). -/
theorem conv_text (s : ByteArray) (w : World) :
    ∃ c W1, (convert 9 35 (.string s)).run Try.prog w = .ok (.slice (some ⟨w.heap.size, 0, none⟩) s.size c) W1 ∧ Hid (Vl w W1 (some ⟨w.heap.size, 0, none⟩) s.size c (nat s)) := by
  have hr := Lib.run_convert_string_bytes (P := Try.prog) w 9 35 5 s Try.underlying9 Try.underlying35 Try.underlying5
  refine ⟨_, _, hr, ⟨rfl, rfl, rfl, by rw [Lib.bytesWorld_size]; omega, fun q hq => Lib.bytesWorld_at_old w _ s q hq⟩, ⟨nat_length s, ?_, (fun e => by cases e), .inr ⟨w.heap.size, 0, rfl, by rw [Lib.bytesWorld_size]; omega, fun j hj => ?_⟩, nat_lt s⟩, fun a ha => ?_⟩
  · exact grownCap_ge w s.size 0 5
  · rw [Nat.zero_add, Lib.bytesWorld_cell w _ s j hj]
    have h1 : j < s.data.toList.length := by rw [Array.length_toList]; exact hj
    simp [nat, Fl.gl, List.getD, List.getElem?_eq_getElem h1]
  · cases ha
    exact ⟨Nat.le_refl _, _, _, Lib.bytesWorld_at_new w _ s⟩

def dv (d : Dc) : Value := .agg #[.int .i64 d.mon, .int .i64 d.ser, .string d.val]

structure DOk (d : Dc) : Prop where
  mon : d.mon < 9223372036854775808
  ser : d.ser < 9223372036854775808
  val : d.val.size ≤ 4096

theorem dbytes_any (d : Dc) (hd : DOk d) (w : World) :
    Calls Try.prog 86 #[dv d] w fun e w' => ∃ y m cy, e = .returned (.slice y m cy) ∧ Hid (m ≤ 5000 ∧ Vl w w' y m cy (dbytes d)) := by
  obtain ⟨h1, h2, h3⟩ := hd
  obtain ⟨mon, ser, s⟩ := d
  dsimp only [dv] at *
  have HD : Hid (dbytes ⟨mon, ser, s⟩ = uv mon ++ uv ser ++ (uv s.size ++ nat s)) := rfl
  have u1 := uv_ten (n := mon) (by omega)
  have u2 := uv_ten (n := ser) (by omega)
  have u3 := uv_ten (n := s.size) (by omega)
  have HU : Hid ((uv mon).length ≤ 10 ∧ (uv ser).length ≤ 10 ∧ (uv s.size).length ≤ 10) := ⟨u1, u2, u3⟩
  clear u1 u2 u3
  have hU1 := fun W => uvW none 0 0 [] mon W (Fl.Sl.empty W) (by omega) (by omega)
  have i1 : (mon : Int) < 9223372036854775808 := by omega
  have i2 : (ser : Int) < 9223372036854775808 := by omega
  go_enter Try.func86, Try.ntmps86
  go_wp2_with (first
    | (
       go_at_call 85; refine (hU1 _).mono ?_; rintro e w1 ⟨y1, m1, c1, rfl, H1⟩; clear hU1
       have k0 := keep H1.out.2.1 (b := w.heap.size) (o := 0) (x := .int .i64 mon) (by first | assumption | go_simp)
       have k1 := keep H1.out.2.1 (b := w.heap.size) (o := 1) (x := .int .i64 ser) (by first | assumption | go_simp)
       have k2 := keep H1.out.2.1 (b := w.heap.size) (o := 2) (x := .string s) (by first | assumption | go_simp)
       have hU2 := uvW y1 m1 c1 _ ser w1 H1.out.2.2.1 (by omega) (by have := H1.out.1; have := HU.out.1; omega)
       have B1 := on (al _ _) H1.out.2.1)
    | (
       go_at_call 85; refine hU2.mono ?_; rintro e w2 ⟨y2, m2, c2, rfl, H2⟩; clear hU2
       have j0 := keep H2.out.2.1 (b := w.heap.size) (o := 0) (x := .int .i64 mon) (by first | assumption | go_simp)
       have j1 := keep H2.out.2.1 (b := w.heap.size) (o := 1) (x := .int .i64 ser) (by first | assumption | go_simp)
       have j2 := keep H2.out.2.1 (b := w.heap.size) (o := 2) (x := .string s) (by first | assumption | go_simp)
       clear k0 k1 k2
       have B2 := on B1 H2.out.2.1
       obtain ⟨cc, W3, hcv, H3⟩ := conv_text s w2
       have B3 := on B2 H3.out.1
       have hY := byW y2 m2 c2 _ (some ⟨w2.heap.size, 0, none⟩) s.size cc (nat s) W3 (H2.out.2.2.1.below H3.out.1) H3.out.2.1 (by have := H1.out.1; have := H2.out.1; have := HU.out.1; have := HU.out.2.1; omega))
    | (
       go_at_call 88; refine hY.mono ?_; rintro e w4 ⟨y4, m4, c4, rfl, H4⟩; clear hY))
  go_ret
  refine ⟨y4, m4, c4, rfl, ?_, ?_⟩
  · have := H1.out.1; have := H2.out.1; have := H4.out.1; have := HU.out; omega
  · have := Vl.on B3 H4.out.2
    rw [HD.out]
    simpa using this

end Go.Proofs.Ytdbahebhodoooaa.Px

/-
  Reader's Bytes: its answer lies in a block of bytes; readers, told by a plain list.
  Conditions: bytes that are looked at lie in memory.
-/
namespace Go.Proofs.Ytdbahebhodoooaa.Px
open Go.RowKit Wi By Fl Ba
set_option linter.unusedVariables false
set_option linter.unusedSimpArgs false
set_option maxRecDepth 100000

theorem clone_t (x : Option Addr) (n c : Nat) (l : List Nat) (w : World) (hl : Go.Proofs.Ytdbahebhodoooaa.Sl w x n c l) (hn : n ≤ 140737488355328) :
    Calls Try.prog 60 #[.slice x n c] w fun e w' => ∃ y cy, e = .returned (.slice y n cy) ∧ Below w.heap.size w w' ∧ Go.Proofs.Ytdbahebhodoooaa.Sl w' y n cy l ∧ ∀ a, y = some a → w.heap.size ≤ a.block ∧ Tb w' a.block 5 :=
  (clone_vl x n c l w (ofW hl) hn).mono fun e w' ⟨y, cy, h1, h2⟩ => ⟨y, cy, h1, h2.out.1, toW h2.out.2.1, h2.out.2.2⟩

def PToldT (w w' : World) (p : Nat) (x : Option Addr) (v : Value) (k l' : List Nat) (e' : Nat) : Prop := PGo w w' p x l' e' ∧ ∃ y cy, v = .slice y k.length cy ∧ Go.Proofs.Ytdbahebhodoooaa.Sl w' y k.length cy k ∧ ∀ a, y = some a → w.heap.size ≤ a.block ∧ Tb w' a.block 5

theorem pbytesT (p n c e : Nat) (t : Int) (x : Option Addr) (l : List Nat) (w : World) (h : PRd w p x n c l e) (ht1 : -9223372036854775808 ≤ t) (ht2 : t ≤ 9223372036854775807) :
    Calls Try.prog 44 #[.pointer (some ⟨p, 0, none⟩), .int .i64 t] w fun ed w' => ∃ v, ed = .returned v ∧ PToldT w w' p x v (rBy t l e).1 (rBy t l e).2.1 (rBy t l e).2.2 := by
  have h1 := perr_any p e w h.wrong
  have hsm := h.small
  by_cases he : e = 0
  · subst he
    have hc0 := h.rest
    have hu : Calls Try.prog 40 #[.pointer (some ⟨p, 0, none⟩), .int .i64 t] w fun ed w' => ed = .returned (.int .i64 ((rNum t l 0).1 : Int)) ∧ Turn p w w' ∧ ∃ x' c', PRd w' p x' (rNum t l 0).2.1.length c' (rNum t l 0).2.1 (rNum t l 0).2.2 ∧ From x x' :=
      (pnum_any p n c 0 t x l w h ht1 ht2).mono fun ed w' ⟨h1, h2, x', n', c', h3, h4⟩ => ⟨h1, h2, x', c', by rw [h3.sl.len]; exact h3, h4⟩
    have hN := rNum_lt t l 0 ht2
    by_cases he2 : (rNum t l 0).2.2 = 0
    · by_cases hfew : (rNum t l 0).2.1.length < (rNum t l 0).1
      · have HD : Hid (rBy t l 0 = ([], l, 5)) := rBy_few he2 hfew
        have hr : ∀ v x' n' c' l' e', Turn p w v → PRd v p x' n' c' l' e' → Calls Try.prog 63 #[.pointer (some ⟨p, 0, none⟩), .slice x n c, .int .i64 5] v fun ed w' => ed = .returned (.tuple #[]) ∧ PGo w w' p x l 5 := fun v x' n' c' l' e' t1 h3 =>
          (prefuse_any p n' c' _ 5 n c x' x _ l v h3 (h.sl.turn t1 h.ap) h.ap hsm).mono fun ed w' ⟨h5, h6⟩ => ⟨h5, t1.trans h6.1, h6.2⟩
        rw [he2] at hu
        generalize (rNum t l 0).1 = N at *
        generalize (rNum t l 0).2.1 = l2 at *
        clear h he2
        go_enter Try.func44, Try.ntmps44
        go_wp2_with (first
          | (go_at_call 61; refine h1.mono ?_; rintro e w' ⟨rfl, rfl⟩; clear h1)
          | (go_at_call 40; refine hu.mono ?_; rintro e w2 ⟨rfl, t2, x2, c2, hg, _⟩; have hd0 := hg.rest; have hd1 := hg.wrong; have hr2 := hr _ _ _ _ _ _ t2 hg; clear hu hr hg)
          | (go_at_call 63; refine hr2.mono ?_; rintro e w3 ⟨rfl, hg3⟩; clear hr2))
        go_ret
        rw [HD.out]
        exact ⟨_, rfl, hg3, none, 0, rfl, Go.Proofs.Ytdbahebhodoooaa.Sl.empty _, fun a ha => by cases ha⟩
      · have hle : (rNum t l 0).1 ≤ (rNum t l 0).2.1.length := by omega
        have HD : Hid (rBy t l 0 = ((rNum t l 0).2.1.take (rNum t l 0).1, (rNum t l 0).2.1.drop (rNum t l 0).1, 0)) := rBy_yes he2 hle
        rw [he2] at hu
        generalize (rNum t l 0).1 = N at *
        generalize (rNum t l 0).2.1 = l2 at *
        obtain ⟨m, hm⟩ : ∃ m, m = l2.length := ⟨_, rfl⟩
        rw [← hm] at hu hle
        have Hm : Hid (m = l2.length) := hm
        clear h he2 hfew hm
        go_enter Try.func44, Try.ntmps44
        go_wp2_with (first
          | (go_at_call 61; refine h1.mono ?_; rintro e w' ⟨rfl, rfl⟩; clear h1)
          | (go_at_call 40; refine hu.mono ?_; rintro e w2 ⟨rfl, t2, x2, c2, hg, hfr⟩; have hd0 := hg.rest; have hd1 := hg.wrong; have HG : Hid (PRd w2 p x2 m c2 l2 0 ∧ Turn p w' w2 ∧ From x x2) := ⟨hg, t2, hfr⟩; have hhead := fun v => cut_head x2 m c2 N v (Nat.le_trans hle hg.sl.le); have hcut := fun v => wcut_from x2 m c2 N v hle; have hcl := clone_t x2 N c2 (l2.take N) w2 (hg.sl.head N hle) (Nat.le_trans hle hg.small); clear hu hg t2 hfr)
          | (go_at_call 60; refine hcl.mono ?_; rintro e w3 ⟨y, cy, rfl, hb3, hy3, hyb⟩; have hk3 := HG.out.1.below hb3; have he0 := hk3.rest; have hf0 := hk3.fr 0; have H3 : Hid (Below w2.heap.size w2 w3 ∧ Go.Proofs.Ytdbahebhodoooaa.Sl w3 y N cy (l2.take N) ∧ PRd w3 p x2 m c2 l2 0 ∧ ∀ a, y = some a → w2.heap.size ≤ a.block ∧ Tb w3 a.block 5) := ⟨hb3, hy3, hk3, hyb⟩; clear hcl hhead hb3 hy3 hk3 hyb))
        go_ret
        rw [HD.out]
        obtain ⟨g1, g2, g3⟩ := HG.out
        obtain ⟨k1, k2, k3, k4⟩ := H3.out
        have t3 : Turn p w' w3 := g2.trans (Turn.of_below k1)
        have hlen : (l2.take N).length = N := by rw [List.length_take]; have := Hm.out; omega
        have hyp : ∀ a, y = some a → a.block ≠ p := fun a ha => by
          have h1 := (k4 a ha).1
          have h2 := g1.lt
          omega
        refine ⟨_, rfl, ⟨t3.setCell rfl _, _, _, _, k3.setRest (k3.sl.from N hle) ((From.cut x2 c2 N).ap k3.ap) (by have := k3.small; omega), g3.trans (From.cut x2 c2 N)⟩, y, cy, by rw [hlen]; rfl, ?_, fun a ha => ⟨Nat.le_trans g2.size (k4 a ha).1, (k4 a ha).2.of_heap (Below.heap_setCell _ _ _ _ (hyp a ha))⟩⟩
        rw [hlen]
        exact k2.turn ((Turn.refl p w3).setCell rfl _) hyp
    · have HD : Hid (rBy t l 0 = ([], (rNum t l 0).2.1, (rNum t l 0).2.2)) := rBy_no he2
      generalize (rNum t l 0).1 = N at *
      generalize (rNum t l 0).2.1 = l2 at *
      generalize (rNum t l 0).2.2 = e2 at *
      have hne : ((e2 : Int) != 0) = true := by simp; omega
      clear h
      go_enter Try.func44, Try.ntmps44
      go_wp2_with (first
        | (go_at_call 61; refine h1.mono ?_; rintro e w' ⟨rfl, rfl⟩; clear h1)
        | (go_at_call 40; refine hu.mono ?_; rintro e w2 ⟨rfl, t2, x2, c2, hg, hfr⟩; have hd1 := hg.wrong; clear hu))
      go_ret
      rw [HD.out]
      exact ⟨_, rfl, ⟨t2, x2, _, c2, hg, hfr⟩, none, 0, rfl, Go.Proofs.Ytdbahebhodoooaa.Sl.empty _, fun a ha => by cases ha⟩
  · have HD : Hid (rBy t l e = ([], l, e) ∧ PGo w w p x l e) := ⟨rBy_bad he, Turn.refl p w, x, n, c, h, From.refl x⟩
    have hne : ((e : Int) != 0) = true := by simp; omega
    clear h
    go_enter Try.func44, Try.ntmps44
    go_wp2_with (go_at_call 61; refine h1.mono ?_; rintro e w' ⟨rfl, rfl⟩; clear h1)
    go_ret
    rw [HD.out.1]
    exact ⟨_, rfl, HD.out.2, none, 0, rfl, Go.Proofs.Ytdbahebhodoooaa.Sl.empty _, fun a ha => by cases ha⟩

def Rdr (w : World) (p N : Nat) (l : List Nat) (e : Nat) : Prop := ∃ x n c, PRd w p x n c l e ∧ ∀ a, x = some a → a.block < N

theorem Rdr.lt {w : World} {p N : Nat} {l : List Nat} {e : Nat} (h : Rdr w p N l e) : p < w.heap.size := by
  obtain ⟨x, n, c, h1, _⟩ := h
  exact h1.lt

theorem Rdr.turns {G : Nat → Prop} {w w' : World} {p N : Nat} {l : List Nat} {e : Nat} (h : Rdr w p N l e) (t : Turns G w w') (hp : ¬ G p) (hN : ∀ k, G k → N ≤ k) : Rdr w' p N l e := by
  obtain ⟨x, n, c, h1, h2⟩ := h
  refine ⟨x, n, c, ⟨keept t hp h1.rest, keept t hp h1.wrong, fun j => keeptf t hp h1.lt (h1.fr j), toW ((ofW h1.sl).turns t (fun _ a ha hg => ?_)), h1.ap, h1.small⟩, h2⟩
  have := h2 a ha
  have := hN _ hg
  omega

theorem Rdr.below {w w' : World} {p N : Nat} {l : List Nat} {e : Nat} (h : Rdr w p N l e) (b : Below w.heap.size w w') : Rdr w' p N l e :=
  h.turns (Turns.of_below (F := fun _ => False) b) (fun h => h) (fun _ h => h.elim)

theorem turn_turns {g : Nat} {w w' : World} (t : Turn g w w') : Turns (atB g) w w' := ⟨t.os, t.tape, t.output, t.size, fun k hk hn => t.block k hk hn⟩

theorem PGo.rdr {w w' : World} {p N : Nat} {x : Option Addr} {l' : List Nat} {e' : Nat} (h : PGo w w' p x l' e') (hx : ∀ a, x = some a → a.block < N) : Turns (atB p) w w' ∧ Rdr w' p N l' e' := by
  obtain ⟨h1, x', n', c', h2, h3⟩ := h
  exact ⟨turn_turns h1, x', n', c', h2, fun a ha => by obtain ⟨b, hb, e⟩ := h3 a ha; rw [← e]; exact hx b hb⟩

theorem numR {p N : Nat} {l : List Nat} {e : Nat} {w : World} (t : Int) (h : Rdr w p N l e) (ht1 : -9223372036854775808 ≤ t) (ht2 : t ≤ 9223372036854775807) :
    Calls Try.prog 40 #[.pointer (some ⟨p, 0, none⟩), .int .i64 t] w fun ed w' => ed = .returned (.int .i64 ((rNum t l e).1 : Int)) ∧ Hid (Turns (atB p) w w' ∧ Rdr w' p N (rNum t l e).2.1 (rNum t l e).2.2) := by
  obtain ⟨x, n, c, h1, h2⟩ := h
  exact (pnum_any p n c e t x l w h1 ht1 ht2).mono fun ed w' ⟨h3, h4⟩ => ⟨h3, PGo.rdr h4 h2⟩

theorem bytesR {p N : Nat} {l : List Nat} {e : Nat} {w : World} (t : Int) (h : Rdr w p N l e) (ht1 : -9223372036854775808 ≤ t) (ht2 : t ≤ 9223372036854775807) :
    Calls Try.prog 44 #[.pointer (some ⟨p, 0, none⟩), .int .i64 t] w fun ed w' => ∃ y m cy, ed = .returned (.slice y m cy) ∧ Hid (Turns (atB p) w w' ∧ Rdr w' p N (rBy t l e).2.1 (rBy t l e).2.2 ∧ Fl.Sl w' y m cy (rBy t l e).1 ∧ ∀ a, y = some a → w.heap.size ≤ a.block ∧ Tb w' a.block 5) := by
  obtain ⟨x, n, c, h1, h2⟩ := h
  refine (pbytesT p n c e t x l w h1 ht1 ht2).mono fun ed w' ⟨v, h3, h4, y, cy, h5, h6, h7⟩ => ?_
  subst h5
  obtain ⟨q1, q2⟩ := PGo.rdr h4 h2
  exact ⟨y, _, cy, h3, q1, q2, ofW h6, h7⟩

theorem readR (x : Option Addr) (n c : Nat) (l : List Nat) (w : World) (hl : Fl.Sl w x n c l) (hn : n ≤ 140737488355328) :
    Calls Try.prog 39 #[.slice x n c] w fun e w' => ∃ p, e = .returned (.pointer (some ⟨p, 0, none⟩)) ∧ Hid (w.heap.size ≤ p ∧ Below w.heap.size w w' ∧ Rdr w' p w'.heap.size l 0) :=
  (read_any x n c l w (toW hl) hn).mono fun e w' ⟨p, y, cy, h1, h2, h3, h4, h5⟩ => ⟨p, h1, h2, h3, y, n, cy, h4, fun a ha => (h5 a ha).2⟩

theorem errR {p N : Nat} {l : List Nat} {e : Nat} {w : World} (h : Rdr w p N l e) : Calls Try.prog 61 #[.pointer (some ⟨p, 0, none⟩)] w fun ed w' => ed = .returned (.int .i64 (e : Int)) ∧ w' = w := by
  obtain ⟨x, n, c, h1, h2⟩ := h
  exact perr_any p e w h1.wrong

theorem doneR {p N : Nat} {l : List Nat} {e : Nat} {w : World} (h : Rdr w p N l e) : Calls Try.prog 45 #[.pointer (some ⟨p, 0, none⟩)] w fun ed w' => ed = .returned (.int .i64 (rDone l e : Int)) ∧ w' = w := by
  obtain ⟨x, n, c, h1, h2⟩ := h
  exact pdone_any p n c e x l w h1

theorem results_cell1 {fn : Func} {p : Tmp} {ty : TypeId} (h : fn.results = #[.cell p ty]) (tmps : Array Value) (P : Program) (w : World) :
    (results fn tmps).run P w = ((asAddr (tmps.getD p undef)).run P w).andThen fun a w₁ => (loadVar ty a).run P w₁ := by
  simp only [results, h]
  simp [Sem.run_bind, Result.andThen]

end Go.Proofs.Ytdbahebhodoooaa.Px

/-
  Package paxos: decrees and ballots read and looked at.
  Conditions: bytes that are looked at lie in memory.
-/
namespace Go.Proofs.Ytdbahebhodoooaa.Px
open Go.RowKit Wi By Fl Ba
set_option linter.unusedVariables false
set_option linter.unusedSimpArgs false
set_option maxRecDepth 100000

theorem Turns.at_trans {a b c : World} {g : Nat} (h : Turns (atB g) a b) (k : Turns (atB g) b c) : Turns (atB g) a c := h.trans k

/- Behind a new block of one's own, turns of an elder one, and stores into the new one. -/
theorem turns_new {w w' : World} {g : Nat} {o : Obj} (t : Turns (fun k => k = g ∨ k = w.heap.size) (w.alloc o) w') : Turns (atB g) w w' := by
  have h0 : Turns (fun k => k = g ∨ k = w.heap.size) w (w.alloc o) := (Turns.refl _ w).alloc o
  have h1 := h0.trans t
  exact ⟨h1.os, h1.tape, h1.output, h1.size, fun k hk hn => h1.block k hk (fun e => by
    rcases e with e | e
    · exact hn e
    · omega)⟩

theorem turns_put {a w : World} {g : Nat} (t : Turns (atB g) a w) (k : Nat) (u : Value) : Turns (atB g) a (w.setCell ⟨g, k, none⟩ u) := t.setCell (p := ⟨g, k, none⟩) (.inl rfl) u

theorem Turns.or_l {w w' : World} {g h : Nat} (t : Turns (atB g) w w') : Turns (fun k => k = g ∨ k = h) w w' := t.weak fun k e => .inl e

theorem rNum_le (t : Int) (l : List Nat) (e : Nat) : ((rNum t l e).1 : Int) ≤ max t 0 := by
  unfold rNum
  split
  · simp; omega
  · split
    · simp; omega
    · split
      · simp; omega
      · next h => omega

theorem rdc_any {p N : Nat} {l : List Nat} {e : Nat} {w : World} (n : Nat) (hn : n ≤ 7) (h : Rdr w p N l e) (hNw : N ≤ w.heap.size) :
    Calls Try.prog 64 #[.pointer (some ⟨p, 0, none⟩), .int .i64 n] w fun ed w' => ed = .returned (dv (rDc n l e).1) ∧ Hid (Turns (atB p) w w' ∧ Rdr w' p N (rDc n l e).2.1 (rDc n l e).2.2) := by
  have hp := h.lt
  have hA := fun W (hW : Rdr W p N l e) => numR ((n : Int) - 1) hW (by omega) (by omega)
  have HE : Hid (rDc n l e = (⟨(rNum ((n : Int) - 1) l e).1, (rNum 2147483647 (rNum ((n : Int) - 1) l e).2.1 (rNum ((n : Int) - 1) l e).2.2).1,
    str (rBy 4096 (rNum 2147483647 (rNum ((n : Int) - 1) l e).2.1 (rNum ((n : Int) - 1) l e).2.2).2.1 (rNum 2147483647 (rNum ((n : Int) - 1) l e).2.1 (rNum ((n : Int) - 1) l e).2.2).2.2).1⟩,
    (rBy 4096 (rNum 2147483647 (rNum ((n : Int) - 1) l e).2.1 (rNum ((n : Int) - 1) l e).2.2).2.1 (rNum 2147483647 (rNum ((n : Int) - 1) l e).2.1 (rNum ((n : Int) - 1) l e).2.2).2.2).2)) := rfl
  generalize rDc n l e = D at *
  have h0 : ∀ o, Rdr (w.alloc o) p N l e := fun o => h.below (al _ _)
  have HNw : Hid (N ≤ w.heap.size) := hNw
  have nI : (n : Int) ≤ 7 := by omega
  clear h hn hNw
  generalize rNum ((n : Int) - 1) l e = A at *
  have hB := fun W (hW : Rdr W p N A.2.1 A.2.2) => numR 2147483647 hW (by omega) (by omega)
  generalize rNum 2147483647 A.2.1 A.2.2 = B at *
  have hC := fun W (hW : Rdr W p N B.2.1 B.2.2) => bytesR 4096 hW (by omega) (by omega)
  generalize rBy 4096 B.2.1 B.2.2 = C at *
  go_enter Try.func64, Try.ntmps64
  go_wp2_with (first
    | (
       go_at_call 40; refine (hA _ (h0 _)).mono ?_; rintro e w1 ⟨rfl, H1⟩; clear hA h0
       have r0 := keepn H1.out.1 (b := w.heap.size) (o := 0) (x := .int .i64 0) (by omega) (by go_simp)
       have r1 := keepn H1.out.1 (b := w.heap.size) (o := 1) (x := .int .i64 0) (by omega) (by go_simp)
       have r2 := keepn H1.out.1 (b := w.heap.size) (o := 2) (x := .string ⟨#[]⟩) (by omega) (by go_simp)
       have f0 := keepnf H1.out.1 (b := w.heap.size) (o := 0) (by omega) (by simp) (by go_simp)
       have f1 := keepnf H1.out.1 (b := w.heap.size) (o := 1) (by omega) (by simp) (by go_simp)
       have f2 := keepnf H1.out.1 (b := w.heap.size) (o := 2) (by omega) (by simp) (by go_simp))
    | (
       go_at_call 40; refine (hB _ H1.out.2).mono ?_; rintro e w2 ⟨rfl, H2⟩; clear hB
       have lt2 : w.heap.size < w1.heap.size := cell_lt' r0
       have r0 := keepn H2.out.1 (b := w.heap.size) (by omega) r0
       have r1 := keepn H2.out.1 (b := w.heap.size) (by omega) r1
       have r2 := keepn H2.out.1 (b := w.heap.size) (by omega) r2
       have f0 := keepnf H2.out.1 (b := w.heap.size) (by omega) (by omega) f0
       have f1 := keepnf H2.out.1 (b := w.heap.size) (by omega) (by omega) f1
       have f2 := keepnf H2.out.1 (b := w.heap.size) (by omega) (by omega) f2
       clear lt2)
    | (
       go_at_call 44; refine (hC _ H2.out.2).mono ?_; rintro e w3 ⟨y, m, cy, rfl, H3⟩; clear hC
       have lt3 : w.heap.size < w2.heap.size := cell_lt' r0
       have r0 := keepn H3.out.1 (b := w.heap.size) (by omega) r0
       have r1 := keepn H3.out.1 (b := w.heap.size) (by omega) r1
       have r2 := keepn H3.out.1 (b := w.heap.size) (by omega) r2
       have f0 := keepnf H3.out.1 (b := w.heap.size) (by omega) (by omega) f0
       have f1 := keepnf H3.out.1 (b := w.heap.size) (by omega) (by omega) f1
       have f2 := keepnf H3.out.1 (b := w.heap.size) (by omega) (by omega) f2
       have hcv := conv_sl H3.out.2.2.1))
  refine bodyPost_ret (v := .agg #[.int .i64 (A.1 : Nat), .int .i64 (B.1 : Nat), .string (str C.1)]) ?_ rfl ?_
  · rw [results_cell1 rfl]
    go_simp
  · have T : Turns (fun k => k = p ∨ k = w.heap.size) (w.alloc (.cells #[.int .i64 0, .int .i64 0, .string ⟨#[]⟩] 68)) w3 := ((H1.out.1.trans H2.out.1).trans H3.out.1).weak fun k e => .inl e
    have T2 := ((T.setCell (p := ⟨w.heap.size, 0, none⟩) (.inl (.inr rfl)) (.int .i64 (A.1 : Nat))).setCell (p := ⟨w.heap.size, 1, none⟩) (.inl (.inr rfl)) (.int .i64 (B.1 : Nat))).setCell (p := ⟨w.heap.size, 2, none⟩) (.inl (.inr rfl)) (.string (str C.1))
    have T3 : Turns (atB w.heap.size) w3 (((w3.setCell ⟨w.heap.size, 0, none⟩ (.int .i64 (A.1 : Nat))).setCell ⟨w.heap.size, 1, none⟩ (.int .i64 (B.1 : Nat))).setCell ⟨w.heap.size, 2, none⟩ (.string (str C.1))) :=
      turns_put (turns_put (turns_put (Turns.refl _ w3) 0 _) 1 _) 2 _
    refine ⟨by rw [HE.out]; rfl, turns_new T2, ?_⟩
    rw [HE.out]
    exact H3.out.2.1.turns T3 (fun e => by have e2 : p = w.heap.size := e; omega) (fun k e => by have e2 : k = w.heap.size := e; have := HNw.out; omega)

theorem dmay_any (d : Dc) (w : World) : Calls Try.prog 83 #[dv d] w fun e w' => e = .returned (.bool (decide (1 ≤ d.ser))) ∧ Below w.heap.size w w' := by
  obtain ⟨mon, ser, s⟩ := d
  dsimp only [dv]
  have hd : decide (1 ≤ (ser : Int)) = decide (1 ≤ ser) := by
    by_cases h : 1 ≤ ser <;> simp [h] <;> omega
  go_enter Try.func83, Try.ntmps83
  go_wp2_with fail
  go_ret
  exact ⟨by simp [hd], al _ _⟩

def noDc : Dc := ⟨0, 0, ⟨#[]⟩⟩

theorem turns_above {g : Nat} {a w w' : World} (b : Below a.heap.size a w) (t : Turns (atB g) w w') (hg : a.heap.size ≤ g) : Below a.heap.size a w' :=
  b.trans (t.below (fun k hk => by have e : k = g := hk; omega) b.size)

theorem dof_any (x : Option Addr) (n c : Nat) (l : List Nat) (k : Nat) (hk : k ≤ 7) (w : World) (hl : Fl.Sl w x n c l) (hn : n ≤ 140737488355328) :
    Calls Try.prog 82 #[.slice x n c, .int .i64 k] w fun e w' => e = .returned (.tuple #[dv ((dOf k l).getD noDc), .bool (dOf k l).isSome]) ∧ Hid (Below w.heap.size w w') := by
  have hR := fun W h => readR x n c l W h hn
  have hD := fun W p (hW : Rdr W p W.heap.size l 0) => rdc_any k hk hW (Nat.le_refl _)
  have hM := fun W => dmay_any (rDc k l 0).1 W
  unfold dOf
  generalize rDc k l 0 = D at *
  obtain ⟨⟨mon, ser, s⟩, l2, e2⟩ := D
  dsimp only [dv] at *
  have b0 : ∀ o, Below w.heap.size w (w.alloc o) := fun o => al _ _
  by_cases h1 : rDone l2 e2 = 0
  · by_cases h2 : 1 ≤ ser
    · rw [if_pos ⟨h1, h2⟩]
      have ht : decide (1 ≤ ser) = true := by simp [h2]
      rw [ht] at hM
      have hO := fun (W : World) (p : Nat) (hW : Rdr W p W.heap.size l2 e2) => doneR hW
      have hO2 := fun (W : World) (p N : Nat) (hW : Rdr W p N l2 e2) => doneR hW
      rw [h1] at hO2
      dsimp only [Option.getD, Option.isSome]
      clear h1 h2 ht hn hk hO
      go_enter Try.func82, Try.ntmps82
      go_wp2_with (first
        | (
           go_at_call 39; refine (hR _ (hl.below (b0 _))).mono ?_; rintro e w1 ⟨p, rfl, H1⟩; clear hR
           have r0 := keep H1.out.2.1 (b := w.heap.size) (o := 0) (x := .int .i64 0) (by first | assumption | go_simp)
           have r1 := keep H1.out.2.1 (b := w.heap.size) (o := 1) (x := .int .i64 0) (by first | assumption | go_simp)
           have r2 := keep H1.out.2.1 (b := w.heap.size) (o := 2) (x := .string ⟨#[]⟩) (by first | assumption | go_simp)
           have f0 := keepf H1.out.2.1 (b := w.heap.size) (o := 0) (by first | (simp <;> omega) | exact cell_lt' (a := ⟨w.heap.size, 0, none⟩) (by assumption) | (simp; exact cell_lt' (a := ⟨w.heap.size, 0, none⟩) (by assumption))) (by first | assumption | go_simp)
           have f1 := keepf H1.out.2.1 (b := w.heap.size) (o := 1) (by first | (simp <;> omega) | exact cell_lt' (a := ⟨w.heap.size, 1, none⟩) (by assumption) | (simp; exact cell_lt' (a := ⟨w.heap.size, 1, none⟩) (by assumption))) (by first | assumption | go_simp)
           have f2 := keepf H1.out.2.1 (b := w.heap.size) (o := 2) (by first | (simp <;> omega) | exact cell_lt' (a := ⟨w.heap.size, 2, none⟩) (by assumption) | (simp; exact cell_lt' (a := ⟨w.heap.size, 2, none⟩) (by assumption))) (by first | assumption | go_simp)
           have hpw : w.heap.size < p := by have := H1.out.1; simp at this; omega
           have lt1 : w.heap.size < w1.heap.size := cell_lt' r0
           have B1 := on (b0 _) H1.out.2.1
           clear b0)
        | (
           go_at_call 64; refine (hD _ _ H1.out.2.2).mono ?_; rintro e w2 ⟨rfl, H2⟩; clear hD
           have r0 := keepn H2.out.1 (b := w.heap.size) (by omega) r0
           have r1 := keepn H2.out.1 (b := w.heap.size) (by omega) r1
           have r2 := keepn H2.out.1 (b := w.heap.size) (by omega) r2
           have f0 := keepnf H2.out.1 (b := w.heap.size) (by omega) (by omega) f0
           have f1 := keepnf H2.out.1 (b := w.heap.size) (by omega) (by omega) f1
           have f2 := keepnf H2.out.1 (b := w.heap.size) (by omega) (by omega) f2
           have lt2 : w.heap.size < w2.heap.size := cell_lt' r0
           have B2 := turns_above B1 H2.out.1 (by omega)
           have R2 := fun o => H2.out.2.below (al w2 o)
           clear lt1 B1)
        | (
           go_at_call 45; refine (hO2 _ _ _ (R2 _)).mono ?_; rintro e w3 ⟨rfl, hw3⟩; subst w3; clear hO2)
        | (
           go_at_call 83; refine (hM _).mono ?_; rintro e w4 ⟨rfl, H4⟩; clear hM
           have r0 := keep H4 (b := w.heap.size) (o := 0) (x := .int .i64 0) (by first | assumption | go_simp)
           have r1 := keep H4 (b := w.heap.size) (o := 1) (x := .int .i64 0) (by first | assumption | go_simp)
           have r2 := keep H4 (b := w.heap.size) (o := 2) (x := .string ⟨#[]⟩) (by first | assumption | go_simp)
           have f0 := keepf H4 (b := w.heap.size) (o := 0) (by first | (simp <;> omega) | exact cell_lt' (a := ⟨w.heap.size, 0, none⟩) (by assumption) | (simp; exact cell_lt' (a := ⟨w.heap.size, 0, none⟩) (by assumption))) (by first | assumption | go_simp)
           have f1 := keepf H4 (b := w.heap.size) (o := 1) (by first | (simp <;> omega) | exact cell_lt' (a := ⟨w.heap.size, 1, none⟩) (by assumption) | (simp; exact cell_lt' (a := ⟨w.heap.size, 1, none⟩) (by assumption))) (by first | assumption | go_simp)
           have f2 := keepf H4 (b := w.heap.size) (o := 2) (by first | (simp <;> omega) | exact cell_lt' (a := ⟨w.heap.size, 2, none⟩) (by assumption) | (simp; exact cell_lt' (a := ⟨w.heap.size, 2, none⟩) (by assumption))) (by first | assumption | go_simp)
           have q0 := keep H4 (b := w2.heap.size) (o := 0) (x := .int .i64 mon) (by first | assumption | go_simp)
           have q1 := keep H4 (b := w2.heap.size) (o := 1) (x := .int .i64 ser) (by first | assumption | go_simp)
           have q2 := keep H4 (b := w2.heap.size) (o := 2) (x := .string s) (by first | assumption | go_simp)
           have B4 := on (on B2 (al _ _)) H4))
      refine bodyPost_ret (v := .tuple #[.agg #[.int .i64 mon, .int .i64 ser, .string s], .bool true]) ?_ rfl ⟨rfl, ?_⟩
      · rw [results_cell2 rfl]
        go_simp
      · exact ((B4.setCell (p := ⟨w.heap.size, 0, none⟩) (Nat.le_refl _) _).setCell (p := ⟨w.heap.size, 1, none⟩) (Nat.le_refl _) _).setCell (p := ⟨w.heap.size, 2, none⟩) (Nat.le_refl _) _
    · rw [if_neg (fun h => h2 h.2)]
      have ht : decide (1 ≤ ser) = false := by simp; omega
      rw [ht] at hM
      have hO2 := fun (W : World) (p N : Nat) (hW : Rdr W p N l2 e2) => doneR hW
      rw [h1] at hO2
      dsimp only [Option.getD, Option.isSome, noDc]
      clear h1 h2 ht hn hk
      go_enter Try.func82, Try.ntmps82
      go_wp2_with (first
        | (
           go_at_call 39; refine (hR _ (hl.below (b0 _))).mono ?_; rintro e w1 ⟨p, rfl, H1⟩; clear hR
           have r0 := keep H1.out.2.1 (b := w.heap.size) (o := 0) (x := .int .i64 0) (by first | assumption | go_simp)
           have r1 := keep H1.out.2.1 (b := w.heap.size) (o := 1) (x := .int .i64 0) (by first | assumption | go_simp)
           have r2 := keep H1.out.2.1 (b := w.heap.size) (o := 2) (x := .string ⟨#[]⟩) (by first | assumption | go_simp)
           have f0 := keepf H1.out.2.1 (b := w.heap.size) (o := 0) (by first | (simp <;> omega) | exact cell_lt' (a := ⟨w.heap.size, 0, none⟩) (by assumption) | (simp; exact cell_lt' (a := ⟨w.heap.size, 0, none⟩) (by assumption))) (by first | assumption | go_simp)
           have f1 := keepf H1.out.2.1 (b := w.heap.size) (o := 1) (by first | (simp <;> omega) | exact cell_lt' (a := ⟨w.heap.size, 1, none⟩) (by assumption) | (simp; exact cell_lt' (a := ⟨w.heap.size, 1, none⟩) (by assumption))) (by first | assumption | go_simp)
           have f2 := keepf H1.out.2.1 (b := w.heap.size) (o := 2) (by first | (simp <;> omega) | exact cell_lt' (a := ⟨w.heap.size, 2, none⟩) (by assumption) | (simp; exact cell_lt' (a := ⟨w.heap.size, 2, none⟩) (by assumption))) (by first | assumption | go_simp)
           have hpw : w.heap.size < p := by have := H1.out.1; simp at this; omega
           have lt1 : w.heap.size < w1.heap.size := cell_lt' r0
           have B1 := on (b0 _) H1.out.2.1
           clear b0)
        | (
           go_at_call 64; refine (hD _ _ H1.out.2.2).mono ?_; rintro e w2 ⟨rfl, H2⟩; clear hD
           have r0 := keepn H2.out.1 (b := w.heap.size) (by omega) r0
           have r1 := keepn H2.out.1 (b := w.heap.size) (by omega) r1
           have r2 := keepn H2.out.1 (b := w.heap.size) (by omega) r2
           have f0 := keepnf H2.out.1 (b := w.heap.size) (by omega) (by omega) f0
           have f1 := keepnf H2.out.1 (b := w.heap.size) (by omega) (by omega) f1
           have f2 := keepnf H2.out.1 (b := w.heap.size) (by omega) (by omega) f2
           have lt2 : w.heap.size < w2.heap.size := cell_lt' r0
           have B2 := turns_above B1 H2.out.1 (by omega)
           have R2 := fun o => H2.out.2.below (al w2 o)
           clear lt1 B1)
        | (
           go_at_call 45; refine (hO2 _ _ _ (R2 _)).mono ?_; rintro e w3 ⟨rfl, hw3⟩; subst w3; clear hO2)
        | (
           go_at_call 83; refine (hM _).mono ?_; rintro e w4 ⟨rfl, H4⟩; clear hM
           have r0 := keep H4 (b := w.heap.size) (o := 0) (x := .int .i64 0) (by first | assumption | go_simp)
           have r1 := keep H4 (b := w.heap.size) (o := 1) (x := .int .i64 0) (by first | assumption | go_simp)
           have r2 := keep H4 (b := w.heap.size) (o := 2) (x := .string ⟨#[]⟩) (by first | assumption | go_simp)
           have f0 := keepf H4 (b := w.heap.size) (o := 0) (by first | (simp <;> omega) | exact cell_lt' (a := ⟨w.heap.size, 0, none⟩) (by assumption) | (simp; exact cell_lt' (a := ⟨w.heap.size, 0, none⟩) (by assumption))) (by first | assumption | go_simp)
           have f1 := keepf H4 (b := w.heap.size) (o := 1) (by first | (simp <;> omega) | exact cell_lt' (a := ⟨w.heap.size, 1, none⟩) (by assumption) | (simp; exact cell_lt' (a := ⟨w.heap.size, 1, none⟩) (by assumption))) (by first | assumption | go_simp)
           have f2 := keepf H4 (b := w.heap.size) (o := 2) (by first | (simp <;> omega) | exact cell_lt' (a := ⟨w.heap.size, 2, none⟩) (by assumption) | (simp; exact cell_lt' (a := ⟨w.heap.size, 2, none⟩) (by assumption))) (by first | assumption | go_simp)
           have B4 := on (on B2 (al _ _)) H4))
      refine bodyPost_ret (v := .tuple #[.agg #[.int .i64 0, .int .i64 0, .string ⟨#[]⟩], .bool false]) ?_ rfl ⟨rfl, ?_⟩
      · rw [results_cell2 rfl]
        go_simp
      · exact ((B4.setCell (p := ⟨w.heap.size, 0, none⟩) (Nat.le_refl _) _).setCell (p := ⟨w.heap.size, 1, none⟩) (Nat.le_refl _) _).setCell (p := ⟨w.heap.size, 2, none⟩) (Nat.le_refl _) _
  · rw [if_neg (fun h => h1 h.1)]
    have hO2 := fun (W : World) (p N : Nat) (hW : Rdr W p N l2 e2) => doneR hW
    have ho : ((rDone l2 e2 : Int) != 0) = true := by simp; omega
    generalize rDone l2 e2 = o at *
    dsimp only [Option.getD, Option.isSome, noDc]
    clear h1 hn hk
    go_enter Try.func82, Try.ntmps82
    go_wp2_with (first
      | (
         go_at_call 39; refine (hR _ (hl.below (b0 _))).mono ?_; rintro e w1 ⟨p, rfl, H1⟩; clear hR
         have r0 := keep H1.out.2.1 (b := w.heap.size) (o := 0) (x := .int .i64 0) (by first | assumption | go_simp)
         have r1 := keep H1.out.2.1 (b := w.heap.size) (o := 1) (x := .int .i64 0) (by first | assumption | go_simp)
         have r2 := keep H1.out.2.1 (b := w.heap.size) (o := 2) (x := .string ⟨#[]⟩) (by first | assumption | go_simp)
         have f0 := keepf H1.out.2.1 (b := w.heap.size) (o := 0) (by first | (simp <;> omega) | exact cell_lt' (a := ⟨w.heap.size, 0, none⟩) (by assumption) | (simp; exact cell_lt' (a := ⟨w.heap.size, 0, none⟩) (by assumption))) (by first | assumption | go_simp)
         have f1 := keepf H1.out.2.1 (b := w.heap.size) (o := 1) (by first | (simp <;> omega) | exact cell_lt' (a := ⟨w.heap.size, 1, none⟩) (by assumption) | (simp; exact cell_lt' (a := ⟨w.heap.size, 1, none⟩) (by assumption))) (by first | assumption | go_simp)
         have f2 := keepf H1.out.2.1 (b := w.heap.size) (o := 2) (by first | (simp <;> omega) | exact cell_lt' (a := ⟨w.heap.size, 2, none⟩) (by assumption) | (simp; exact cell_lt' (a := ⟨w.heap.size, 2, none⟩) (by assumption))) (by first | assumption | go_simp)
         have hpw : w.heap.size < p := by have := H1.out.1; simp at this; omega
         have lt1 : w.heap.size < w1.heap.size := cell_lt' r0
         have B1 := on (b0 _) H1.out.2.1
         clear b0)
      | (
         go_at_call 64; refine (hD _ _ H1.out.2.2).mono ?_; rintro e w2 ⟨rfl, H2⟩; clear hD
         have r0 := keepn H2.out.1 (b := w.heap.size) (by omega) r0
         have r1 := keepn H2.out.1 (b := w.heap.size) (by omega) r1
         have r2 := keepn H2.out.1 (b := w.heap.size) (by omega) r2
         have f0 := keepnf H2.out.1 (b := w.heap.size) (by omega) (by omega) f0
         have f1 := keepnf H2.out.1 (b := w.heap.size) (by omega) (by omega) f1
         have f2 := keepnf H2.out.1 (b := w.heap.size) (by omega) (by omega) f2
         have lt2 : w.heap.size < w2.heap.size := cell_lt' r0
         have B2 := turns_above B1 H2.out.1 (by omega)
         have R2 := fun o => H2.out.2.below (al w2 o)
         clear lt1 B1)
      | (
         go_at_call 45; refine (hO2 _ _ _ (R2 _)).mono ?_; rintro e w3 ⟨rfl, hw3⟩; subst w3; clear hO2))
    refine bodyPost_ret (v := .tuple #[.agg #[.int .i64 0, .int .i64 0, .string ⟨#[]⟩], .bool false]) ?_ rfl ⟨rfl, ?_⟩
    · rw [results_cell2 rfl]
      go_simp
    · show Below _ _ _
      repeat (first | with_reducible exact B2 | (refine Below.setCell ?_ (by first | (simp; done) | (simp; omega) | omega) _) | (refine Below.alloc ?_ (by first | (simp; done) | (simp; omega) | omega) _))

end Go.Proofs.Ytdbahebhodoooaa.Px
