/-
  The law's own 'does': a message is posted.
  Conditions: none.
-/
import Derived.Test.YtmekbbddfmmbeaaFlBoth
namespace Go.Proofs.Ytmekbbddfmmbeaa.Fl
open Go.RowKit By
set_option linter.unusedVariables false
set_option linter.unusedSimpArgs false
set_option maxRecDepth 100000

section
variable {w0 w : World} {p mb nb q k : Nat} {D : DataW Value} {R Rl Rp : Value} {L : List MV} {PP : List (Int × Int)}

set_option maxHeartbeats 4000000 in
theorem does_post_neg (h : Pair w0 w p mb nb q k D R Rl Rp L PP) (hk : k ≤ 1000) (Do : Int) (d1 : (Do == 1) = false) (d2 : (Do == 2) = false) (d3 : (Do == 3) = false) (d4 : (Do == 4) = false) (d5 : (Do == 5) = false) (d6 : (Do == 6) = false) (A Bb : Int) (hA : A < 0) (wA : wfi A) (wB : wfi Bb) (X : Option Addr) (n c : Nat) (d : List Nat) (hX : Sl w0 X n c d) (hn : n ≤ 140737488351232) :
    Calls Try.prog 9 #[.pointer (some ⟨p, 0, none⟩), .pointer (some ⟨q, 0, none⟩), .agg #[.int .i64 Do, .int .i64 A, .int .i64 Bb, .slice X n c]] w fun e w' => e = .returned (.bool true) ∧ Hid (Both w0 w' p q (k + 1)) := by
  have ba : Below w.heap.size w (w.alloc (.cells #[.int .i64 Do, .int .i64 A, .int .i64 Bb, .slice X n c] 33)) := (Below.refl _ _).alloc (Nat.le_refl _) _
  have bd : Below w.heap.size w (w.alloc (.cells #[.int .i64 Do, .int .i64 A, .int .i64 Bb, .slice X n c] 33)).drew := ba.drew
  have hd := h.below bd
  obtain ⟨lx, lc, hRl, hlc, _, _⟩ := hd.md.l.form
  rw [List.length_map] at hRl hlc
  have s0 := hd.md.c0
  rw [hRl] at s0
  have s1 : (w.alloc (.cells #[.int .i64 Do, .int .i64 A, .int .i64 Bb, .slice X n c] 33)).drew.cell? ⟨w.heap.size, 1, none⟩ = some (.int .i64 A) := by simp
  have tbA : Tb (w.alloc (.cells #[.int .i64 Do, .int .i64 A, .int .i64 Bb, .slice X n c] 33)).drew w.heap.size 33 := ⟨_, _, heap_alloc_new w _⟩
  have ca : CellsAt (w.alloc (.cells #[.int .i64 Do, .int .i64 A, .int .i64 Bb, .slice X n c] 33)).drew w.heap.size [.int .i64 Do, .int .i64 A, .int .i64 Bb, .slice X n c] := fun j u hj => by
    match j, hj with
    | 0, hj => simpa using hj
    | 1, hj => simpa using hj
    | 2, hj => simpa using hj
    | 3, hj => simpa using hj
    | j + 4, hj => simp at hj
  have hdec : decide (0 ≤ A) = false := by simp; omega
  clear hA
  have hl := h.hl
  have dd : Below (w.alloc (.cells #[.int .i64 Do, .int .i64 A, .int .i64 Bb, .slice X n c] 33)).drew.heap.size (w.alloc (.cells #[.int .i64 Do, .int .i64 A, .int .i64 Bb, .slice X n c] 33)).drew (w.alloc (.cells #[.int .i64 Do, .int .i64 A, .int .i64 Bb, .slice X n c] 33)).drew.drew := (Below.refl _ _).drew
  have he := hd.below dd
  obtain ⟨x', c', w3, hap, z1, z2, z3, HP⟩ := he.md.pushL (by simp; omega) A Bb (str d)
  obtain ⟨m3, t3, t3'⟩ := HP.out
  rw [hRl] at hap z1 z2
  simp only [List.length_map] at hap m3 t3
  have nG : ¬ gp q Rl Rp w.heap.size := (act_kept tbA hd).2
  have ce : CellsAt (w.alloc (.cells #[.int .i64 Do, .int .i64 A, .int .i64 Bb, .slice X n c] 33)).drew.drew w.heap.size _ := ca
  have cz := ce.keep (v' := (w.alloc (.cells #[.int .i64 Do, .int .i64 A, .int .i64 Bb, .slice X n c] 33)).drew.drew.alloc (.cells #[.int .i64 A, .int .i64 Bb, .string (str d)] 39)) (heap_alloc_old _ _ tbA.lt)
  have c3 : CellsAt w3 w.heap.size _ := ce.keep (t3'.block _ tbA.lt nG)
  have c4 : CellsAt (w3.setCell ⟨q, 0, none⟩ (.slice x' (L.length + 1) c')) w.heap.size _ := ce.keep (t3.block _ tbA.lt nG)
  have e0 := he.md.c0
  rw [hRl] at e0
  have bz : Below w0.heap.size w0 ((w.alloc (.cells #[.int .i64 Do, .int .i64 A, .int .i64 Bb, .slice X n c] 33)).drew.drew.alloc (.cells #[.int .i64 A, .int .i64 Bb, .string (str d)] 39)) := he.bel.alloc he.bel.size _
  obtain ⟨b4, f4⟩ := he.lists t3
  have b3 : Below w0.heap.size w0 w3 := he.bel.trans (t3'.below (fun k hk => (he.md.foot k hk).1) he.fl.bw)
  have S1 : (w.alloc (.cells #[.int .i64 Do, .int .i64 A, .int .i64 Bb, .slice X n c] 33)).drew.drew.cell? ⟨q, 0, none⟩ = some (.slice lx L.length lc) ∧ (w.alloc (.cells #[.int .i64 Do, .int .i64 A, .int .i64 Bb, .slice X n c] 33)).drew.drew.cell? ⟨w.heap.size, 1, none⟩ = some (.int .i64 A) ∧ (w.alloc (.cells #[.int .i64 Do, .int .i64 A, .int .i64 Bb, .slice X n c] 33)).drew.drew.cell? ⟨w.heap.size, 2, none⟩ = some (.int .i64 Bb) ∧ (w.alloc (.cells #[.int .i64 Do, .int .i64 A, .int .i64 Bb, .slice X n c] 33)).drew.drew.cell? ⟨w.heap.size, 3, none⟩ = some (.slice X n c) ∧ (convert 31 9 (.slice X n c)).run Try.prog (w.alloc (.cells #[.int .i64 Do, .int .i64 A, .int .i64 Bb, .slice X n c] 33)).drew.drew = .ok (.string (str d)) (w.alloc (.cells #[.int .i64 Do, .int .i64 A, .int .i64 Bb, .slice X n c] 33)).drew.drew := ⟨e0, ce 1 _ rfl, ce 2 _ rfl, ce 3 _ rfl, conv_sl (hX.below he.bel)⟩
  have S2 : ((w.alloc (.cells #[.int .i64 Do, .int .i64 A, .int .i64 Bb, .slice X n c] 33)).drew.drew.alloc (.cells #[.int .i64 A, .int .i64 Bb, .string (str d)] 39)).cell? ⟨q, 0, none⟩ = some (.slice lx L.length lc) ∧ ((w.alloc (.cells #[.int .i64 Do, .int .i64 A, .int .i64 Bb, .slice X n c] 33)).drew.drew.alloc (.cells #[.int .i64 A, .int .i64 Bb, .string (str d)] 39)).cell? ⟨w.heap.size, 1, none⟩ = some (.int .i64 A) ∧ ((w.alloc (.cells #[.int .i64 Do, .int .i64 A, .int .i64 Bb, .slice X n c] 33)).drew.drew.alloc (.cells #[.int .i64 A, .int .i64 Bb, .string (str d)] 39)).cell? ⟨w.heap.size, 2, none⟩ = some (.int .i64 Bb) ∧ ((w.alloc (.cells #[.int .i64 Do, .int .i64 A, .int .i64 Bb, .slice X n c] 33)).drew.drew.alloc (.cells #[.int .i64 A, .int .i64 Bb, .string (str d)] 39)).cell? ⟨w.heap.size, 3, none⟩ = some (.slice X n c) ∧ (convert 31 9 (.slice X n c)).run Try.prog ((w.alloc (.cells #[.int .i64 Do, .int .i64 A, .int .i64 Bb, .slice X n c] 33)).drew.drew.alloc (.cells #[.int .i64 A, .int .i64 Bb, .string (str d)] 39)) = .ok (.string (str d)) ((w.alloc (.cells #[.int .i64 Do, .int .i64 A, .int .i64 Bb, .slice X n c] 33)).drew.drew.alloc (.cells #[.int .i64 A, .int .i64 Bb, .string (str d)] 39)) := ⟨z1, cz 1 _ rfl, cz 2 _ rfl, cz 3 _ rfl, conv_sl (hX.below bz)⟩
  have S3 : w3.cell? ⟨q, 0, none⟩ = some (.slice lx L.length lc) ∧ w3.cell? ⟨w.heap.size, 1, none⟩ = some (.int .i64 A) ∧ w3.cell? ⟨w.heap.size, 2, none⟩ = some (.int .i64 Bb) ∧ w3.cell? ⟨w.heap.size, 3, none⟩ = some (.slice X n c) ∧ (convert 31 9 (.slice X n c)).run Try.prog w3 = .ok (.string (str d)) w3 := ⟨z2, c3 1 _ rfl, c3 2 _ rfl, c3 3 _ rfl, conv_sl (hX.below b3)⟩
  have a0 : (w.alloc (.cells #[.int .i64 Do, .int .i64 A, .int .i64 Bb, .slice X n c] 33)).drew.cell? ⟨w.heap.size, 0, none⟩ = some (.int .i64 Do) := ca 0 _ rfl
  have r1 : (w3.setCell ⟨q, 0, none⟩ (.slice x' (L.length + 1) c')).cell? ⟨w.heap.size, 1, none⟩ = some (.int .i64 A) := c4 1 _ rfl
  have r2 : (w3.setCell ⟨q, 0, none⟩ (.slice x' (L.length + 1) c')).cell? ⟨w.heap.size, 2, none⟩ = some (.int .i64 Bb) := c4 2 _ rfl
  have r3 : (w3.setCell ⟨q, 0, none⟩ (.slice x' (L.length + 1) c')).cell? ⟨w.heap.size, 3, none⟩ = some (.slice X n c) := c4 3 _ rfl
  have hP : Calls Try.prog 17 #[.pointer (some ⟨p, 0, none⟩), .int .i64 A, .int .i64 Bb, .slice X n c] (w3.setCell ⟨q, 0, none⟩ (.slice x' (L.length + 1) c')) fun e w5 => e = .returned (.bool true) ∧ Hid (Both w0 w5 p q (k + 1)) := by
    refine (post_yes f4 A Bb wA wB X n c d (hX.below b4) hn (by omega)).mono fun e w5 ⟨e5, H5⟩ => ⟨e5, ?_⟩
    obtain ⟨R5, m, f5, mf, mt, md, _, _, t5⟩ := H5.out
    refine ⟨mb, nb, D, R5, .slice x' (L.length + 1) c', Rp, L ++ [m], PP, b4.trans (f4.out t5 f4.bw), f5, ?_, by simp; omega, Nat.le_succ_of_le h.hp, Nat.le_succ_of_le h.hn⟩
    have := m3.apart t5 (fun k hk => (f4.foot k hk).2)
    rw [List.map_append, show [m].map toL = [⟨A, Bb, str d⟩] by simp [toL, mf, mt, md]]
    exact this
  clear h hd he hRl ba bd hX hlc tbA ca ce cz c3 c4 dd HP m3 t3 t3' nG bz b4 f4 b3 z1 z2 e0 hn wA wB
  generalize str d = ds at *
  go_enter Try.func9, Try.ntmps9
  go_wp2_with fail
  refine wp_region_held_drew (S := fun v => v.cell? ⟨q, 0, none⟩ = some (.slice lx L.length lc) ∧ v.cell? ⟨w.heap.size, 1, none⟩ = some (.int .i64 A)) (by kernel_rfl) ⟨s0, s1⟩ (fun hHeld => ?_)
  refine wpAnyH_take (i := 0) (v := ?_) rfl (by kernel_rfl) (by kernel_rfl) (by kernel_rfl) (fun _ _ _ h => h) (Or.inl ⟨by rfl, ?_⟩) (by assumption) ?_
  case refine_2 => (intro w hSw; (try dsimp only at hSw); go_simp; (try with_reducible rfl))
  (try simp only [Act.put, List.getElem_toArray, List.getElem_cons_succ, List.getElem_cons_zero, List.setIfInBounds_toArray, List.set_cons_zero, List.set_cons_succ])
  refine wpAnyH_take (i := 1) (v := ?_) rfl (by kernel_rfl) (by kernel_rfl) (by kernel_rfl) (fun _ _ _ h => h) (Or.inl ⟨by rfl, ?_⟩) (by assumption) ?_
  case refine_2 => (intro w hSw; (try dsimp only at hSw); go_simp; (try with_reducible rfl))
  (try simp only [Act.put, List.getElem_toArray, List.getElem_cons_succ, List.getElem_cons_zero, List.setIfInBounds_toArray, List.set_cons_zero, List.set_cons_succ])
  refine wpAnyH_take (i := 2) (v := ?_) rfl (by kernel_rfl) (by kernel_rfl) (by kernel_rfl) (fun _ _ _ h => h) (Or.inl ⟨by rfl, ?_⟩) (by assumption) ?_
  case refine_2 => (intro w hSw; (try dsimp only at hSw); go_simp; (try with_reducible rfl))
  (try simp only [Act.put, List.getElem_toArray, List.getElem_cons_succ, List.getElem_cons_zero, List.setIfInBounds_toArray, List.set_cons_zero, List.set_cons_succ])
  refine wpAnyH_take (i := 3) (v := ?_) rfl (by kernel_rfl) (by kernel_rfl) (by kernel_rfl) (fun _ _ _ h => h) (Or.inl ⟨by rfl, ?_⟩) (by assumption) ?_
  case refine_2 => (intro w hSw; (try dsimp only at hSw); go_simp; (try with_reducible rfl))
  (try simp only [Act.put, List.getElem_toArray, List.getElem_cons_succ, List.getElem_cons_zero, List.setIfInBounds_toArray, List.set_cons_zero, List.set_cons_succ])
  refine wpAnyH_take (i := 4) (v := undef) rfl (by kernel_rfl) (by kernel_rfl) (by kernel_rfl) (fun _ _ _ h => h) (Or.inr ⟨by rfl, rfl⟩) (by assumption) ?_
  (try simp only [Act.put, List.getElem_toArray, List.getElem_cons_succ, List.getElem_cons_zero, List.setIfInBounds_toArray, List.set_cons_zero, List.set_cons_succ])
  refine wpAnyH_take (i := 5) (v := undef) rfl (by kernel_rfl) (by kernel_rfl) (by kernel_rfl) (fun _ _ _ h => h) (Or.inr ⟨by rfl, rfl⟩) (by assumption) ?_
  (try simp only [Act.put, List.getElem_toArray, List.getElem_cons_succ, List.getElem_cons_zero, List.setIfInBounds_toArray, List.set_cons_zero, List.set_cons_succ])
  refine wpAnyH_take (i := 6) (v := undef) rfl (by kernel_rfl) (by kernel_rfl) (by kernel_rfl) (fun _ _ _ h => h) (Or.inr ⟨by rfl, rfl⟩) (by assumption) ?_
  (try simp only [Act.put, List.getElem_toArray, List.getElem_cons_succ, List.getElem_cons_zero, List.setIfInBounds_toArray, List.set_cons_zero, List.set_cons_succ])
  refine wpAnyH_take (i := 7) (v := undef) rfl (by kernel_rfl) (by kernel_rfl) (by kernel_rfl) (fun _ _ _ h => h) (Or.inr ⟨by rfl, rfl⟩) (by assumption) ?_
  (try simp only [Act.put, List.getElem_toArray, List.getElem_cons_succ, List.getElem_cons_zero, List.setIfInBounds_toArray, List.set_cons_zero, List.set_cons_succ])
  refine wpAnyH_take (i := 8) (v := undef) rfl (by kernel_rfl) (by kernel_rfl) (by kernel_rfl) (fun _ _ _ h => h) (Or.inr ⟨by rfl, rfl⟩) (by assumption) ?_
  (try simp only [Act.put, List.getElem_toArray, List.getElem_cons_succ, List.getElem_cons_zero, List.setIfInBounds_toArray, List.set_cons_zero, List.set_cons_succ])
  refine wpAnyH_take (i := 9) (v := undef) rfl (by kernel_rfl) (by kernel_rfl) (by kernel_rfl) (fun _ _ _ h => h) (Or.inr ⟨by rfl, rfl⟩) (by assumption) ?_
  (try simp only [Act.put, List.getElem_toArray, List.getElem_cons_succ, List.getElem_cons_zero, List.setIfInBounds_toArray, List.set_cons_zero, List.set_cons_succ])
  refine wpAnyH_take (i := 10) (v := undef) rfl (by kernel_rfl) (by kernel_rfl) (by kernel_rfl) (fun _ _ _ h => h) (Or.inr ⟨by rfl, rfl⟩) (by assumption) ?_
  (try simp only [Act.put, List.getElem_toArray, List.getElem_cons_succ, List.getElem_cons_zero, List.setIfInBounds_toArray, List.set_cons_zero, List.set_cons_succ])
  refine wpAnyH_take (i := 11) (v := undef) rfl (by kernel_rfl) (by kernel_rfl) (by kernel_rfl) (fun _ _ _ h => h) (Or.inr ⟨by rfl, rfl⟩) (by assumption) ?_
  (try simp only [Act.put, List.getElem_toArray, List.getElem_cons_succ, List.getElem_cons_zero, List.setIfInBounds_toArray, List.set_cons_zero, List.set_cons_succ])
  refine wpAnyH_take (i := 12) (v := ?_) rfl (by kernel_rfl) (by kernel_rfl) (by kernel_rfl) (fun _ _ _ h => h) (Or.inl ⟨by rfl, ?_⟩) (by assumption) ?_
  case refine_2 => (intro w hSw; (try dsimp only at hSw); go_simp; (try with_reducible rfl))
  (try simp only [Act.put, List.getElem_toArray, List.getElem_cons_succ, List.getElem_cons_zero, List.setIfInBounds_toArray, List.set_cons_zero, List.set_cons_succ])
  refine wpAnyH_take (i := 13) (v := ?_) rfl (by kernel_rfl) (by kernel_rfl) (by kernel_rfl) (fun _ _ _ h => h) (Or.inl ⟨by rfl, ?_⟩) (by assumption) ?_
  case refine_2 => (intro w hSw; (try dsimp only at hSw); go_simp; (try with_reducible rfl))
  (try simp only [Act.put, List.getElem_toArray, List.getElem_cons_succ, List.getElem_cons_zero, List.setIfInBounds_toArray, List.set_cons_zero, List.set_cons_succ])
  refine wpAnyH_done (by kernel_rfl) ?_ _
  generalize (w.alloc (.cells #[.int .i64 Do, .int .i64 A, .int .i64 Bb, .slice X n c] 33)).drew = wD at *
  go_wp2_with fail
  refine wp_region_last (fun v => v.cell? ⟨q, 0, none⟩ = some (.slice lx L.length lc) ∧ v.cell? ⟨w.heap.size, 1, none⟩ = some (.int .i64 A) ∧ v.cell? ⟨w.heap.size, 2, none⟩ = some (.int .i64 Bb) ∧ v.cell? ⟨w.heap.size, 3, none⟩ = some (.slice X n c) ∧ (convert 31 9 (.slice X n c)).run Try.prog v = .ok (.string ds) v) 17 (by kernel_rfl) S1 (fun hS => ?_)
  refine wpAnyL_take (i := 0) (v := ?_) rfl (by kernel_rfl) (by kernel_rfl) (by kernel_rfl) (by kernel_rfl) (fun _ _ _ h => h) hS (Or.inl ⟨by rfl, ?_⟩) ?_
  case refine_2 => (intro w hSw; (try dsimp only at hSw); go_simp; (try with_reducible rfl))
  (try simp only [Act.put, List.setIfInBounds_toArray, List.set_cons_zero, List.set_cons_succ])
  refine wpAnyL_take (i := 1) (v := ?_) rfl (by kernel_rfl) (by kernel_rfl) (by kernel_rfl) (by kernel_rfl) (fun _ _ _ h => h) hS (Or.inl ⟨by rfl, ?_⟩) ?_
  case refine_2 => (intro w hSw; (try dsimp only at hSw); go_simp; (try with_reducible rfl))
  (try simp only [Act.put, List.setIfInBounds_toArray, List.set_cons_zero, List.set_cons_succ])
  refine wpAnyL_take (i := 2) (v := ?_) rfl (by kernel_rfl) (by kernel_rfl) (by kernel_rfl) (by kernel_rfl) (fun _ _ _ h => h) hS (Or.inl ⟨by rfl, ?_⟩) ?_
  case refine_2 => (intro w hSw; (try dsimp only at hSw); go_simp; (try with_reducible rfl))
  (try simp only [Act.put, List.setIfInBounds_toArray, List.set_cons_zero, List.set_cons_succ])
  refine wpAnyL_take (i := 3) (v := ?_) rfl (by kernel_rfl) (by kernel_rfl) (by kernel_rfl) (by kernel_rfl) (fun _ _ _ h => h) hS (Or.inl ⟨by rfl, ?_⟩) ?_
  case refine_2 => (intro w hSw; (try dsimp only at hSw); go_simp; (try with_reducible rfl))
  (try simp only [Act.put, List.setIfInBounds_toArray, List.set_cons_zero, List.set_cons_succ])
  refine wpAnyL_take (i := 4) (v := ?_) rfl (by kernel_rfl) (by kernel_rfl) (by kernel_rfl) (by kernel_rfl) (fun _ _ _ h => h) hS (Or.inl ⟨by rfl, ?_⟩) ?_
  case refine_2 => (intro w hSw; (try dsimp only at hSw); go_simp; (try with_reducible rfl))
  (try simp only [Act.put, List.setIfInBounds_toArray, List.set_cons_zero, List.set_cons_succ])
  refine wpAnyL_take (i := 5) (v := ?_) rfl (by kernel_rfl) (by kernel_rfl) (by kernel_rfl) (by kernel_rfl) (fun _ _ _ h => h) hS (Or.inl ⟨by rfl, ?_⟩) ?_
  case refine_2 => (intro w hSw; (try dsimp only at hSw); go_simp; (try with_reducible rfl))
  (try simp only [Act.put, List.setIfInBounds_toArray, List.set_cons_zero, List.set_cons_succ])
  refine wpAnyL_take (i := 6) (v := ?_) rfl (by kernel_rfl) (by kernel_rfl) (by kernel_rfl) (by kernel_rfl) (fun _ _ _ h => h) hS (Or.inl ⟨by rfl, ?_⟩) ?_
  case refine_2 => (intro w hSw; (try dsimp only at hSw); go_simp; (try with_reducible rfl))
  (try simp only [Act.put, List.setIfInBounds_toArray, List.set_cons_zero, List.set_cons_succ])
  refine wpAnyL_take (i := 7) (v := ?_) rfl (by kernel_rfl) (by kernel_rfl) (by kernel_rfl) (by kernel_rfl) (fun _ _ _ h => h) hS (Or.inl ⟨by rfl, ?_⟩) ?_
  case refine_2 => (intro w hSw; (try dsimp only at hSw); go_simp; (try with_reducible rfl))
  (try simp only [Act.put, List.setIfInBounds_toArray, List.set_cons_zero, List.set_cons_succ])
  refine wpAnyL_take (i := 8) (v := ?_) rfl (by kernel_rfl) (by kernel_rfl) (by kernel_rfl) (by kernel_rfl) (fun _ _ _ h => h) hS (Or.inl ⟨by rfl, ?_⟩) ?_
  case refine_2 => (intro w hSw; (try dsimp only at hSw); go_simp; (try with_reducible rfl))
  (try simp only [Act.put, List.setIfInBounds_toArray, List.set_cons_zero, List.set_cons_succ])
  refine wpAnyL_take (i := 9) (v := ?_) rfl (by kernel_rfl) (by kernel_rfl) (by kernel_rfl) (by kernel_rfl) (fun _ _ _ h => h) hS (Or.inl ⟨by rfl, ?_⟩) ?_
  case refine_2 => (intro w hSw; (try dsimp only at hSw); go_simp; (try with_reducible rfl))
  (try simp only [Act.put, List.setIfInBounds_toArray, List.set_cons_zero, List.set_cons_succ])
  refine wpAnyL_take (i := 10) (v := ?_) rfl (by kernel_rfl) (by kernel_rfl) (by kernel_rfl) (by kernel_rfl) (fun _ _ _ h => h) hS (Or.inl ⟨by rfl, ?_⟩) ?_
  case refine_2 => (intro w hSw; (try dsimp only at hSw); go_simp; (try with_reducible rfl))
  (try simp only [Act.put, List.setIfInBounds_toArray, List.set_cons_zero, List.set_cons_succ])
  refine wpAnyL_take (i := 11) (v := ?_) rfl (by kernel_rfl) (by kernel_rfl) (by kernel_rfl) (by kernel_rfl) (fun _ _ _ h => h) hS (Or.inl ⟨by rfl, ?_⟩) ?_
  case refine_2 => (intro w hSw; (try dsimp only at hSw); go_simp; (try with_reducible rfl))
  (try simp only [Act.put, List.setIfInBounds_toArray, List.set_cons_zero, List.set_cons_succ])
  refine wpAnyL_take (i := 12) (v := ?_) rfl (by kernel_rfl) (by kernel_rfl) (by kernel_rfl) (by kernel_rfl) (fun _ _ _ h => h) hS (Or.inl ⟨by rfl, ?_⟩) ?_
  case refine_2 => (intro w hSw; (try dsimp only at hSw); go_simp; (try with_reducible rfl))
  (try simp only [Act.put, List.setIfInBounds_toArray, List.set_cons_zero, List.set_cons_succ])
  refine wpAnyL_one (i := 13) (by kernel_rfl) rfl (fun K hK => ?_)
  go_simp
  refine hK.out _ _ (fun _ => S2) ?_
  clear hK K
  refine wpAnyL_one (i := 14) (by kernel_rfl) rfl (fun K hK => ?_)
  refine ready_append rfl _ _ 26 rfl _ _ rfl rfl hap ?_
  (try simp only [Act.put, List.getElem_toArray, List.getElem_cons_succ, List.getElem_cons_zero, List.setIfInBounds_toArray, List.set_cons_zero, List.set_cons_succ])
  refine hK.out _ _ (fun _ => S3) ?_
  clear hK K
  refine wpAnyL_one (i := 15) (by kernel_rfl) rfl (fun K hK => ?_)
  go_simp
  refine hK.out _ _ (fun _ => S3) ?_
  clear hK K
  refine wpAnyL_one (i := 16) (by kernel_rfl) rfl (fun K hK => ?_)
  go_simp
  refine hK.out _ _ (fun _ => S3) ?_
  clear hK K
  obtain ⟨u4, _⟩ := S3
  refine wpAnyL_one (i := 17) (by kernel_rfl) rfl (fun K hK => ?_)
  go_simp
  refine hK.out _ _ (fun h => absurd rfl h) ?_
  clear hK K
  refine wpAnyL_done (by kernel_rfl) ?_ _
  go_wp2_with (go_at_call 17; refine hP.mono ?_; rintro e w5 ⟨rfl, HN⟩; clear hP)
  go_ret
  exact ⟨rfl, HN.out⟩

set_option maxHeartbeats 4000000 in
theorem does_post_pos (h : Pair w0 w p mb nb q k D R Rl Rp L PP) (hk : k ≤ 1000) (Do : Int) (d1 : (Do == 1) = false) (d2 : (Do == 2) = false) (d3 : (Do == 3) = false) (d4 : (Do == 4) = false) (d5 : (Do == 5) = false) (d6 : (Do == 6) = false) (A Bb : Int) (hA : 0 ≤ A) (wA : wfi A) (wB : wfi Bb) (X : Option Addr) (n c : Nat) (d : List Nat) (hX : Sl w0 X n c d) (hn : n ≤ 140737488351232) :
    Calls Try.prog 9 #[.pointer (some ⟨p, 0, none⟩), .pointer (some ⟨q, 0, none⟩), .agg #[.int .i64 Do, .int .i64 A, .int .i64 Bb, .slice X n c]] w fun e w' => e = .returned (.bool true) ∧ Hid (Both w0 w' p q (k + 1)) := by
  have ba : Below w.heap.size w (w.alloc (.cells #[.int .i64 Do, .int .i64 A, .int .i64 Bb, .slice X n c] 33)) := (Below.refl _ _).alloc (Nat.le_refl _) _
  have bd : Below w.heap.size w (w.alloc (.cells #[.int .i64 Do, .int .i64 A, .int .i64 Bb, .slice X n c] 33)).drew := ba.drew
  have hd := h.below bd
  obtain ⟨lx, lc, hRl, hlc, _, _⟩ := hd.md.l.form
  rw [List.length_map] at hRl hlc
  have s0 := hd.md.c0
  rw [hRl] at s0
  have s1 : (w.alloc (.cells #[.int .i64 Do, .int .i64 A, .int .i64 Bb, .slice X n c] 33)).drew.cell? ⟨w.heap.size, 1, none⟩ = some (.int .i64 A) := by simp
  have tbA : Tb (w.alloc (.cells #[.int .i64 Do, .int .i64 A, .int .i64 Bb, .slice X n c] 33)).drew w.heap.size 33 := ⟨_, _, heap_alloc_new w _⟩
  have ca : CellsAt (w.alloc (.cells #[.int .i64 Do, .int .i64 A, .int .i64 Bb, .slice X n c] 33)).drew w.heap.size [.int .i64 Do, .int .i64 A, .int .i64 Bb, .slice X n c] := fun j u hj => by
    match j, hj with
    | 0, hj => simpa using hj
    | 1, hj => simpa using hj
    | 2, hj => simpa using hj
    | 3, hj => simpa using hj
    | j + 4, hj => simp at hj
  have hdec : decide (0 ≤ A) = true := by simpa using hA
  clear hA
  have hl := h.hl
  have dd : Below (w.alloc (.cells #[.int .i64 Do, .int .i64 A, .int .i64 Bb, .slice X n c] 33)).drew.heap.size (w.alloc (.cells #[.int .i64 Do, .int .i64 A, .int .i64 Bb, .slice X n c] 33)).drew (w.alloc (.cells #[.int .i64 Do, .int .i64 A, .int .i64 Bb, .slice X n c] 33)).drew.drew := (Below.refl _ _).drew
  have he := hd.below dd
  obtain ⟨x', c', w3, hap, z1, z2, z3, HP⟩ := he.md.pushL (by simp; omega) A Bb (str d)
  obtain ⟨m3, t3, t3'⟩ := HP.out
  rw [hRl] at hap z1 z2
  simp only [List.length_map] at hap m3 t3
  have nG : ¬ gp q Rl Rp w.heap.size := (act_kept tbA hd).2
  have ce : CellsAt (w.alloc (.cells #[.int .i64 Do, .int .i64 A, .int .i64 Bb, .slice X n c] 33)).drew.drew w.heap.size _ := ca
  have cz := ce.keep (v' := (w.alloc (.cells #[.int .i64 Do, .int .i64 A, .int .i64 Bb, .slice X n c] 33)).drew.drew.alloc (.cells #[.int .i64 A, .int .i64 Bb, .string (str d)] 39)) (heap_alloc_old _ _ tbA.lt)
  have c3 : CellsAt w3 w.heap.size _ := ce.keep (t3'.block _ tbA.lt nG)
  have c4 : CellsAt (w3.setCell ⟨q, 0, none⟩ (.slice x' (L.length + 1) c')) w.heap.size _ := ce.keep (t3.block _ tbA.lt nG)
  have e0 := he.md.c0
  rw [hRl] at e0
  have bz : Below w0.heap.size w0 ((w.alloc (.cells #[.int .i64 Do, .int .i64 A, .int .i64 Bb, .slice X n c] 33)).drew.drew.alloc (.cells #[.int .i64 A, .int .i64 Bb, .string (str d)] 39)) := he.bel.alloc he.bel.size _
  obtain ⟨b4, f4⟩ := he.lists t3
  have b3 : Below w0.heap.size w0 w3 := he.bel.trans (t3'.below (fun k hk => (he.md.foot k hk).1) he.fl.bw)
  have S1 : (w.alloc (.cells #[.int .i64 Do, .int .i64 A, .int .i64 Bb, .slice X n c] 33)).drew.drew.cell? ⟨q, 0, none⟩ = some (.slice lx L.length lc) ∧ (w.alloc (.cells #[.int .i64 Do, .int .i64 A, .int .i64 Bb, .slice X n c] 33)).drew.drew.cell? ⟨w.heap.size, 1, none⟩ = some (.int .i64 A) ∧ (w.alloc (.cells #[.int .i64 Do, .int .i64 A, .int .i64 Bb, .slice X n c] 33)).drew.drew.cell? ⟨w.heap.size, 2, none⟩ = some (.int .i64 Bb) ∧ (w.alloc (.cells #[.int .i64 Do, .int .i64 A, .int .i64 Bb, .slice X n c] 33)).drew.drew.cell? ⟨w.heap.size, 3, none⟩ = some (.slice X n c) ∧ (convert 31 9 (.slice X n c)).run Try.prog (w.alloc (.cells #[.int .i64 Do, .int .i64 A, .int .i64 Bb, .slice X n c] 33)).drew.drew = .ok (.string (str d)) (w.alloc (.cells #[.int .i64 Do, .int .i64 A, .int .i64 Bb, .slice X n c] 33)).drew.drew := ⟨e0, ce 1 _ rfl, ce 2 _ rfl, ce 3 _ rfl, conv_sl (hX.below he.bel)⟩
  have S2 : ((w.alloc (.cells #[.int .i64 Do, .int .i64 A, .int .i64 Bb, .slice X n c] 33)).drew.drew.alloc (.cells #[.int .i64 A, .int .i64 Bb, .string (str d)] 39)).cell? ⟨q, 0, none⟩ = some (.slice lx L.length lc) ∧ ((w.alloc (.cells #[.int .i64 Do, .int .i64 A, .int .i64 Bb, .slice X n c] 33)).drew.drew.alloc (.cells #[.int .i64 A, .int .i64 Bb, .string (str d)] 39)).cell? ⟨w.heap.size, 1, none⟩ = some (.int .i64 A) ∧ ((w.alloc (.cells #[.int .i64 Do, .int .i64 A, .int .i64 Bb, .slice X n c] 33)).drew.drew.alloc (.cells #[.int .i64 A, .int .i64 Bb, .string (str d)] 39)).cell? ⟨w.heap.size, 2, none⟩ = some (.int .i64 Bb) ∧ ((w.alloc (.cells #[.int .i64 Do, .int .i64 A, .int .i64 Bb, .slice X n c] 33)).drew.drew.alloc (.cells #[.int .i64 A, .int .i64 Bb, .string (str d)] 39)).cell? ⟨w.heap.size, 3, none⟩ = some (.slice X n c) ∧ (convert 31 9 (.slice X n c)).run Try.prog ((w.alloc (.cells #[.int .i64 Do, .int .i64 A, .int .i64 Bb, .slice X n c] 33)).drew.drew.alloc (.cells #[.int .i64 A, .int .i64 Bb, .string (str d)] 39)) = .ok (.string (str d)) ((w.alloc (.cells #[.int .i64 Do, .int .i64 A, .int .i64 Bb, .slice X n c] 33)).drew.drew.alloc (.cells #[.int .i64 A, .int .i64 Bb, .string (str d)] 39)) := ⟨z1, cz 1 _ rfl, cz 2 _ rfl, cz 3 _ rfl, conv_sl (hX.below bz)⟩
  have S3 : w3.cell? ⟨q, 0, none⟩ = some (.slice lx L.length lc) ∧ w3.cell? ⟨w.heap.size, 1, none⟩ = some (.int .i64 A) ∧ w3.cell? ⟨w.heap.size, 2, none⟩ = some (.int .i64 Bb) ∧ w3.cell? ⟨w.heap.size, 3, none⟩ = some (.slice X n c) ∧ (convert 31 9 (.slice X n c)).run Try.prog w3 = .ok (.string (str d)) w3 := ⟨z2, c3 1 _ rfl, c3 2 _ rfl, c3 3 _ rfl, conv_sl (hX.below b3)⟩
  have a0 : (w.alloc (.cells #[.int .i64 Do, .int .i64 A, .int .i64 Bb, .slice X n c] 33)).drew.cell? ⟨w.heap.size, 0, none⟩ = some (.int .i64 Do) := ca 0 _ rfl
  have r1 : (w3.setCell ⟨q, 0, none⟩ (.slice x' (L.length + 1) c')).cell? ⟨w.heap.size, 1, none⟩ = some (.int .i64 A) := c4 1 _ rfl
  have r2 : (w3.setCell ⟨q, 0, none⟩ (.slice x' (L.length + 1) c')).cell? ⟨w.heap.size, 2, none⟩ = some (.int .i64 Bb) := c4 2 _ rfl
  have r3 : (w3.setCell ⟨q, 0, none⟩ (.slice x' (L.length + 1) c')).cell? ⟨w.heap.size, 3, none⟩ = some (.slice X n c) := c4 3 _ rfl
  have hP : Calls Try.prog 17 #[.pointer (some ⟨p, 0, none⟩), .int .i64 A, .int .i64 Bb, .slice X n c] (w3.setCell ⟨q, 0, none⟩ (.slice x' (L.length + 1) c')) fun e w5 => e = .returned (.bool true) ∧ Hid (Both w0 w5 p q (k + 1)) := by
    refine (post_yes f4 A Bb wA wB X n c d (hX.below b4) hn (by omega)).mono fun e w5 ⟨e5, H5⟩ => ⟨e5, ?_⟩
    obtain ⟨R5, m, f5, mf, mt, md, _, _, t5⟩ := H5.out
    refine ⟨mb, nb, D, R5, .slice x' (L.length + 1) c', Rp, L ++ [m], PP, b4.trans (f4.out t5 f4.bw), f5, ?_, by simp; omega, Nat.le_succ_of_le h.hp, Nat.le_succ_of_le h.hn⟩
    have := m3.apart t5 (fun k hk => (f4.foot k hk).2)
    rw [List.map_append, show [m].map toL = [⟨A, Bb, str d⟩] by simp [toL, mf, mt, md]]
    exact this
  clear h hd he hRl ba bd hX hlc tbA ca ce cz c3 c4 dd HP m3 t3 t3' nG bz b4 f4 b3 z1 z2 e0 hn wA wB
  generalize str d = ds at *
  go_enter Try.func9, Try.ntmps9
  go_wp2_with fail
  refine wp_region_held_drew (S := fun v => v.cell? ⟨q, 0, none⟩ = some (.slice lx L.length lc) ∧ v.cell? ⟨w.heap.size, 1, none⟩ = some (.int .i64 A)) (by kernel_rfl) ⟨s0, s1⟩ (fun hHeld => ?_)
  refine wpAnyH_take (i := 0) (v := ?_) rfl (by kernel_rfl) (by kernel_rfl) (by kernel_rfl) (fun _ _ _ h => h) (Or.inl ⟨by rfl, ?_⟩) (by assumption) ?_
  case refine_2 => (intro w hSw; (try dsimp only at hSw); go_simp; (try with_reducible rfl))
  (try simp only [Act.put, List.getElem_toArray, List.getElem_cons_succ, List.getElem_cons_zero, List.setIfInBounds_toArray, List.set_cons_zero, List.set_cons_succ])
  refine wpAnyH_take (i := 1) (v := ?_) rfl (by kernel_rfl) (by kernel_rfl) (by kernel_rfl) (fun _ _ _ h => h) (Or.inl ⟨by rfl, ?_⟩) (by assumption) ?_
  case refine_2 => (intro w hSw; (try dsimp only at hSw); go_simp; (try with_reducible rfl))
  (try simp only [Act.put, List.getElem_toArray, List.getElem_cons_succ, List.getElem_cons_zero, List.setIfInBounds_toArray, List.set_cons_zero, List.set_cons_succ])
  refine wpAnyH_take (i := 2) (v := ?_) rfl (by kernel_rfl) (by kernel_rfl) (by kernel_rfl) (fun _ _ _ h => h) (Or.inl ⟨by rfl, ?_⟩) (by assumption) ?_
  case refine_2 => (intro w hSw; (try dsimp only at hSw); go_simp; (try with_reducible rfl))
  (try simp only [Act.put, List.getElem_toArray, List.getElem_cons_succ, List.getElem_cons_zero, List.setIfInBounds_toArray, List.set_cons_zero, List.set_cons_succ])
  refine wpAnyH_take (i := 3) (v := ?_) rfl (by kernel_rfl) (by kernel_rfl) (by kernel_rfl) (fun _ _ _ h => h) (Or.inl ⟨by rfl, ?_⟩) (by assumption) ?_
  case refine_2 => (intro w hSw; (try dsimp only at hSw); go_simp; (try with_reducible rfl))
  (try simp only [Act.put, List.getElem_toArray, List.getElem_cons_succ, List.getElem_cons_zero, List.setIfInBounds_toArray, List.set_cons_zero, List.set_cons_succ])
  refine wpAnyH_take (i := 4) (v := ?_) rfl (by kernel_rfl) (by kernel_rfl) (by kernel_rfl) (fun _ _ _ h => h) (Or.inl ⟨by rfl, ?_⟩) (by assumption) ?_
  case refine_2 => (intro w hSw; (try dsimp only at hSw); go_simp; (try with_reducible rfl))
  (try simp only [Act.put, List.getElem_toArray, List.getElem_cons_succ, List.getElem_cons_zero, List.setIfInBounds_toArray, List.set_cons_zero, List.set_cons_succ])
  refine wpAnyH_take (i := 5) (v := ?_) rfl (by kernel_rfl) (by kernel_rfl) (by kernel_rfl) (fun _ _ _ h => h) (Or.inl ⟨by rfl, ?_⟩) (by assumption) ?_
  case refine_2 => (intro w hSw; (try dsimp only at hSw); go_simp; (try with_reducible rfl))
  (try simp only [Act.put, List.getElem_toArray, List.getElem_cons_succ, List.getElem_cons_zero, List.setIfInBounds_toArray, List.set_cons_zero, List.set_cons_succ])
  refine wpAnyH_take (i := 6) (v := ?_) rfl (by kernel_rfl) (by kernel_rfl) (by kernel_rfl) (fun _ _ _ h => h) (Or.inl ⟨by rfl, ?_⟩) (by assumption) ?_
  case refine_2 => (intro w hSw; (try dsimp only at hSw); go_simp; (try with_reducible rfl))
  (try simp only [Act.put, List.getElem_toArray, List.getElem_cons_succ, List.getElem_cons_zero, List.setIfInBounds_toArray, List.set_cons_zero, List.set_cons_succ])
  refine wpAnyH_take (i := 7) (v := ?_) rfl (by kernel_rfl) (by kernel_rfl) (by kernel_rfl) (fun _ _ _ h => h) (Or.inl ⟨by rfl, ?_⟩) (by assumption) ?_
  case refine_2 => (intro w hSw; (try dsimp only at hSw); go_simp; (try with_reducible rfl))
  (try simp only [Act.put, List.getElem_toArray, List.getElem_cons_succ, List.getElem_cons_zero, List.setIfInBounds_toArray, List.set_cons_zero, List.set_cons_succ])
  refine wpAnyH_take (i := 8) (v := ?_) rfl (by kernel_rfl) (by kernel_rfl) (by kernel_rfl) (fun _ _ _ h => h) (Or.inl ⟨by rfl, ?_⟩) (by assumption) ?_
  case refine_2 => (intro w hSw; (try dsimp only at hSw); go_simp; (try with_reducible rfl))
  (try simp only [Act.put, List.getElem_toArray, List.getElem_cons_succ, List.getElem_cons_zero, List.setIfInBounds_toArray, List.set_cons_zero, List.set_cons_succ])
  refine wpAnyH_take (i := 9) (v := ?_) rfl (by kernel_rfl) (by kernel_rfl) (by kernel_rfl) (fun _ _ _ h => h) (Or.inl ⟨by rfl, ?_⟩) (by assumption) ?_
  case refine_2 => (intro w hSw; (try dsimp only at hSw); go_simp; (try with_reducible rfl))
  (try simp only [Act.put, List.getElem_toArray, List.getElem_cons_succ, List.getElem_cons_zero, List.setIfInBounds_toArray, List.set_cons_zero, List.set_cons_succ])
  refine wpAnyH_take (i := 10) (v := ?_) rfl (by kernel_rfl) (by kernel_rfl) (by kernel_rfl) (fun _ _ _ h => h) (Or.inl ⟨by rfl, ?_⟩) (by assumption) ?_
  case refine_2 => (intro w hSw; (try dsimp only at hSw); go_simp; (try with_reducible rfl))
  (try simp only [Act.put, List.getElem_toArray, List.getElem_cons_succ, List.getElem_cons_zero, List.setIfInBounds_toArray, List.set_cons_zero, List.set_cons_succ])
  refine wpAnyH_take (i := 11) (v := ?_) rfl (by kernel_rfl) (by kernel_rfl) (by kernel_rfl) (fun _ _ _ h => h) (Or.inl ⟨by rfl, ?_⟩) (by assumption) ?_
  case refine_2 => (intro w hSw; (try dsimp only at hSw); go_simp; (try with_reducible rfl))
  (try simp only [Act.put, List.getElem_toArray, List.getElem_cons_succ, List.getElem_cons_zero, List.setIfInBounds_toArray, List.set_cons_zero, List.set_cons_succ])
  refine wpAnyH_take (i := 12) (v := ?_) rfl (by kernel_rfl) (by kernel_rfl) (by kernel_rfl) (fun _ _ _ h => h) (Or.inl ⟨by rfl, ?_⟩) (by assumption) ?_
  case refine_2 => (intro w hSw; (try dsimp only at hSw); go_simp; (try with_reducible rfl))
  (try simp only [Act.put, List.getElem_toArray, List.getElem_cons_succ, List.getElem_cons_zero, List.setIfInBounds_toArray, List.set_cons_zero, List.set_cons_succ])
  refine wpAnyH_take (i := 13) (v := ?_) rfl (by kernel_rfl) (by kernel_rfl) (by kernel_rfl) (fun _ _ _ h => h) (Or.inl ⟨by rfl, ?_⟩) (by assumption) ?_
  case refine_2 => (intro w hSw; (try dsimp only at hSw); go_simp; (try with_reducible rfl))
  (try simp only [Act.put, List.getElem_toArray, List.getElem_cons_succ, List.getElem_cons_zero, List.setIfInBounds_toArray, List.set_cons_zero, List.set_cons_succ])
  refine wpAnyH_done (by kernel_rfl) ?_ _
  generalize (w.alloc (.cells #[.int .i64 Do, .int .i64 A, .int .i64 Bb, .slice X n c] 33)).drew = wD at *
  go_wp2_with fail
  refine wp_region_last (fun v => v.cell? ⟨q, 0, none⟩ = some (.slice lx L.length lc) ∧ v.cell? ⟨w.heap.size, 1, none⟩ = some (.int .i64 A) ∧ v.cell? ⟨w.heap.size, 2, none⟩ = some (.int .i64 Bb) ∧ v.cell? ⟨w.heap.size, 3, none⟩ = some (.slice X n c) ∧ (convert 31 9 (.slice X n c)).run Try.prog v = .ok (.string ds) v) 17 (by kernel_rfl) S1 (fun hS => ?_)
  refine wpAnyL_take (i := 0) (v := ?_) rfl (by kernel_rfl) (by kernel_rfl) (by kernel_rfl) (by kernel_rfl) (fun _ _ _ h => h) hS (Or.inl ⟨by rfl, ?_⟩) ?_
  case refine_2 => (intro w hSw; (try dsimp only at hSw); go_simp; (try with_reducible rfl))
  (try simp only [Act.put, List.setIfInBounds_toArray, List.set_cons_zero, List.set_cons_succ])
  refine wpAnyL_take (i := 1) (v := ?_) rfl (by kernel_rfl) (by kernel_rfl) (by kernel_rfl) (by kernel_rfl) (fun _ _ _ h => h) hS (Or.inl ⟨by rfl, ?_⟩) ?_
  case refine_2 => (intro w hSw; (try dsimp only at hSw); go_simp; (try with_reducible rfl))
  (try simp only [Act.put, List.setIfInBounds_toArray, List.set_cons_zero, List.set_cons_succ])
  refine wpAnyL_take (i := 2) (v := ?_) rfl (by kernel_rfl) (by kernel_rfl) (by kernel_rfl) (by kernel_rfl) (fun _ _ _ h => h) hS (Or.inl ⟨by rfl, ?_⟩) ?_
  case refine_2 => (intro w hSw; (try dsimp only at hSw); go_simp; (try with_reducible rfl))
  (try simp only [Act.put, List.setIfInBounds_toArray, List.set_cons_zero, List.set_cons_succ])
  refine wpAnyL_take (i := 3) (v := ?_) rfl (by kernel_rfl) (by kernel_rfl) (by kernel_rfl) (by kernel_rfl) (fun _ _ _ h => h) hS (Or.inl ⟨by rfl, ?_⟩) ?_
  case refine_2 => (intro w hSw; (try dsimp only at hSw); go_simp; (try with_reducible rfl))
  (try simp only [Act.put, List.setIfInBounds_toArray, List.set_cons_zero, List.set_cons_succ])
  refine wpAnyL_take (i := 4) (v := ?_) rfl (by kernel_rfl) (by kernel_rfl) (by kernel_rfl) (by kernel_rfl) (fun _ _ _ h => h) hS (Or.inl ⟨by rfl, ?_⟩) ?_
  case refine_2 => (intro w hSw; (try dsimp only at hSw); go_simp; (try with_reducible rfl))
  (try simp only [Act.put, List.setIfInBounds_toArray, List.set_cons_zero, List.set_cons_succ])
  refine wpAnyL_take (i := 5) (v := ?_) rfl (by kernel_rfl) (by kernel_rfl) (by kernel_rfl) (by kernel_rfl) (fun _ _ _ h => h) hS (Or.inl ⟨by rfl, ?_⟩) ?_
  case refine_2 => (intro w hSw; (try dsimp only at hSw); go_simp; (try with_reducible rfl))
  (try simp only [Act.put, List.setIfInBounds_toArray, List.set_cons_zero, List.set_cons_succ])
  refine wpAnyL_take (i := 6) (v := ?_) rfl (by kernel_rfl) (by kernel_rfl) (by kernel_rfl) (by kernel_rfl) (fun _ _ _ h => h) hS (Or.inl ⟨by rfl, ?_⟩) ?_
  case refine_2 => (intro w hSw; (try dsimp only at hSw); go_simp; (try with_reducible rfl))
  (try simp only [Act.put, List.setIfInBounds_toArray, List.set_cons_zero, List.set_cons_succ])
  refine wpAnyL_take (i := 7) (v := ?_) rfl (by kernel_rfl) (by kernel_rfl) (by kernel_rfl) (by kernel_rfl) (fun _ _ _ h => h) hS (Or.inl ⟨by rfl, ?_⟩) ?_
  case refine_2 => (intro w hSw; (try dsimp only at hSw); go_simp; (try with_reducible rfl))
  (try simp only [Act.put, List.setIfInBounds_toArray, List.set_cons_zero, List.set_cons_succ])
  refine wpAnyL_take (i := 8) (v := ?_) rfl (by kernel_rfl) (by kernel_rfl) (by kernel_rfl) (by kernel_rfl) (fun _ _ _ h => h) hS (Or.inl ⟨by rfl, ?_⟩) ?_
  case refine_2 => (intro w hSw; (try dsimp only at hSw); go_simp; (try with_reducible rfl))
  (try simp only [Act.put, List.setIfInBounds_toArray, List.set_cons_zero, List.set_cons_succ])
  refine wpAnyL_take (i := 9) (v := ?_) rfl (by kernel_rfl) (by kernel_rfl) (by kernel_rfl) (by kernel_rfl) (fun _ _ _ h => h) hS (Or.inl ⟨by rfl, ?_⟩) ?_
  case refine_2 => (intro w hSw; (try dsimp only at hSw); go_simp; (try with_reducible rfl))
  (try simp only [Act.put, List.setIfInBounds_toArray, List.set_cons_zero, List.set_cons_succ])
  refine wpAnyL_take (i := 10) (v := ?_) rfl (by kernel_rfl) (by kernel_rfl) (by kernel_rfl) (by kernel_rfl) (fun _ _ _ h => h) hS (Or.inl ⟨by rfl, ?_⟩) ?_
  case refine_2 => (intro w hSw; (try dsimp only at hSw); go_simp; (try with_reducible rfl))
  (try simp only [Act.put, List.setIfInBounds_toArray, List.set_cons_zero, List.set_cons_succ])
  refine wpAnyL_take (i := 11) (v := ?_) rfl (by kernel_rfl) (by kernel_rfl) (by kernel_rfl) (by kernel_rfl) (fun _ _ _ h => h) hS (Or.inl ⟨by rfl, ?_⟩) ?_
  case refine_2 => (intro w hSw; (try dsimp only at hSw); go_simp; (try with_reducible rfl))
  (try simp only [Act.put, List.setIfInBounds_toArray, List.set_cons_zero, List.set_cons_succ])
  refine wpAnyL_take (i := 12) (v := ?_) rfl (by kernel_rfl) (by kernel_rfl) (by kernel_rfl) (by kernel_rfl) (fun _ _ _ h => h) hS (Or.inl ⟨by rfl, ?_⟩) ?_
  case refine_2 => (intro w hSw; (try dsimp only at hSw); go_simp; (try with_reducible rfl))
  (try simp only [Act.put, List.setIfInBounds_toArray, List.set_cons_zero, List.set_cons_succ])
  refine wpAnyL_one (i := 13) (by kernel_rfl) rfl (fun K hK => ?_)
  go_simp
  refine hK.out _ _ (fun _ => S2) ?_
  clear hK K
  refine wpAnyL_one (i := 14) (by kernel_rfl) rfl (fun K hK => ?_)
  refine ready_append rfl _ _ 26 rfl _ _ rfl rfl hap ?_
  (try simp only [Act.put, List.getElem_toArray, List.getElem_cons_succ, List.getElem_cons_zero, List.setIfInBounds_toArray, List.set_cons_zero, List.set_cons_succ])
  refine hK.out _ _ (fun _ => S3) ?_
  clear hK K
  refine wpAnyL_one (i := 15) (by kernel_rfl) rfl (fun K hK => ?_)
  go_simp
  refine hK.out _ _ (fun _ => S3) ?_
  clear hK K
  refine wpAnyL_one (i := 16) (by kernel_rfl) rfl (fun K hK => ?_)
  go_simp
  refine hK.out _ _ (fun _ => S3) ?_
  clear hK K
  obtain ⟨u4, _⟩ := S3
  refine wpAnyL_one (i := 17) (by kernel_rfl) rfl (fun K hK => ?_)
  go_simp
  refine hK.out _ _ (fun h => absurd rfl h) ?_
  clear hK K
  refine wpAnyL_done (by kernel_rfl) ?_ _
  go_wp2_with (go_at_call 17; refine hP.mono ?_; rintro e w5 ⟨rfl, HN⟩; clear hP)
  go_ret
  exact ⟨rfl, HN.out⟩

end

end Go.Proofs.Ytmekbbddfmmbeaa.Fl
