/-
  The law's own 'does': two are parted.
  Conditions: none.
-/
import Derived.Test.YtmekbbddfmmbeaaFlBoth
namespace Go.Proofs.Ytmekbbddfmmbeaa.Fl
open Go.RowKit By
set_option linter.unusedVariables false
set_option linter.unusedSimpArgs false
set_option maxRecDepth 100000

section
variable {w0 w : World} {p mb nb q k : Nat} {D : DataW Value} {R Rl Rp : Value} {L : List MV} {PP : List (Int × Int)}

theorem prt_same (PP : List (Int × Int)) (a x y : Int) : prt (PP ++ [(a, a)]) x y = prt PP x y := by
  unfold prt
  by_cases e : x = y
  · simp [e]
  · have n1 : (x, y) ≠ (a, a) := fun q => by injection q with q1 q2; exact e (q1.trans q2.symm)
    have n2 : (y, x) ≠ (a, a) := fun q => by injection q with q1 q2; exact e (q2.trans q1.symm)
    simp only [List.mem_append, List.mem_singleton, n1, n2, or_false]

theorem prt_more (PP : List (Int × Int)) (a b x y : Int) (hab : a ≠ b) : (prt PP x y || decide (min x y = min a b ∧ max x y = max a b)) = prt (PP ++ [(a, b)]) x y := by
  unfold prt
  rw [Bool.eq_iff_iff]
  simp only [Bool.or_eq_true, decide_eq_true_eq, List.mem_append, List.mem_singleton, Prod.mk.injEq]
  constructor
  · rintro (⟨h1, h2⟩ | ⟨h1, h2⟩)
    · exact ⟨h1, by rcases h2 with h2 | h2 <;> simp [h2]⟩
    · refine ⟨by omega, ?_⟩
      have : (x = a ∧ y = b) ∨ (y = a ∧ x = b) := by omega
      rcases this with q | q <;> simp [q]
  · rintro ⟨h1, (h2 | h2) | (h2 | h2)⟩
    · exact .inl ⟨h1, .inl h2⟩
    · exact .inr (by omega)
    · exact .inl ⟨h1, .inr h2⟩
    · exact .inr (by omega)

theorem prt_last (PP : List (Int × Int)) (a b : Int) : prt (PP ++ [(a, b)]) a b = (a != b) := by
  unfold prt
  by_cases e : a = b <;> simp [e]

/- Part, whoever the two are. -/
theorem part_any (h : Pair w0 w p mb nb q k D R Rl Rp L PP) (hk : k ≤ 1000) (a b : Int) (ha : wfi a) (hb : wfi b) : Calls Try.prog 19 #[.pointer (some ⟨p, 0, none⟩), .int .i64 a, .int .i64 b] w fun e w2 => e = .returned (.tuple #[]) ∧
    Hid (∃ nb' D', FlAt w2 w0.heap.size p mb nb' D' R L (prt (PP ++ [(a, b)])) ∧ nb' ≤ k + 1 ∧ Turns (fp p mb R) w w2) := by
  have hn := h.hn
  by_cases e : a = b
  · subst e
    refine (part_same h.fl a).mono fun e w2 ⟨e2, hw⟩ => ⟨e2, ?_⟩
    subst hw
    exact ⟨nb, D, h.fl.congr (fun x y _ _ => (prt_same PP a x y).symm), by omega, Turns.refl _ _⟩
  · refine (part_two h.fl a b ha hb e (by omega)).mono fun _ w2 ⟨e2, H⟩ => ⟨e2, ?_⟩
    obtain ⟨D', f2, t2⟩ := H.out
    exact ⟨nb + 1, D', f2.congr (fun x y _ _ => prt_more PP a b x y e), by omega, t2⟩

set_option maxHeartbeats 4000000 in
theorem does_part_neg (h : Pair w0 w p mb nb q k D R Rl Rp L PP) (hk : k ≤ 1000) (A Bb : Int) (hA : A < 0) (wA : wfi A) (wB : wfi Bb) (X : Option Addr) (n c : Nat) (d : List Nat) (hX : Sl w0 X n c d) (hn : n ≤ 140737488351232) :
    Calls Try.prog 9 #[.pointer (some ⟨p, 0, none⟩), .pointer (some ⟨q, 0, none⟩), .agg #[.int .i64 4, .int .i64 A, .int .i64 Bb, .slice X n c]] w fun e w' => e = .returned (.bool true) ∧ Hid (Both w0 w' p q (k + 1)) := by
  have ba : Below w.heap.size w (w.alloc (.cells #[.int .i64 4, .int .i64 A, .int .i64 Bb, .slice X n c] 33)) := (Below.refl _ _).alloc (Nat.le_refl _) _
  have bd : Below w.heap.size w (w.alloc (.cells #[.int .i64 4, .int .i64 A, .int .i64 Bb, .slice X n c] 33)).drew := ba.drew
  have hd := h.below bd
  obtain ⟨lx, lc, hRl, hlc, _, _⟩ := hd.md.l.form
  rw [List.length_map] at hRl hlc
  have s0 := hd.md.c0
  rw [hRl] at s0
  have s1 : (w.alloc (.cells #[.int .i64 4, .int .i64 A, .int .i64 Bb, .slice X n c] 33)).drew.cell? ⟨w.heap.size, 1, none⟩ = some (.int .i64 A) := by simp
  have tbA : Tb (w.alloc (.cells #[.int .i64 4, .int .i64 A, .int .i64 Bb, .slice X n c] 33)).drew w.heap.size 33 := ⟨_, _, heap_alloc_new w _⟩
  have ca : CellsAt (w.alloc (.cells #[.int .i64 4, .int .i64 A, .int .i64 Bb, .slice X n c] 33)).drew w.heap.size [.int .i64 4, .int .i64 A, .int .i64 Bb, .slice X n c] := fun j u hj => by
    match j, hj with
    | 0, hj => simpa using hj
    | 1, hj => simpa using hj
    | 2, hj => simpa using hj
    | 3, hj => simpa using hj
    | j + 4, hj => simp at hj
  have hdec : decide (0 ≤ A) = false := by simp; omega
  clear hA
  have hpl := h.hp
  obtain ⟨px, pc, hRp, _, _, _⟩ := hd.md.p.form
  have hP : Calls Try.prog 19 #[.pointer (some ⟨p, 0, none⟩), .int .i64 A, .int .i64 Bb] (w.alloc (.cells #[.int .i64 4, .int .i64 A, .int .i64 Bb, .slice X n c] 33)).drew fun e w2 => e = .returned (.tuple #[]) ∧ ∃ x' c' w3,
      (Builtin.append_ #[27, 27] 27 #[.slice px PP.length pc, .slice (some ⟨w2.heap.size, 0, none⟩) 1 1]).run Try.prog (w2.drew.alloc (.cells #[.int .i64 A, .int .i64 Bb] 55)) = .ok (.slice x' (PP.length + 1) c') w3 ∧
      (w2.drew.cell? ⟨q, 1, none⟩ = some (.slice px PP.length pc) ∧ w2.drew.cell? ⟨w.heap.size, 1, none⟩ = some (.int .i64 A) ∧ w2.drew.cell? ⟨w.heap.size, 2, none⟩ = some (.int .i64 Bb)) ∧ ((w2.drew.alloc (.cells #[.int .i64 A, .int .i64 Bb] 55)).cell? ⟨q, 1, none⟩ = some (.slice px PP.length pc) ∧ (w2.drew.alloc (.cells #[.int .i64 A, .int .i64 Bb] 55)).cell? ⟨w.heap.size, 1, none⟩ = some (.int .i64 A) ∧ (w2.drew.alloc (.cells #[.int .i64 A, .int .i64 Bb] 55)).cell? ⟨w.heap.size, 2, none⟩ = some (.int .i64 Bb)) ∧ (w3.cell? ⟨q, 1, none⟩ = some (.slice px PP.length pc) ∧ w3.cell? ⟨w.heap.size, 1, none⟩ = some (.int .i64 A) ∧ w3.cell? ⟨w.heap.size, 2, none⟩ = some (.int .i64 Bb)) ∧ w3.frozen? ⟨q, 1, none⟩ = false ∧
      ((w3.setCell ⟨q, 1, none⟩ (.slice x' (PP.length + 1) c')).drew.cell? ⟨w.heap.size, 1, none⟩ = some (.int .i64 A) ∧ (w3.setCell ⟨q, 1, none⟩ (.slice x' (PP.length + 1) c')).drew.cell? ⟨w.heap.size, 2, none⟩ = some (.int .i64 Bb)) ∧
      Calls Try.prog 11 #[.pointer (some ⟨p, 0, none⟩), .int .i64 A, .int .i64 Bb] (w3.setCell ⟨q, 1, none⟩ (.slice x' (PP.length + 1) c')).drew fun e w5 => e = .returned (.bool (A != Bb)) ∧ w5.cell? ⟨w.heap.size, 1, none⟩ = some (.int .i64 A) ∧ w5.cell? ⟨w.heap.size, 2, none⟩ = some (.int .i64 Bb) ∧ Hid (Both w0 w5 p q (k + 1)) := by
    refine (part_any hd hk A Bb wA wB).mono fun e w2 ⟨e2, H2⟩ => ⟨e2, ?_⟩
    obtain ⟨nb', D', f2, hn2, t2⟩ := H2.out
    obtain ⟨b2, m2⟩ := hd.flight (nb' := nb) (D' := D) (R' := R) (L' := L) (S' := prt PP) t2
    have dd : Below w2.heap.size w2 w2.drew := (Below.refl _ _).drew
    have m2d := m2.below dd
    have f2d := f2.below dd
    obtain ⟨x', c', w3, hap, z1, z2, z3, HP⟩ := m2d.pushP (by omega) A Bb
    obtain ⟨m3, t3, t3'⟩ := HP.out
    rw [hRp] at hap z1 z2
    have tb2 : Tb w2.drew w.heap.size 33 := tbA.of_heap (t2.block _ tbA.lt (act_kept tbA hd).1)
    have c2 : CellsAt w2.drew w.heap.size _ := ca.keep (t2.block _ tbA.lt (act_kept tbA hd).1)
    have nG : ¬ gp q Rl Rp w.heap.size := (act_kept tbA hd).2
    have c3 : CellsAt w3 w.heap.size _ := c2.keep (t3'.block _ tb2.lt nG)
    have cz := c2.keep (v' := w2.drew.alloc (.cells #[.int .i64 A, .int .i64 Bb] 55)) (heap_alloc_old _ _ tb2.lt)
    have c4 : CellsAt (w3.setCell ⟨q, 1, none⟩ (.slice x' (PP.length + 1) c')).drew w.heap.size _ := c2.keep (t3.block _ tb2.lt nG)
    have q1 := m2d.c1
    rw [hRp] at q1
    have d4 : Below (w3.setCell ⟨q, 1, none⟩ (.slice x' (PP.length + 1) c')).heap.size (w3.setCell ⟨q, 1, none⟩ (.slice x' (PP.length + 1) c')) (w3.setCell ⟨q, 1, none⟩ (.slice x' (PP.length + 1) c')).drew := (Below.refl _ _).drew
    have f4 := (f2d.apart t3 (fun k hk => apart_ty (m2d.foot k hk).2)).below d4
    have m4 := m3.below d4
    have b4' : Below w0.heap.size w0 (w3.setCell ⟨q, 1, none⟩ (.slice x' (PP.length + 1) c')) := (b2.trans (dd.mono b2.size)).trans (t3.below (fun k hk => (m2d.foot k hk).1) f2d.bw)
    have b4 := b4'.trans (d4.mono b4'.size)
    refine ⟨x', c', w3, hap, ⟨q1, c2 1 _ rfl, c2 2 _ rfl⟩, ⟨z1, cz 1 _ rfl, cz 2 _ rfl⟩, ⟨z2, c3 1 _ rfl, c3 2 _ rfl⟩, z3, ⟨c4 1 _ rfl, c4 2 _ rfl⟩, (parted_any f4 A Bb wA wB).mono fun e w5 ⟨e5, b5⟩ => ?_⟩
    rw [prt_last] at e5
    have tb4 : Tb (w3.setCell ⟨q, 1, none⟩ (.slice x' (PP.length + 1) c')).drew w.heap.size 33 := tb2.of_heap (t3.block _ tb2.lt nG)
    have c5 : CellsAt w5 w.heap.size _ := c4.keep (b5.block _ tb4.lt)
    exact ⟨e5, c5 1 _ rfl, c5 2 _ rfl, mb, nb', D', R, Rl, _, L, PP ++ [(A, Bb)], b4.trans (b5.mono b4.size), f4.below b5, m4.below b5, Nat.le_succ_of_le h.hl, by simp; omega, hn2⟩
  have hBp := build_pair A Bb
  clear h hd hRl hRp ba bd hX hlc tbA ca hn wA wB
  go_enter Try.func9, Try.ntmps9
  go_wp2_with fail
  refine wp_region_held_drew (S := fun v => v.cell? ⟨q, 0, none⟩ = some (.slice lx L.length lc) ∧ v.cell? ⟨w.heap.size, 1, none⟩ = some (.int .i64 A)) (by kernel_rfl) ⟨s0, s1⟩ (fun hHeld => ?_)
  refine wpAnyH_take (i := 0) (v := ?_) rfl (by kernel_rfl) (by kernel_rfl) (by kernel_rfl) (fun _ _ _ h => h) (Or.inl ⟨by rfl, ?_⟩) (by assumption) ?_
  case refine_2 => (intro w hSw; (try dsimp only at hSw); go_simp; (try with_reducible rfl))
  (try simp only [Act.put, List.getElem_toArray, List.getElem_cons_succ, List.getElem_cons_zero, List.setIfInBounds_toArray, List.set_cons_zero, List.set_cons_succ])
  refine wpAnyH_take (i := 1) (v := ?_) rfl (by kernel_rfl) (by kernel_rfl) (by kernel_rfl) (fun _ _ _ h => h) (Or.inl ⟨by rfl, ?_⟩) (by assumption) ?_
  case refine_2 => (intro w hSw; (try dsimp only at hSw); go_simp; (try with_reducible rfl))
  (try simp only [Act.put, List.getElem_toArray, List.getElem_cons_succ, List.getElem_cons_zero, List.setIfInBounds_toArray, List.set_cons_zero, List.set_cons_succ])
  refine wpAnyH_take (i := 2) (v := ?_) rfl (by kernel_rfl) (by kernel_rfl) (by kernel_rfl) (fun _ _ _ h => h) (Or.inl ⟨by rfl, ?_⟩) (by assumption) ?_
  case refine_2 => (intro w hSw; (try dsimp only at hSw); go_simp; (try with_reducible rfl))
  (try simp only [Act.put, List.getElem_toArray, List.getElem_cons_succ, List.getElem_cons_zero, List.setIfInBounds_toArray, List.set_cons_zero, List.set_cons_succ])
  refine wpAnyH_take (i := 3) (v := ?_) rfl (by kernel_rfl) (by kernel_rfl) (by kernel_rfl) (fun _ _ _ h => h) (Or.inl ⟨by rfl, ?_⟩) (by assumption) ?_
  case refine_2 => (intro w hSw; (try dsimp only at hSw); go_simp; (try with_reducible rfl))
  (try simp only [Act.put, List.getElem_toArray, List.getElem_cons_succ, List.getElem_cons_zero, List.setIfInBounds_toArray, List.set_cons_zero, List.set_cons_succ])
  refine wpAnyH_take (i := 4) (v := undef) rfl (by kernel_rfl) (by kernel_rfl) (by kernel_rfl) (fun _ _ _ h => h) (Or.inr ⟨by rfl, rfl⟩) (by assumption) ?_
  (try simp only [Act.put, List.getElem_toArray, List.getElem_cons_succ, List.getElem_cons_zero, List.setIfInBounds_toArray, List.set_cons_zero, List.set_cons_succ])
  refine wpAnyH_take (i := 5) (v := undef) rfl (by kernel_rfl) (by kernel_rfl) (by kernel_rfl) (fun _ _ _ h => h) (Or.inr ⟨by rfl, rfl⟩) (by assumption) ?_
  (try simp only [Act.put, List.getElem_toArray, List.getElem_cons_succ, List.getElem_cons_zero, List.setIfInBounds_toArray, List.set_cons_zero, List.set_cons_succ])
  refine wpAnyH_take (i := 6) (v := undef) rfl (by kernel_rfl) (by kernel_rfl) (by kernel_rfl) (fun _ _ _ h => h) (Or.inr ⟨by rfl, rfl⟩) (by assumption) ?_
  (try simp only [Act.put, List.getElem_toArray, List.getElem_cons_succ, List.getElem_cons_zero, List.setIfInBounds_toArray, List.set_cons_zero, List.set_cons_succ])
  refine wpAnyH_take (i := 7) (v := undef) rfl (by kernel_rfl) (by kernel_rfl) (by kernel_rfl) (fun _ _ _ h => h) (Or.inr ⟨by rfl, rfl⟩) (by assumption) ?_
  (try simp only [Act.put, List.getElem_toArray, List.getElem_cons_succ, List.getElem_cons_zero, List.setIfInBounds_toArray, List.set_cons_zero, List.set_cons_succ])
  refine wpAnyH_take (i := 8) (v := undef) rfl (by kernel_rfl) (by kernel_rfl) (by kernel_rfl) (fun _ _ _ h => h) (Or.inr ⟨by rfl, rfl⟩) (by assumption) ?_
  (try simp only [Act.put, List.getElem_toArray, List.getElem_cons_succ, List.getElem_cons_zero, List.setIfInBounds_toArray, List.set_cons_zero, List.set_cons_succ])
  refine wpAnyH_take (i := 9) (v := undef) rfl (by kernel_rfl) (by kernel_rfl) (by kernel_rfl) (fun _ _ _ h => h) (Or.inr ⟨by rfl, rfl⟩) (by assumption) ?_
  (try simp only [Act.put, List.getElem_toArray, List.getElem_cons_succ, List.getElem_cons_zero, List.setIfInBounds_toArray, List.set_cons_zero, List.set_cons_succ])
  refine wpAnyH_take (i := 10) (v := undef) rfl (by kernel_rfl) (by kernel_rfl) (by kernel_rfl) (fun _ _ _ h => h) (Or.inr ⟨by rfl, rfl⟩) (by assumption) ?_
  (try simp only [Act.put, List.getElem_toArray, List.getElem_cons_succ, List.getElem_cons_zero, List.setIfInBounds_toArray, List.set_cons_zero, List.set_cons_succ])
  refine wpAnyH_take (i := 11) (v := undef) rfl (by kernel_rfl) (by kernel_rfl) (by kernel_rfl) (fun _ _ _ h => h) (Or.inr ⟨by rfl, rfl⟩) (by assumption) ?_
  (try simp only [Act.put, List.getElem_toArray, List.getElem_cons_succ, List.getElem_cons_zero, List.setIfInBounds_toArray, List.set_cons_zero, List.set_cons_succ])
  refine wpAnyH_take (i := 12) (v := ?_) rfl (by kernel_rfl) (by kernel_rfl) (by kernel_rfl) (fun _ _ _ h => h) (Or.inl ⟨by rfl, ?_⟩) (by assumption) ?_
  case refine_2 => (intro w hSw; (try dsimp only at hSw); go_simp; (try with_reducible rfl))
  (try simp only [Act.put, List.getElem_toArray, List.getElem_cons_succ, List.getElem_cons_zero, List.setIfInBounds_toArray, List.set_cons_zero, List.set_cons_succ])
  refine wpAnyH_take (i := 13) (v := ?_) rfl (by kernel_rfl) (by kernel_rfl) (by kernel_rfl) (fun _ _ _ h => h) (Or.inl ⟨by rfl, ?_⟩) (by assumption) ?_
  case refine_2 => (intro w hSw; (try dsimp only at hSw); go_simp; (try with_reducible rfl))
  (try simp only [Act.put, List.getElem_toArray, List.getElem_cons_succ, List.getElem_cons_zero, List.setIfInBounds_toArray, List.set_cons_zero, List.set_cons_succ])
  refine wpAnyH_done (by kernel_rfl) ?_ _
  go_wp2_with (go_at_call 19; refine hP.mono ?_; rintro e w2 ⟨rfl, x', c', w3, hap, S1, S2, S3, f3, S4, hQ⟩; clear hP)
  refine wp_region_last (fun v => v.cell? ⟨q, 1, none⟩ = some (.slice px PP.length pc) ∧ v.cell? ⟨w.heap.size, 1, none⟩ = some (.int .i64 A) ∧ v.cell? ⟨w.heap.size, 2, none⟩ = some (.int .i64 Bb)) 14 (by kernel_rfl) S1 (fun hS => ?_)
  refine wpAnyL_take (i := 0) (v := ?_) rfl (by kernel_rfl) (by kernel_rfl) (by kernel_rfl) (by kernel_rfl) (fun _ _ _ h => h) hS (Or.inl ⟨by rfl, ?_⟩) ?_
  case refine_2 => (intro w hSw; (try dsimp only at hSw); go_simp; (try with_reducible rfl))
  (try simp only [Act.put, List.setIfInBounds_toArray, List.set_cons_zero, List.set_cons_succ])
  refine wpAnyL_take (i := 1) (v := ?_) rfl (by kernel_rfl) (by kernel_rfl) (by kernel_rfl) (by kernel_rfl) (fun _ _ _ h => h) hS (Or.inl ⟨by rfl, ?_⟩) ?_
  case refine_2 => (intro w hSw; (try dsimp only at hSw); go_simp; (try with_reducible rfl))
  (try simp only [Act.put, List.setIfInBounds_toArray, List.set_cons_zero, List.set_cons_succ])
  refine wpAnyL_take (i := 2) (v := ?_) rfl (by kernel_rfl) (by kernel_rfl) (by kernel_rfl) (by kernel_rfl) (fun _ _ _ h => h) hS (Or.inl ⟨by rfl, ?_⟩) ?_
  case refine_2 => (intro w hSw; (try dsimp only at hSw); go_simp; (try with_reducible rfl))
  (try simp only [Act.put, List.setIfInBounds_toArray, List.set_cons_zero, List.set_cons_succ])
  refine wpAnyL_take (i := 3) (v := ?_) rfl (by kernel_rfl) (by kernel_rfl) (by kernel_rfl) (by kernel_rfl) (fun _ _ _ h => h) hS (Or.inl ⟨by rfl, ?_⟩) ?_
  case refine_2 => (intro w hSw; (try dsimp only at hSw); go_simp; (try with_reducible rfl))
  (try simp only [Act.put, List.setIfInBounds_toArray, List.set_cons_zero, List.set_cons_succ])
  refine wpAnyL_take (i := 4) (v := ?_) rfl (by kernel_rfl) (by kernel_rfl) (by kernel_rfl) (by kernel_rfl) (fun _ _ _ h => h) hS (Or.inl ⟨by rfl, ?_⟩) ?_
  case refine_2 => (intro w hSw; (try dsimp only at hSw); go_simp; (try with_reducible rfl))
  (try simp only [Act.put, List.setIfInBounds_toArray, List.set_cons_zero, List.set_cons_succ])
  refine wpAnyL_take (i := 5) (v := ?_) rfl (by kernel_rfl) (by kernel_rfl) (by kernel_rfl) (by kernel_rfl) (fun _ _ _ h => h) hS (Or.inl ⟨by rfl, ?_⟩) ?_
  case refine_2 => (intro w hSw; (try dsimp only at hSw); go_simp; (try with_reducible rfl))
  (try simp only [Act.put, List.setIfInBounds_toArray, List.set_cons_zero, List.set_cons_succ])
  refine wpAnyL_take (i := 6) (v := ?_) rfl (by kernel_rfl) (by kernel_rfl) (by kernel_rfl) (by kernel_rfl) (fun _ _ _ h => h) hS (Or.inl ⟨by rfl, ?_⟩) ?_
  case refine_2 => (intro w hSw; (try dsimp only at hSw); go_simp; (try with_reducible rfl))
  (try simp only [Act.put, List.setIfInBounds_toArray, List.set_cons_zero, List.set_cons_succ])
  refine wpAnyL_take (i := 7) (v := ?_) rfl (by kernel_rfl) (by kernel_rfl) (by kernel_rfl) (by kernel_rfl) (fun _ _ _ h => h) hS (Or.inl ⟨by rfl, ?_⟩) ?_
  case refine_2 => (intro w hSw; (try dsimp only at hSw); go_simp; (try with_reducible rfl))
  (try simp only [Act.put, List.setIfInBounds_toArray, List.set_cons_zero, List.set_cons_succ])
  refine wpAnyL_take (i := 8) (v := ?_) rfl (by kernel_rfl) (by kernel_rfl) (by kernel_rfl) (by kernel_rfl) (fun _ _ _ h => h) hS (Or.inl ⟨by rfl, ?_⟩) ?_
  case refine_2 => (intro w hSw; (try dsimp only at hSw); go_simp; (try with_reducible rfl))
  (try simp only [Act.put, List.setIfInBounds_toArray, List.set_cons_zero, List.set_cons_succ])
  refine wpAnyL_take (i := 9) (v := ?_) rfl (by kernel_rfl) (by kernel_rfl) (by kernel_rfl) (by kernel_rfl) (fun _ _ _ h => h) hS (Or.inl ⟨by rfl, ?_⟩) ?_
  case refine_2 => (intro w hSw; (try dsimp only at hSw); go_simp; (try with_reducible rfl))
  (try simp only [Act.put, List.setIfInBounds_toArray, List.set_cons_zero, List.set_cons_succ])
  refine wpAnyL_one (i := 10) (by kernel_rfl) rfl (fun K hK => ?_)
  go_simp
  refine hK.out _ _ (fun _ => S2) ?_
  clear hK K
  refine wpAnyL_one (i := 11) (by kernel_rfl) rfl (fun K hK => ?_)
  refine ready_append rfl _ _ 27 rfl _ _ rfl rfl hap ?_
  (try simp only [Act.put, List.getElem_toArray, List.getElem_cons_succ, List.getElem_cons_zero, List.setIfInBounds_toArray, List.set_cons_zero, List.set_cons_succ])
  refine hK.out _ _ (fun _ => S3) ?_
  clear hK K
  refine wpAnyL_one (i := 12) (by kernel_rfl) rfl (fun K hK => ?_)
  go_simp
  refine hK.out _ _ (fun _ => S3) ?_
  clear hK K
  refine wpAnyL_one (i := 13) (by kernel_rfl) rfl (fun K hK => ?_)
  go_simp
  refine hK.out _ _ (fun _ => S3) ?_
  clear hK K
  obtain ⟨u4, _⟩ := S3
  refine wpAnyL_one (i := 14) (by kernel_rfl) rfl (fun K hK => ?_)
  go_simp
  refine hK.out _ _ (fun h => absurd rfl h) ?_
  clear hK K
  refine wpAnyL_done (by kernel_rfl) ?_ _
  go_wp2_with fail
  refine wp_region_held_drew (S := fun v => v.cell? ⟨w.heap.size, 1, none⟩ = some (.int .i64 A) ∧ v.cell? ⟨w.heap.size, 2, none⟩ = some (.int .i64 Bb)) (by kernel_rfl) S4 (fun hHeld => ?_)
  refine wpAnyH_take (i := 0) (v := ?_) rfl (by kernel_rfl) (by kernel_rfl) (by kernel_rfl) (fun _ _ _ h => h) (Or.inl ⟨by rfl, ?_⟩) (by assumption) ?_
  case refine_2 => (intro w hSw; (try dsimp only at hSw); go_simp; (try with_reducible rfl))
  (try simp only [Act.put, List.getElem_toArray, List.getElem_cons_succ, List.getElem_cons_zero, List.setIfInBounds_toArray, List.set_cons_zero, List.set_cons_succ])
  refine wpAnyH_take (i := 1) (v := ?_) rfl (by kernel_rfl) (by kernel_rfl) (by kernel_rfl) (fun _ _ _ h => h) (Or.inl ⟨by rfl, ?_⟩) (by assumption) ?_
  case refine_2 => (intro w hSw; (try dsimp only at hSw); go_simp; (try with_reducible rfl))
  (try simp only [Act.put, List.getElem_toArray, List.getElem_cons_succ, List.getElem_cons_zero, List.setIfInBounds_toArray, List.set_cons_zero, List.set_cons_succ])
  refine wpAnyH_take (i := 2) (v := ?_) rfl (by kernel_rfl) (by kernel_rfl) (by kernel_rfl) (fun _ _ _ h => h) (Or.inl ⟨by rfl, ?_⟩) (by assumption) ?_
  case refine_2 => (intro w hSw; (try dsimp only at hSw); go_simp; (try with_reducible rfl))
  (try simp only [Act.put, List.getElem_toArray, List.getElem_cons_succ, List.getElem_cons_zero, List.setIfInBounds_toArray, List.set_cons_zero, List.set_cons_succ])
  refine wpAnyH_take (i := 3) (v := ?_) rfl (by kernel_rfl) (by kernel_rfl) (by kernel_rfl) (fun _ _ _ h => h) (Or.inl ⟨by rfl, ?_⟩) (by assumption) ?_
  case refine_2 => (intro w hSw; (try dsimp only at hSw); go_simp; (try with_reducible rfl))
  (try simp only [Act.put, List.getElem_toArray, List.getElem_cons_succ, List.getElem_cons_zero, List.setIfInBounds_toArray, List.set_cons_zero, List.set_cons_succ])
  refine wpAnyH_take (i := 4) (v := ?_) rfl (by kernel_rfl) (by kernel_rfl) (by kernel_rfl) (fun _ _ _ h => h) (Or.inl ⟨by rfl, ?_⟩) (by assumption) ?_
  case refine_2 => (intro w hSw; (try dsimp only at hSw); go_simp; (try with_reducible rfl))
  (try simp only [Act.put, List.getElem_toArray, List.getElem_cons_succ, List.getElem_cons_zero, List.setIfInBounds_toArray, List.set_cons_zero, List.set_cons_succ])
  refine wpAnyH_take (i := 6) (v := ?_) rfl (by kernel_rfl) (by kernel_rfl) (by kernel_rfl) (fun _ _ _ h => h) (Or.inl ⟨by rfl, ?_⟩) (by assumption) ?_
  case refine_2 => (intro w hSw; (try dsimp only at hSw); go_simp; (try with_reducible rfl))
  (try simp only [Act.put, List.getElem_toArray, List.getElem_cons_succ, List.getElem_cons_zero, List.setIfInBounds_toArray, List.set_cons_zero, List.set_cons_succ])
  refine wpAnyH_take (i := 7) (v := ?_) rfl (by kernel_rfl) (by kernel_rfl) (by kernel_rfl) (fun _ _ _ h => h) (Or.inl ⟨by rfl, ?_⟩) (by assumption) ?_
  case refine_2 => (intro w hSw; (try dsimp only at hSw); go_simp; (try with_reducible rfl))
  (try simp only [Act.put, List.getElem_toArray, List.getElem_cons_succ, List.getElem_cons_zero, List.setIfInBounds_toArray, List.set_cons_zero, List.set_cons_succ])
  refine wpAnyH_take (i := 8) (v := ?_) rfl (by kernel_rfl) (by kernel_rfl) (by kernel_rfl) (fun _ _ _ h => h) (Or.inl ⟨by rfl, ?_⟩) (by assumption) ?_
  case refine_2 => (intro w hSw; (try dsimp only at hSw); go_simp; (try with_reducible rfl))
  (try simp only [Act.put, List.getElem_toArray, List.getElem_cons_succ, List.getElem_cons_zero, List.setIfInBounds_toArray, List.set_cons_zero, List.set_cons_succ])
  refine wpAnyH_take (i := 9) (v := ?_) rfl (by kernel_rfl) (by kernel_rfl) (by kernel_rfl) (fun _ _ _ h => h) (Or.inl ⟨by rfl, ?_⟩) (by assumption) ?_
  case refine_2 => (intro w hSw; (try dsimp only at hSw); go_simp; (try with_reducible rfl))
  (try simp only [Act.put, List.getElem_toArray, List.getElem_cons_succ, List.getElem_cons_zero, List.setIfInBounds_toArray, List.set_cons_zero, List.set_cons_succ])
  refine wpAnyH_take (i := 10) (v := ?_) rfl (by kernel_rfl) (by kernel_rfl) (by kernel_rfl) (fun _ _ _ h => h) (Or.inl ⟨by rfl, ?_⟩) (by assumption) ?_
  case refine_2 => (intro w hSw; (try dsimp only at hSw); go_simp; (try with_reducible rfl))
  (try simp only [Act.put, List.getElem_toArray, List.getElem_cons_succ, List.getElem_cons_zero, List.setIfInBounds_toArray, List.set_cons_zero, List.set_cons_succ])
  refine wpAnyH_ready (rs := [5]) (by kernel_rfl) (by simp) ?_
  refine AllReadyH.cons rfl (fun K hK => ?_) AllReadyH.nil
  go_simp
  refine hQ.mono ?_
  rintro e w5 ⟨rfl, r1, r2, HN⟩
  clear hQ
  refine hK.out _ _ ⟨r1, r2⟩ (fun hHeld => ?_)
  clear hK K
  refine wpAnyH_take (i := 11) (v := ?_) rfl (by kernel_rfl) (by kernel_rfl) (by kernel_rfl) (fun _ _ _ h => h) (Or.inl ⟨by rfl, ?_⟩) (by assumption) ?_
  case refine_2 => (intro w hSw; (try dsimp only at hSw); go_simp; (try with_reducible rfl))
  (try simp only [Act.put, List.getElem_toArray, List.getElem_cons_succ, List.getElem_cons_zero, List.setIfInBounds_toArray, List.set_cons_zero, List.set_cons_succ])
  refine wpAnyH_take (i := 12) (v := ?_) rfl (by kernel_rfl) (by kernel_rfl) (by kernel_rfl) (fun _ _ _ h => h) (Or.inl ⟨by rfl, ?_⟩) (by assumption) ?_
  case refine_2 => (intro w hSw; (try dsimp only at hSw); go_simp; (try with_reducible rfl))
  (try simp only [Act.put, List.getElem_toArray, List.getElem_cons_succ, List.getElem_cons_zero, List.setIfInBounds_toArray, List.set_cons_zero, List.set_cons_succ])
  refine wpAnyH_done (by kernel_rfl) ?_ _
  go_wp2_with fail
  go_ret
  exact ⟨by first | rfl | simp, HN.out⟩

set_option maxHeartbeats 4000000 in
theorem does_part_pos (h : Pair w0 w p mb nb q k D R Rl Rp L PP) (hk : k ≤ 1000) (A Bb : Int) (hA : 0 ≤ A) (wA : wfi A) (wB : wfi Bb) (X : Option Addr) (n c : Nat) (d : List Nat) (hX : Sl w0 X n c d) (hn : n ≤ 140737488351232) :
    Calls Try.prog 9 #[.pointer (some ⟨p, 0, none⟩), .pointer (some ⟨q, 0, none⟩), .agg #[.int .i64 4, .int .i64 A, .int .i64 Bb, .slice X n c]] w fun e w' => e = .returned (.bool true) ∧ Hid (Both w0 w' p q (k + 1)) := by
  have ba : Below w.heap.size w (w.alloc (.cells #[.int .i64 4, .int .i64 A, .int .i64 Bb, .slice X n c] 33)) := (Below.refl _ _).alloc (Nat.le_refl _) _
  have bd : Below w.heap.size w (w.alloc (.cells #[.int .i64 4, .int .i64 A, .int .i64 Bb, .slice X n c] 33)).drew := ba.drew
  have hd := h.below bd
  obtain ⟨lx, lc, hRl, hlc, _, _⟩ := hd.md.l.form
  rw [List.length_map] at hRl hlc
  have s0 := hd.md.c0
  rw [hRl] at s0
  have s1 : (w.alloc (.cells #[.int .i64 4, .int .i64 A, .int .i64 Bb, .slice X n c] 33)).drew.cell? ⟨w.heap.size, 1, none⟩ = some (.int .i64 A) := by simp
  have tbA : Tb (w.alloc (.cells #[.int .i64 4, .int .i64 A, .int .i64 Bb, .slice X n c] 33)).drew w.heap.size 33 := ⟨_, _, heap_alloc_new w _⟩
  have ca : CellsAt (w.alloc (.cells #[.int .i64 4, .int .i64 A, .int .i64 Bb, .slice X n c] 33)).drew w.heap.size [.int .i64 4, .int .i64 A, .int .i64 Bb, .slice X n c] := fun j u hj => by
    match j, hj with
    | 0, hj => simpa using hj
    | 1, hj => simpa using hj
    | 2, hj => simpa using hj
    | 3, hj => simpa using hj
    | j + 4, hj => simp at hj
  have hdec : decide (0 ≤ A) = true := by simpa using hA
  clear hA
  have hpl := h.hp
  obtain ⟨px, pc, hRp, _, _, _⟩ := hd.md.p.form
  have hP : Calls Try.prog 19 #[.pointer (some ⟨p, 0, none⟩), .int .i64 A, .int .i64 Bb] (w.alloc (.cells #[.int .i64 4, .int .i64 A, .int .i64 Bb, .slice X n c] 33)).drew fun e w2 => e = .returned (.tuple #[]) ∧ ∃ x' c' w3,
      (Builtin.append_ #[27, 27] 27 #[.slice px PP.length pc, .slice (some ⟨w2.heap.size, 0, none⟩) 1 1]).run Try.prog (w2.drew.alloc (.cells #[.int .i64 A, .int .i64 Bb] 55)) = .ok (.slice x' (PP.length + 1) c') w3 ∧
      (w2.drew.cell? ⟨q, 1, none⟩ = some (.slice px PP.length pc) ∧ w2.drew.cell? ⟨w.heap.size, 1, none⟩ = some (.int .i64 A) ∧ w2.drew.cell? ⟨w.heap.size, 2, none⟩ = some (.int .i64 Bb)) ∧ ((w2.drew.alloc (.cells #[.int .i64 A, .int .i64 Bb] 55)).cell? ⟨q, 1, none⟩ = some (.slice px PP.length pc) ∧ (w2.drew.alloc (.cells #[.int .i64 A, .int .i64 Bb] 55)).cell? ⟨w.heap.size, 1, none⟩ = some (.int .i64 A) ∧ (w2.drew.alloc (.cells #[.int .i64 A, .int .i64 Bb] 55)).cell? ⟨w.heap.size, 2, none⟩ = some (.int .i64 Bb)) ∧ (w3.cell? ⟨q, 1, none⟩ = some (.slice px PP.length pc) ∧ w3.cell? ⟨w.heap.size, 1, none⟩ = some (.int .i64 A) ∧ w3.cell? ⟨w.heap.size, 2, none⟩ = some (.int .i64 Bb)) ∧ w3.frozen? ⟨q, 1, none⟩ = false ∧
      ((w3.setCell ⟨q, 1, none⟩ (.slice x' (PP.length + 1) c')).drew.cell? ⟨w.heap.size, 1, none⟩ = some (.int .i64 A) ∧ (w3.setCell ⟨q, 1, none⟩ (.slice x' (PP.length + 1) c')).drew.cell? ⟨w.heap.size, 2, none⟩ = some (.int .i64 Bb)) ∧
      Calls Try.prog 11 #[.pointer (some ⟨p, 0, none⟩), .int .i64 A, .int .i64 Bb] (w3.setCell ⟨q, 1, none⟩ (.slice x' (PP.length + 1) c')).drew fun e w5 => e = .returned (.bool (A != Bb)) ∧ w5.cell? ⟨w.heap.size, 1, none⟩ = some (.int .i64 A) ∧ w5.cell? ⟨w.heap.size, 2, none⟩ = some (.int .i64 Bb) ∧ Hid (Both w0 w5 p q (k + 1)) := by
    refine (part_any hd hk A Bb wA wB).mono fun e w2 ⟨e2, H2⟩ => ⟨e2, ?_⟩
    obtain ⟨nb', D', f2, hn2, t2⟩ := H2.out
    obtain ⟨b2, m2⟩ := hd.flight (nb' := nb) (D' := D) (R' := R) (L' := L) (S' := prt PP) t2
    have dd : Below w2.heap.size w2 w2.drew := (Below.refl _ _).drew
    have m2d := m2.below dd
    have f2d := f2.below dd
    obtain ⟨x', c', w3, hap, z1, z2, z3, HP⟩ := m2d.pushP (by omega) A Bb
    obtain ⟨m3, t3, t3'⟩ := HP.out
    rw [hRp] at hap z1 z2
    have tb2 : Tb w2.drew w.heap.size 33 := tbA.of_heap (t2.block _ tbA.lt (act_kept tbA hd).1)
    have c2 : CellsAt w2.drew w.heap.size _ := ca.keep (t2.block _ tbA.lt (act_kept tbA hd).1)
    have nG : ¬ gp q Rl Rp w.heap.size := (act_kept tbA hd).2
    have c3 : CellsAt w3 w.heap.size _ := c2.keep (t3'.block _ tb2.lt nG)
    have cz := c2.keep (v' := w2.drew.alloc (.cells #[.int .i64 A, .int .i64 Bb] 55)) (heap_alloc_old _ _ tb2.lt)
    have c4 : CellsAt (w3.setCell ⟨q, 1, none⟩ (.slice x' (PP.length + 1) c')).drew w.heap.size _ := c2.keep (t3.block _ tb2.lt nG)
    have q1 := m2d.c1
    rw [hRp] at q1
    have d4 : Below (w3.setCell ⟨q, 1, none⟩ (.slice x' (PP.length + 1) c')).heap.size (w3.setCell ⟨q, 1, none⟩ (.slice x' (PP.length + 1) c')) (w3.setCell ⟨q, 1, none⟩ (.slice x' (PP.length + 1) c')).drew := (Below.refl _ _).drew
    have f4 := (f2d.apart t3 (fun k hk => apart_ty (m2d.foot k hk).2)).below d4
    have m4 := m3.below d4
    have b4' : Below w0.heap.size w0 (w3.setCell ⟨q, 1, none⟩ (.slice x' (PP.length + 1) c')) := (b2.trans (dd.mono b2.size)).trans (t3.below (fun k hk => (m2d.foot k hk).1) f2d.bw)
    have b4 := b4'.trans (d4.mono b4'.size)
    refine ⟨x', c', w3, hap, ⟨q1, c2 1 _ rfl, c2 2 _ rfl⟩, ⟨z1, cz 1 _ rfl, cz 2 _ rfl⟩, ⟨z2, c3 1 _ rfl, c3 2 _ rfl⟩, z3, ⟨c4 1 _ rfl, c4 2 _ rfl⟩, (parted_any f4 A Bb wA wB).mono fun e w5 ⟨e5, b5⟩ => ?_⟩
    rw [prt_last] at e5
    have tb4 : Tb (w3.setCell ⟨q, 1, none⟩ (.slice x' (PP.length + 1) c')).drew w.heap.size 33 := tb2.of_heap (t3.block _ tb2.lt nG)
    have c5 : CellsAt w5 w.heap.size _ := c4.keep (b5.block _ tb4.lt)
    exact ⟨e5, c5 1 _ rfl, c5 2 _ rfl, mb, nb', D', R, Rl, _, L, PP ++ [(A, Bb)], b4.trans (b5.mono b4.size), f4.below b5, m4.below b5, Nat.le_succ_of_le h.hl, by simp; omega, hn2⟩
  have hBp := build_pair A Bb
  clear h hd hRl hRp ba bd hX hlc tbA ca hn wA wB
  go_enter Try.func9, Try.ntmps9
  go_wp2_with fail
  refine wp_region_held_drew (S := fun v => v.cell? ⟨q, 0, none⟩ = some (.slice lx L.length lc) ∧ v.cell? ⟨w.heap.size, 1, none⟩ = some (.int .i64 A)) (by kernel_rfl) ⟨s0, s1⟩ (fun hHeld => ?_)
  refine wpAnyH_take (i := 0) (v := ?_) rfl (by kernel_rfl) (by kernel_rfl) (by kernel_rfl) (fun _ _ _ h => h) (Or.inl ⟨by rfl, ?_⟩) (by assumption) ?_
  case refine_2 => (intro w hSw; (try dsimp only at hSw); go_simp; (try with_reducible rfl))
  (try simp only [Act.put, List.getElem_toArray, List.getElem_cons_succ, List.getElem_cons_zero, List.setIfInBounds_toArray, List.set_cons_zero, List.set_cons_succ])
  refine wpAnyH_take (i := 1) (v := ?_) rfl (by kernel_rfl) (by kernel_rfl) (by kernel_rfl) (fun _ _ _ h => h) (Or.inl ⟨by rfl, ?_⟩) (by assumption) ?_
  case refine_2 => (intro w hSw; (try dsimp only at hSw); go_simp; (try with_reducible rfl))
  (try simp only [Act.put, List.getElem_toArray, List.getElem_cons_succ, List.getElem_cons_zero, List.setIfInBounds_toArray, List.set_cons_zero, List.set_cons_succ])
  refine wpAnyH_take (i := 2) (v := ?_) rfl (by kernel_rfl) (by kernel_rfl) (by kernel_rfl) (fun _ _ _ h => h) (Or.inl ⟨by rfl, ?_⟩) (by assumption) ?_
  case refine_2 => (intro w hSw; (try dsimp only at hSw); go_simp; (try with_reducible rfl))
  (try simp only [Act.put, List.getElem_toArray, List.getElem_cons_succ, List.getElem_cons_zero, List.setIfInBounds_toArray, List.set_cons_zero, List.set_cons_succ])
  refine wpAnyH_take (i := 3) (v := ?_) rfl (by kernel_rfl) (by kernel_rfl) (by kernel_rfl) (fun _ _ _ h => h) (Or.inl ⟨by rfl, ?_⟩) (by assumption) ?_
  case refine_2 => (intro w hSw; (try dsimp only at hSw); go_simp; (try with_reducible rfl))
  (try simp only [Act.put, List.getElem_toArray, List.getElem_cons_succ, List.getElem_cons_zero, List.setIfInBounds_toArray, List.set_cons_zero, List.set_cons_succ])
  refine wpAnyH_take (i := 4) (v := ?_) rfl (by kernel_rfl) (by kernel_rfl) (by kernel_rfl) (fun _ _ _ h => h) (Or.inl ⟨by rfl, ?_⟩) (by assumption) ?_
  case refine_2 => (intro w hSw; (try dsimp only at hSw); go_simp; (try with_reducible rfl))
  (try simp only [Act.put, List.getElem_toArray, List.getElem_cons_succ, List.getElem_cons_zero, List.setIfInBounds_toArray, List.set_cons_zero, List.set_cons_succ])
  refine wpAnyH_take (i := 5) (v := ?_) rfl (by kernel_rfl) (by kernel_rfl) (by kernel_rfl) (fun _ _ _ h => h) (Or.inl ⟨by rfl, ?_⟩) (by assumption) ?_
  case refine_2 => (intro w hSw; (try dsimp only at hSw); go_simp; (try with_reducible rfl))
  (try simp only [Act.put, List.getElem_toArray, List.getElem_cons_succ, List.getElem_cons_zero, List.setIfInBounds_toArray, List.set_cons_zero, List.set_cons_succ])
  refine wpAnyH_take (i := 6) (v := ?_) rfl (by kernel_rfl) (by kernel_rfl) (by kernel_rfl) (fun _ _ _ h => h) (Or.inl ⟨by rfl, ?_⟩) (by assumption) ?_
  case refine_2 => (intro w hSw; (try dsimp only at hSw); go_simp; (try with_reducible rfl))
  (try simp only [Act.put, List.getElem_toArray, List.getElem_cons_succ, List.getElem_cons_zero, List.setIfInBounds_toArray, List.set_cons_zero, List.set_cons_succ])
  refine wpAnyH_take (i := 7) (v := ?_) rfl (by kernel_rfl) (by kernel_rfl) (by kernel_rfl) (fun _ _ _ h => h) (Or.inl ⟨by rfl, ?_⟩) (by assumption) ?_
  case refine_2 => (intro w hSw; (try dsimp only at hSw); go_simp; (try with_reducible rfl))
  (try simp only [Act.put, List.getElem_toArray, List.getElem_cons_succ, List.getElem_cons_zero, List.setIfInBounds_toArray, List.set_cons_zero, List.set_cons_succ])
  refine wpAnyH_take (i := 8) (v := ?_) rfl (by kernel_rfl) (by kernel_rfl) (by kernel_rfl) (fun _ _ _ h => h) (Or.inl ⟨by rfl, ?_⟩) (by assumption) ?_
  case refine_2 => (intro w hSw; (try dsimp only at hSw); go_simp; (try with_reducible rfl))
  (try simp only [Act.put, List.getElem_toArray, List.getElem_cons_succ, List.getElem_cons_zero, List.setIfInBounds_toArray, List.set_cons_zero, List.set_cons_succ])
  refine wpAnyH_take (i := 9) (v := ?_) rfl (by kernel_rfl) (by kernel_rfl) (by kernel_rfl) (fun _ _ _ h => h) (Or.inl ⟨by rfl, ?_⟩) (by assumption) ?_
  case refine_2 => (intro w hSw; (try dsimp only at hSw); go_simp; (try with_reducible rfl))
  (try simp only [Act.put, List.getElem_toArray, List.getElem_cons_succ, List.getElem_cons_zero, List.setIfInBounds_toArray, List.set_cons_zero, List.set_cons_succ])
  refine wpAnyH_take (i := 10) (v := ?_) rfl (by kernel_rfl) (by kernel_rfl) (by kernel_rfl) (fun _ _ _ h => h) (Or.inl ⟨by rfl, ?_⟩) (by assumption) ?_
  case refine_2 => (intro w hSw; (try dsimp only at hSw); go_simp; (try with_reducible rfl))
  (try simp only [Act.put, List.getElem_toArray, List.getElem_cons_succ, List.getElem_cons_zero, List.setIfInBounds_toArray, List.set_cons_zero, List.set_cons_succ])
  refine wpAnyH_take (i := 11) (v := ?_) rfl (by kernel_rfl) (by kernel_rfl) (by kernel_rfl) (fun _ _ _ h => h) (Or.inl ⟨by rfl, ?_⟩) (by assumption) ?_
  case refine_2 => (intro w hSw; (try dsimp only at hSw); go_simp; (try with_reducible rfl))
  (try simp only [Act.put, List.getElem_toArray, List.getElem_cons_succ, List.getElem_cons_zero, List.setIfInBounds_toArray, List.set_cons_zero, List.set_cons_succ])
  refine wpAnyH_take (i := 12) (v := ?_) rfl (by kernel_rfl) (by kernel_rfl) (by kernel_rfl) (fun _ _ _ h => h) (Or.inl ⟨by rfl, ?_⟩) (by assumption) ?_
  case refine_2 => (intro w hSw; (try dsimp only at hSw); go_simp; (try with_reducible rfl))
  (try simp only [Act.put, List.getElem_toArray, List.getElem_cons_succ, List.getElem_cons_zero, List.setIfInBounds_toArray, List.set_cons_zero, List.set_cons_succ])
  refine wpAnyH_take (i := 13) (v := ?_) rfl (by kernel_rfl) (by kernel_rfl) (by kernel_rfl) (fun _ _ _ h => h) (Or.inl ⟨by rfl, ?_⟩) (by assumption) ?_
  case refine_2 => (intro w hSw; (try dsimp only at hSw); go_simp; (try with_reducible rfl))
  (try simp only [Act.put, List.getElem_toArray, List.getElem_cons_succ, List.getElem_cons_zero, List.setIfInBounds_toArray, List.set_cons_zero, List.set_cons_succ])
  refine wpAnyH_done (by kernel_rfl) ?_ _
  go_wp2_with (go_at_call 19; refine hP.mono ?_; rintro e w2 ⟨rfl, x', c', w3, hap, S1, S2, S3, f3, S4, hQ⟩; clear hP)
  refine wp_region_last (fun v => v.cell? ⟨q, 1, none⟩ = some (.slice px PP.length pc) ∧ v.cell? ⟨w.heap.size, 1, none⟩ = some (.int .i64 A) ∧ v.cell? ⟨w.heap.size, 2, none⟩ = some (.int .i64 Bb)) 14 (by kernel_rfl) S1 (fun hS => ?_)
  refine wpAnyL_take (i := 0) (v := ?_) rfl (by kernel_rfl) (by kernel_rfl) (by kernel_rfl) (by kernel_rfl) (fun _ _ _ h => h) hS (Or.inl ⟨by rfl, ?_⟩) ?_
  case refine_2 => (intro w hSw; (try dsimp only at hSw); go_simp; (try with_reducible rfl))
  (try simp only [Act.put, List.setIfInBounds_toArray, List.set_cons_zero, List.set_cons_succ])
  refine wpAnyL_take (i := 1) (v := ?_) rfl (by kernel_rfl) (by kernel_rfl) (by kernel_rfl) (by kernel_rfl) (fun _ _ _ h => h) hS (Or.inl ⟨by rfl, ?_⟩) ?_
  case refine_2 => (intro w hSw; (try dsimp only at hSw); go_simp; (try with_reducible rfl))
  (try simp only [Act.put, List.setIfInBounds_toArray, List.set_cons_zero, List.set_cons_succ])
  refine wpAnyL_take (i := 2) (v := ?_) rfl (by kernel_rfl) (by kernel_rfl) (by kernel_rfl) (by kernel_rfl) (fun _ _ _ h => h) hS (Or.inl ⟨by rfl, ?_⟩) ?_
  case refine_2 => (intro w hSw; (try dsimp only at hSw); go_simp; (try with_reducible rfl))
  (try simp only [Act.put, List.setIfInBounds_toArray, List.set_cons_zero, List.set_cons_succ])
  refine wpAnyL_take (i := 3) (v := ?_) rfl (by kernel_rfl) (by kernel_rfl) (by kernel_rfl) (by kernel_rfl) (fun _ _ _ h => h) hS (Or.inl ⟨by rfl, ?_⟩) ?_
  case refine_2 => (intro w hSw; (try dsimp only at hSw); go_simp; (try with_reducible rfl))
  (try simp only [Act.put, List.setIfInBounds_toArray, List.set_cons_zero, List.set_cons_succ])
  refine wpAnyL_take (i := 4) (v := ?_) rfl (by kernel_rfl) (by kernel_rfl) (by kernel_rfl) (by kernel_rfl) (fun _ _ _ h => h) hS (Or.inl ⟨by rfl, ?_⟩) ?_
  case refine_2 => (intro w hSw; (try dsimp only at hSw); go_simp; (try with_reducible rfl))
  (try simp only [Act.put, List.setIfInBounds_toArray, List.set_cons_zero, List.set_cons_succ])
  refine wpAnyL_take (i := 5) (v := ?_) rfl (by kernel_rfl) (by kernel_rfl) (by kernel_rfl) (by kernel_rfl) (fun _ _ _ h => h) hS (Or.inl ⟨by rfl, ?_⟩) ?_
  case refine_2 => (intro w hSw; (try dsimp only at hSw); go_simp; (try with_reducible rfl))
  (try simp only [Act.put, List.setIfInBounds_toArray, List.set_cons_zero, List.set_cons_succ])
  refine wpAnyL_take (i := 6) (v := ?_) rfl (by kernel_rfl) (by kernel_rfl) (by kernel_rfl) (by kernel_rfl) (fun _ _ _ h => h) hS (Or.inl ⟨by rfl, ?_⟩) ?_
  case refine_2 => (intro w hSw; (try dsimp only at hSw); go_simp; (try with_reducible rfl))
  (try simp only [Act.put, List.setIfInBounds_toArray, List.set_cons_zero, List.set_cons_succ])
  refine wpAnyL_take (i := 7) (v := ?_) rfl (by kernel_rfl) (by kernel_rfl) (by kernel_rfl) (by kernel_rfl) (fun _ _ _ h => h) hS (Or.inl ⟨by rfl, ?_⟩) ?_
  case refine_2 => (intro w hSw; (try dsimp only at hSw); go_simp; (try with_reducible rfl))
  (try simp only [Act.put, List.setIfInBounds_toArray, List.set_cons_zero, List.set_cons_succ])
  refine wpAnyL_take (i := 8) (v := ?_) rfl (by kernel_rfl) (by kernel_rfl) (by kernel_rfl) (by kernel_rfl) (fun _ _ _ h => h) hS (Or.inl ⟨by rfl, ?_⟩) ?_
  case refine_2 => (intro w hSw; (try dsimp only at hSw); go_simp; (try with_reducible rfl))
  (try simp only [Act.put, List.setIfInBounds_toArray, List.set_cons_zero, List.set_cons_succ])
  refine wpAnyL_take (i := 9) (v := ?_) rfl (by kernel_rfl) (by kernel_rfl) (by kernel_rfl) (by kernel_rfl) (fun _ _ _ h => h) hS (Or.inl ⟨by rfl, ?_⟩) ?_
  case refine_2 => (intro w hSw; (try dsimp only at hSw); go_simp; (try with_reducible rfl))
  (try simp only [Act.put, List.setIfInBounds_toArray, List.set_cons_zero, List.set_cons_succ])
  refine wpAnyL_one (i := 10) (by kernel_rfl) rfl (fun K hK => ?_)
  go_simp
  refine hK.out _ _ (fun _ => S2) ?_
  clear hK K
  refine wpAnyL_one (i := 11) (by kernel_rfl) rfl (fun K hK => ?_)
  refine ready_append rfl _ _ 27 rfl _ _ rfl rfl hap ?_
  (try simp only [Act.put, List.getElem_toArray, List.getElem_cons_succ, List.getElem_cons_zero, List.setIfInBounds_toArray, List.set_cons_zero, List.set_cons_succ])
  refine hK.out _ _ (fun _ => S3) ?_
  clear hK K
  refine wpAnyL_one (i := 12) (by kernel_rfl) rfl (fun K hK => ?_)
  go_simp
  refine hK.out _ _ (fun _ => S3) ?_
  clear hK K
  refine wpAnyL_one (i := 13) (by kernel_rfl) rfl (fun K hK => ?_)
  go_simp
  refine hK.out _ _ (fun _ => S3) ?_
  clear hK K
  obtain ⟨u4, _⟩ := S3
  refine wpAnyL_one (i := 14) (by kernel_rfl) rfl (fun K hK => ?_)
  go_simp
  refine hK.out _ _ (fun h => absurd rfl h) ?_
  clear hK K
  refine wpAnyL_done (by kernel_rfl) ?_ _
  go_wp2_with fail
  refine wp_region_held_drew (S := fun v => v.cell? ⟨w.heap.size, 1, none⟩ = some (.int .i64 A) ∧ v.cell? ⟨w.heap.size, 2, none⟩ = some (.int .i64 Bb)) (by kernel_rfl) S4 (fun hHeld => ?_)
  refine wpAnyH_take (i := 0) (v := ?_) rfl (by kernel_rfl) (by kernel_rfl) (by kernel_rfl) (fun _ _ _ h => h) (Or.inl ⟨by rfl, ?_⟩) (by assumption) ?_
  case refine_2 => (intro w hSw; (try dsimp only at hSw); go_simp; (try with_reducible rfl))
  (try simp only [Act.put, List.getElem_toArray, List.getElem_cons_succ, List.getElem_cons_zero, List.setIfInBounds_toArray, List.set_cons_zero, List.set_cons_succ])
  refine wpAnyH_take (i := 1) (v := ?_) rfl (by kernel_rfl) (by kernel_rfl) (by kernel_rfl) (fun _ _ _ h => h) (Or.inl ⟨by rfl, ?_⟩) (by assumption) ?_
  case refine_2 => (intro w hSw; (try dsimp only at hSw); go_simp; (try with_reducible rfl))
  (try simp only [Act.put, List.getElem_toArray, List.getElem_cons_succ, List.getElem_cons_zero, List.setIfInBounds_toArray, List.set_cons_zero, List.set_cons_succ])
  refine wpAnyH_take (i := 2) (v := ?_) rfl (by kernel_rfl) (by kernel_rfl) (by kernel_rfl) (fun _ _ _ h => h) (Or.inl ⟨by rfl, ?_⟩) (by assumption) ?_
  case refine_2 => (intro w hSw; (try dsimp only at hSw); go_simp; (try with_reducible rfl))
  (try simp only [Act.put, List.getElem_toArray, List.getElem_cons_succ, List.getElem_cons_zero, List.setIfInBounds_toArray, List.set_cons_zero, List.set_cons_succ])
  refine wpAnyH_take (i := 3) (v := ?_) rfl (by kernel_rfl) (by kernel_rfl) (by kernel_rfl) (fun _ _ _ h => h) (Or.inl ⟨by rfl, ?_⟩) (by assumption) ?_
  case refine_2 => (intro w hSw; (try dsimp only at hSw); go_simp; (try with_reducible rfl))
  (try simp only [Act.put, List.getElem_toArray, List.getElem_cons_succ, List.getElem_cons_zero, List.setIfInBounds_toArray, List.set_cons_zero, List.set_cons_succ])
  refine wpAnyH_take (i := 4) (v := ?_) rfl (by kernel_rfl) (by kernel_rfl) (by kernel_rfl) (fun _ _ _ h => h) (Or.inl ⟨by rfl, ?_⟩) (by assumption) ?_
  case refine_2 => (intro w hSw; (try dsimp only at hSw); go_simp; (try with_reducible rfl))
  (try simp only [Act.put, List.getElem_toArray, List.getElem_cons_succ, List.getElem_cons_zero, List.setIfInBounds_toArray, List.set_cons_zero, List.set_cons_succ])
  refine wpAnyH_take (i := 6) (v := ?_) rfl (by kernel_rfl) (by kernel_rfl) (by kernel_rfl) (fun _ _ _ h => h) (Or.inl ⟨by rfl, ?_⟩) (by assumption) ?_
  case refine_2 => (intro w hSw; (try dsimp only at hSw); go_simp; (try with_reducible rfl))
  (try simp only [Act.put, List.getElem_toArray, List.getElem_cons_succ, List.getElem_cons_zero, List.setIfInBounds_toArray, List.set_cons_zero, List.set_cons_succ])
  refine wpAnyH_take (i := 7) (v := ?_) rfl (by kernel_rfl) (by kernel_rfl) (by kernel_rfl) (fun _ _ _ h => h) (Or.inl ⟨by rfl, ?_⟩) (by assumption) ?_
  case refine_2 => (intro w hSw; (try dsimp only at hSw); go_simp; (try with_reducible rfl))
  (try simp only [Act.put, List.getElem_toArray, List.getElem_cons_succ, List.getElem_cons_zero, List.setIfInBounds_toArray, List.set_cons_zero, List.set_cons_succ])
  refine wpAnyH_take (i := 8) (v := ?_) rfl (by kernel_rfl) (by kernel_rfl) (by kernel_rfl) (fun _ _ _ h => h) (Or.inl ⟨by rfl, ?_⟩) (by assumption) ?_
  case refine_2 => (intro w hSw; (try dsimp only at hSw); go_simp; (try with_reducible rfl))
  (try simp only [Act.put, List.getElem_toArray, List.getElem_cons_succ, List.getElem_cons_zero, List.setIfInBounds_toArray, List.set_cons_zero, List.set_cons_succ])
  refine wpAnyH_take (i := 9) (v := ?_) rfl (by kernel_rfl) (by kernel_rfl) (by kernel_rfl) (fun _ _ _ h => h) (Or.inl ⟨by rfl, ?_⟩) (by assumption) ?_
  case refine_2 => (intro w hSw; (try dsimp only at hSw); go_simp; (try with_reducible rfl))
  (try simp only [Act.put, List.getElem_toArray, List.getElem_cons_succ, List.getElem_cons_zero, List.setIfInBounds_toArray, List.set_cons_zero, List.set_cons_succ])
  refine wpAnyH_take (i := 10) (v := ?_) rfl (by kernel_rfl) (by kernel_rfl) (by kernel_rfl) (fun _ _ _ h => h) (Or.inl ⟨by rfl, ?_⟩) (by assumption) ?_
  case refine_2 => (intro w hSw; (try dsimp only at hSw); go_simp; (try with_reducible rfl))
  (try simp only [Act.put, List.getElem_toArray, List.getElem_cons_succ, List.getElem_cons_zero, List.setIfInBounds_toArray, List.set_cons_zero, List.set_cons_succ])
  refine wpAnyH_ready (rs := [5]) (by kernel_rfl) (by simp) ?_
  refine AllReadyH.cons rfl (fun K hK => ?_) AllReadyH.nil
  go_simp
  refine hQ.mono ?_
  rintro e w5 ⟨rfl, r1, r2, HN⟩
  clear hQ
  refine hK.out _ _ ⟨r1, r2⟩ (fun hHeld => ?_)
  clear hK K
  refine wpAnyH_take (i := 11) (v := ?_) rfl (by kernel_rfl) (by kernel_rfl) (by kernel_rfl) (fun _ _ _ h => h) (Or.inl ⟨by rfl, ?_⟩) (by assumption) ?_
  case refine_2 => (intro w hSw; (try dsimp only at hSw); go_simp; (try with_reducible rfl))
  (try simp only [Act.put, List.getElem_toArray, List.getElem_cons_succ, List.getElem_cons_zero, List.setIfInBounds_toArray, List.set_cons_zero, List.set_cons_succ])
  refine wpAnyH_take (i := 12) (v := ?_) rfl (by kernel_rfl) (by kernel_rfl) (by kernel_rfl) (fun _ _ _ h => h) (Or.inl ⟨by rfl, ?_⟩) (by assumption) ?_
  case refine_2 => (intro w hSw; (try dsimp only at hSw); go_simp; (try with_reducible rfl))
  (try simp only [Act.put, List.getElem_toArray, List.getElem_cons_succ, List.getElem_cons_zero, List.setIfInBounds_toArray, List.set_cons_zero, List.set_cons_succ])
  refine wpAnyH_done (by kernel_rfl) ?_ _
  go_wp2_with fail
  go_ret
  exact ⟨by first | rfl | simp, HN.out⟩

end

end Go.Proofs.Ytmekbbddfmmbeaa.Fl
