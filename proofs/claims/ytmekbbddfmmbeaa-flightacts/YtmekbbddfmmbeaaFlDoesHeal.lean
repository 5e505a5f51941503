/-
  The law's own 'does': all are healed.
  Conditions: none.
-/
import Derived.Test.YtmekbbddfmmbeaaFlBoth
namespace Go.Proofs.Ytmekbbddfmmbeaa.Fl
open Go.RowKit By
set_option linter.unusedVariables false
set_option linter.unusedSimpArgs false
set_option maxRecDepth 100000

section
variable {w0 w : World} {p mb nb q k : Nat} {D : DataW Value} {R Rl Rp : Value} {L : List MV} {PP : List (Int × Int)}

set_option maxHeartbeats 4000000 in
theorem does_heal_neg (h : Pair w0 w p mb nb q k D R Rl Rp L PP) (hk : k ≤ 1000) (A Bb : Int) (hA : A < 0) (X : Option Addr) (n c : Nat) (d : List Nat) (hX : Sl w0 X n c d) (hn : n ≤ 140737488351232) :
    Calls Try.prog 9 #[.pointer (some ⟨p, 0, none⟩), .pointer (some ⟨q, 0, none⟩), .agg #[.int .i64 5, .int .i64 A, .int .i64 Bb, .slice X n c]] w fun e w' => e = .returned (.bool true) ∧ Hid (Both w0 w' p q (k + 1)) := by
  have ba : Below w.heap.size w (w.alloc (.cells #[.int .i64 5, .int .i64 A, .int .i64 Bb, .slice X n c] 33)) := (Below.refl _ _).alloc (Nat.le_refl _) _
  have bd : Below w.heap.size w (w.alloc (.cells #[.int .i64 5, .int .i64 A, .int .i64 Bb, .slice X n c] 33)).drew := ba.drew
  have hd := h.below bd
  obtain ⟨lx, lc, hRl, hlc, _, _⟩ := hd.md.l.form
  rw [List.length_map] at hRl hlc
  have s0 := hd.md.c0
  rw [hRl] at s0
  have s1 : (w.alloc (.cells #[.int .i64 5, .int .i64 A, .int .i64 Bb, .slice X n c] 33)).drew.cell? ⟨w.heap.size, 1, none⟩ = some (.int .i64 A) := by simp
  have tbA : Tb (w.alloc (.cells #[.int .i64 5, .int .i64 A, .int .i64 Bb, .slice X n c] 33)).drew w.heap.size 33 := ⟨_, _, heap_alloc_new w _⟩
  have hdec : decide (0 ≤ A) = false := by simp; omega
  clear hA
  have hH : Calls Try.prog 20 #[.pointer (some ⟨p, 0, none⟩)] (w.alloc (.cells #[.int .i64 5, .int .i64 A, .int .i64 Bb, .slice X n c] 33)).drew fun e w2 => e = .returned (.tuple #[]) ∧ w2.cell? ⟨q, 1, none⟩ = some Rp ∧ w2.frozen? ⟨q, 1, none⟩ = false ∧ Hid (Both w0 (w2.setCell ⟨q, 1, none⟩ (.slice none 0 0)) p q (k + 1)) := by
    refine (heal_any hd.fl).mono fun e w2 ⟨e2, H2⟩ => ⟨e2, ?_⟩
    obtain ⟨f2, t2⟩ := H2.out
    obtain ⟨b2, m2⟩ := hd.flight (nb' := 0) (D' := D) (R' := R) (L' := L) (S' := prt []) t2
    obtain ⟨q1, q2, q3, q4⟩ := m2.setP (Turns.refl _ _) (Own.nil _ _ _ _ _)
    refine ⟨q1, q2, mb, 0, .map [], R, Rl, .slice none 0 0, L, [], b2.trans (q3.below (fun k hk => (m2.foot k hk).1) f2.bw), ?_, q4, Nat.le_succ_of_le h.hl, Nat.zero_le _, Nat.zero_le _⟩
    exact (f2.apart q3 (fun k hk => apart_ty (m2.foot k hk).2)).congr (fun a b _ _ => by simp [prt])
  clear h hd hRl ba bd hX hlc tbA
  go_enter Try.func9, Try.ntmps9
  go_wp2_with fail
  refine wp_region_held_drew (S := fun v => v.cell? ⟨q, 0, none⟩ = some (.slice lx L.length lc) ∧ v.cell? ⟨w.heap.size, 1, none⟩ = some (.int .i64 A)) (by kernel_rfl) ⟨s0, s1⟩ (fun hHeld => ?_)
  refine wpAnyH_take (i := 0) (v := ?_) rfl (by kernel_rfl) (by kernel_rfl) (by kernel_rfl) (fun _ _ _ h => h) (Or.inl ⟨by rfl, ?_⟩) (by assumption) ?_
  case refine_2 => (intro w hSw; (try dsimp only at hSw); go_simp; (try with_reducible rfl))
  (try simp only [Act.put, List.getElem_toArray, List.getElem_cons_succ, List.getElem_cons_zero, List.setIfInBounds_toArray, List.set_cons_zero, List.set_cons_succ])
  refine wpAnyH_take (i := 1) (v := ?_) rfl (by kernel_rfl) (by kernel_rfl) (by kernel_rfl) (fun _ _ _ h => h) (Or.inl ⟨by rfl, ?_⟩) (by assumption) ?_
  case refine_2 => (intro w hSw; (try dsimp only at hSw); go_simp; (try with_reducible rfl))
  (try simp only [Act.put, List.getElem_toArray, List.getElem_cons_succ, List.getElem_cons_zero, List.setIfInBounds_toArray, List.set_cons_zero, List.set_cons_succ])
  refine wpAnyH_take (i := 2) (v := ?_) rfl (by kernel_rfl) (by kernel_rfl) (by kernel_rfl) (fun _ _ _ h => h) (Or.inl ⟨by rfl, ?_⟩) (by assumption) ?_
  case refine_2 => (intro w hSw; (try dsimp only at hSw); go_simp; (try with_reducible rfl))
  (try simp only [Act.put, List.getElem_toArray, List.getElem_cons_succ, List.getElem_cons_zero, List.setIfInBounds_toArray, List.set_cons_zero, List.set_cons_succ])
  refine wpAnyH_take (i := 3) (v := ?_) rfl (by kernel_rfl) (by kernel_rfl) (by kernel_rfl) (fun _ _ _ h => h) (Or.inl ⟨by rfl, ?_⟩) (by assumption) ?_
  case refine_2 => (intro w hSw; (try dsimp only at hSw); go_simp; (try with_reducible rfl))
  (try simp only [Act.put, List.getElem_toArray, List.getElem_cons_succ, List.getElem_cons_zero, List.setIfInBounds_toArray, List.set_cons_zero, List.set_cons_succ])
  refine wpAnyH_take (i := 4) (v := undef) rfl (by kernel_rfl) (by kernel_rfl) (by kernel_rfl) (fun _ _ _ h => h) (Or.inr ⟨by rfl, rfl⟩) (by assumption) ?_
  (try simp only [Act.put, List.getElem_toArray, List.getElem_cons_succ, List.getElem_cons_zero, List.setIfInBounds_toArray, List.set_cons_zero, List.set_cons_succ])
  refine wpAnyH_take (i := 5) (v := undef) rfl (by kernel_rfl) (by kernel_rfl) (by kernel_rfl) (fun _ _ _ h => h) (Or.inr ⟨by rfl, rfl⟩) (by assumption) ?_
  (try simp only [Act.put, List.getElem_toArray, List.getElem_cons_succ, List.getElem_cons_zero, List.setIfInBounds_toArray, List.set_cons_zero, List.set_cons_succ])
  refine wpAnyH_take (i := 6) (v := undef) rfl (by kernel_rfl) (by kernel_rfl) (by kernel_rfl) (fun _ _ _ h => h) (Or.inr ⟨by rfl, rfl⟩) (by assumption) ?_
  (try simp only [Act.put, List.getElem_toArray, List.getElem_cons_succ, List.getElem_cons_zero, List.setIfInBounds_toArray, List.set_cons_zero, List.set_cons_succ])
  refine wpAnyH_take (i := 7) (v := undef) rfl (by kernel_rfl) (by kernel_rfl) (by kernel_rfl) (fun _ _ _ h => h) (Or.inr ⟨by rfl, rfl⟩) (by assumption) ?_
  (try simp only [Act.put, List.getElem_toArray, List.getElem_cons_succ, List.getElem_cons_zero, List.setIfInBounds_toArray, List.set_cons_zero, List.set_cons_succ])
  refine wpAnyH_take (i := 8) (v := undef) rfl (by kernel_rfl) (by kernel_rfl) (by kernel_rfl) (fun _ _ _ h => h) (Or.inr ⟨by rfl, rfl⟩) (by assumption) ?_
  (try simp only [Act.put, List.getElem_toArray, List.getElem_cons_succ, List.getElem_cons_zero, List.setIfInBounds_toArray, List.set_cons_zero, List.set_cons_succ])
  refine wpAnyH_take (i := 9) (v := undef) rfl (by kernel_rfl) (by kernel_rfl) (by kernel_rfl) (fun _ _ _ h => h) (Or.inr ⟨by rfl, rfl⟩) (by assumption) ?_
  (try simp only [Act.put, List.getElem_toArray, List.getElem_cons_succ, List.getElem_cons_zero, List.setIfInBounds_toArray, List.set_cons_zero, List.set_cons_succ])
  refine wpAnyH_take (i := 10) (v := undef) rfl (by kernel_rfl) (by kernel_rfl) (by kernel_rfl) (fun _ _ _ h => h) (Or.inr ⟨by rfl, rfl⟩) (by assumption) ?_
  (try simp only [Act.put, List.getElem_toArray, List.getElem_cons_succ, List.getElem_cons_zero, List.setIfInBounds_toArray, List.set_cons_zero, List.set_cons_succ])
  refine wpAnyH_take (i := 11) (v := undef) rfl (by kernel_rfl) (by kernel_rfl) (by kernel_rfl) (fun _ _ _ h => h) (Or.inr ⟨by rfl, rfl⟩) (by assumption) ?_
  (try simp only [Act.put, List.getElem_toArray, List.getElem_cons_succ, List.getElem_cons_zero, List.setIfInBounds_toArray, List.set_cons_zero, List.set_cons_succ])
  refine wpAnyH_take (i := 12) (v := ?_) rfl (by kernel_rfl) (by kernel_rfl) (by kernel_rfl) (fun _ _ _ h => h) (Or.inl ⟨by rfl, ?_⟩) (by assumption) ?_
  case refine_2 => (intro w hSw; (try dsimp only at hSw); go_simp; (try with_reducible rfl))
  (try simp only [Act.put, List.getElem_toArray, List.getElem_cons_succ, List.getElem_cons_zero, List.setIfInBounds_toArray, List.set_cons_zero, List.set_cons_succ])
  refine wpAnyH_take (i := 13) (v := ?_) rfl (by kernel_rfl) (by kernel_rfl) (by kernel_rfl) (fun _ _ _ h => h) (Or.inl ⟨by rfl, ?_⟩) (by assumption) ?_
  case refine_2 => (intro w hSw; (try dsimp only at hSw); go_simp; (try with_reducible rfl))
  (try simp only [Act.put, List.getElem_toArray, List.getElem_cons_succ, List.getElem_cons_zero, List.setIfInBounds_toArray, List.set_cons_zero, List.set_cons_succ])
  refine wpAnyH_done (by kernel_rfl) ?_ _
  go_wp2_with (go_at_call 20; refine hH.mono ?_; rintro e w2 ⟨rfl, c1, f1, HN⟩; clear hH)
  go_ret
  exact ⟨rfl, HN.out⟩

set_option maxHeartbeats 4000000 in
theorem does_heal_pos (h : Pair w0 w p mb nb q k D R Rl Rp L PP) (hk : k ≤ 1000) (A Bb : Int) (hA : 0 ≤ A) (X : Option Addr) (n c : Nat) (d : List Nat) (hX : Sl w0 X n c d) (hn : n ≤ 140737488351232) :
    Calls Try.prog 9 #[.pointer (some ⟨p, 0, none⟩), .pointer (some ⟨q, 0, none⟩), .agg #[.int .i64 5, .int .i64 A, .int .i64 Bb, .slice X n c]] w fun e w' => e = .returned (.bool true) ∧ Hid (Both w0 w' p q (k + 1)) := by
  have ba : Below w.heap.size w (w.alloc (.cells #[.int .i64 5, .int .i64 A, .int .i64 Bb, .slice X n c] 33)) := (Below.refl _ _).alloc (Nat.le_refl _) _
  have bd : Below w.heap.size w (w.alloc (.cells #[.int .i64 5, .int .i64 A, .int .i64 Bb, .slice X n c] 33)).drew := ba.drew
  have hd := h.below bd
  obtain ⟨lx, lc, hRl, hlc, _, _⟩ := hd.md.l.form
  rw [List.length_map] at hRl hlc
  have s0 := hd.md.c0
  rw [hRl] at s0
  have s1 : (w.alloc (.cells #[.int .i64 5, .int .i64 A, .int .i64 Bb, .slice X n c] 33)).drew.cell? ⟨w.heap.size, 1, none⟩ = some (.int .i64 A) := by simp
  have tbA : Tb (w.alloc (.cells #[.int .i64 5, .int .i64 A, .int .i64 Bb, .slice X n c] 33)).drew w.heap.size 33 := ⟨_, _, heap_alloc_new w _⟩
  have hdec : decide (0 ≤ A) = true := by simpa using hA
  clear hA
  have hH : Calls Try.prog 20 #[.pointer (some ⟨p, 0, none⟩)] (w.alloc (.cells #[.int .i64 5, .int .i64 A, .int .i64 Bb, .slice X n c] 33)).drew fun e w2 => e = .returned (.tuple #[]) ∧ w2.cell? ⟨q, 1, none⟩ = some Rp ∧ w2.frozen? ⟨q, 1, none⟩ = false ∧ Hid (Both w0 (w2.setCell ⟨q, 1, none⟩ (.slice none 0 0)) p q (k + 1)) := by
    refine (heal_any hd.fl).mono fun e w2 ⟨e2, H2⟩ => ⟨e2, ?_⟩
    obtain ⟨f2, t2⟩ := H2.out
    obtain ⟨b2, m2⟩ := hd.flight (nb' := 0) (D' := D) (R' := R) (L' := L) (S' := prt []) t2
    obtain ⟨q1, q2, q3, q4⟩ := m2.setP (Turns.refl _ _) (Own.nil _ _ _ _ _)
    refine ⟨q1, q2, mb, 0, .map [], R, Rl, .slice none 0 0, L, [], b2.trans (q3.below (fun k hk => (m2.foot k hk).1) f2.bw), ?_, q4, Nat.le_succ_of_le h.hl, Nat.zero_le _, Nat.zero_le _⟩
    exact (f2.apart q3 (fun k hk => apart_ty (m2.foot k hk).2)).congr (fun a b _ _ => by simp [prt])
  clear h hd hRl ba bd hX hlc tbA
  go_enter Try.func9, Try.ntmps9
  go_wp2_with fail
  refine wp_region_held_drew (S := fun v => v.cell? ⟨q, 0, none⟩ = some (.slice lx L.length lc) ∧ v.cell? ⟨w.heap.size, 1, none⟩ = some (.int .i64 A)) (by kernel_rfl) ⟨s0, s1⟩ (fun hHeld => ?_)
  refine wpAnyH_take (i := 0) (v := ?_) rfl (by kernel_rfl) (by kernel_rfl) (by kernel_rfl) (fun _ _ _ h => h) (Or.inl ⟨by rfl, ?_⟩) (by assumption) ?_
  case refine_2 => (intro w hSw; (try dsimp only at hSw); go_simp; (try with_reducible rfl))
  (try simp only [Act.put, List.getElem_toArray, List.getElem_cons_succ, List.getElem_cons_zero, List.setIfInBounds_toArray, List.set_cons_zero, List.set_cons_succ])
  refine wpAnyH_take (i := 1) (v := ?_) rfl (by kernel_rfl) (by kernel_rfl) (by kernel_rfl) (fun _ _ _ h => h) (Or.inl ⟨by rfl, ?_⟩) (by assumption) ?_
  case refine_2 => (intro w hSw; (try dsimp only at hSw); go_simp; (try with_reducible rfl))
  (try simp only [Act.put, List.getElem_toArray, List.getElem_cons_succ, List.getElem_cons_zero, List.setIfInBounds_toArray, List.set_cons_zero, List.set_cons_succ])
  refine wpAnyH_take (i := 2) (v := ?_) rfl (by kernel_rfl) (by kernel_rfl) (by kernel_rfl) (fun _ _ _ h => h) (Or.inl ⟨by rfl, ?_⟩) (by assumption) ?_
  case refine_2 => (intro w hSw; (try dsimp only at hSw); go_simp; (try with_reducible rfl))
  (try simp only [Act.put, List.getElem_toArray, List.getElem_cons_succ, List.getElem_cons_zero, List.setIfInBounds_toArray, List.set_cons_zero, List.set_cons_succ])
  refine wpAnyH_take (i := 3) (v := ?_) rfl (by kernel_rfl) (by kernel_rfl) (by kernel_rfl) (fun _ _ _ h => h) (Or.inl ⟨by rfl, ?_⟩) (by assumption) ?_
  case refine_2 => (intro w hSw; (try dsimp only at hSw); go_simp; (try with_reducible rfl))
  (try simp only [Act.put, List.getElem_toArray, List.getElem_cons_succ, List.getElem_cons_zero, List.setIfInBounds_toArray, List.set_cons_zero, List.set_cons_succ])
  refine wpAnyH_take (i := 4) (v := ?_) rfl (by kernel_rfl) (by kernel_rfl) (by kernel_rfl) (fun _ _ _ h => h) (Or.inl ⟨by rfl, ?_⟩) (by assumption) ?_
  case refine_2 => (intro w hSw; (try dsimp only at hSw); go_simp; (try with_reducible rfl))
  (try simp only [Act.put, List.getElem_toArray, List.getElem_cons_succ, List.getElem_cons_zero, List.setIfInBounds_toArray, List.set_cons_zero, List.set_cons_succ])
  refine wpAnyH_take (i := 5) (v := ?_) rfl (by kernel_rfl) (by kernel_rfl) (by kernel_rfl) (fun _ _ _ h => h) (Or.inl ⟨by rfl, ?_⟩) (by assumption) ?_
  case refine_2 => (intro w hSw; (try dsimp only at hSw); go_simp; (try with_reducible rfl))
  (try simp only [Act.put, List.getElem_toArray, List.getElem_cons_succ, List.getElem_cons_zero, List.setIfInBounds_toArray, List.set_cons_zero, List.set_cons_succ])
  refine wpAnyH_take (i := 6) (v := ?_) rfl (by kernel_rfl) (by kernel_rfl) (by kernel_rfl) (fun _ _ _ h => h) (Or.inl ⟨by rfl, ?_⟩) (by assumption) ?_
  case refine_2 => (intro w hSw; (try dsimp only at hSw); go_simp; (try with_reducible rfl))
  (try simp only [Act.put, List.getElem_toArray, List.getElem_cons_succ, List.getElem_cons_zero, List.setIfInBounds_toArray, List.set_cons_zero, List.set_cons_succ])
  refine wpAnyH_take (i := 7) (v := ?_) rfl (by kernel_rfl) (by kernel_rfl) (by kernel_rfl) (fun _ _ _ h => h) (Or.inl ⟨by rfl, ?_⟩) (by assumption) ?_
  case refine_2 => (intro w hSw; (try dsimp only at hSw); go_simp; (try with_reducible rfl))
  (try simp only [Act.put, List.getElem_toArray, List.getElem_cons_succ, List.getElem_cons_zero, List.setIfInBounds_toArray, List.set_cons_zero, List.set_cons_succ])
  refine wpAnyH_take (i := 8) (v := ?_) rfl (by kernel_rfl) (by kernel_rfl) (by kernel_rfl) (fun _ _ _ h => h) (Or.inl ⟨by rfl, ?_⟩) (by assumption) ?_
  case refine_2 => (intro w hSw; (try dsimp only at hSw); go_simp; (try with_reducible rfl))
  (try simp only [Act.put, List.getElem_toArray, List.getElem_cons_succ, List.getElem_cons_zero, List.setIfInBounds_toArray, List.set_cons_zero, List.set_cons_succ])
  refine wpAnyH_take (i := 9) (v := ?_) rfl (by kernel_rfl) (by kernel_rfl) (by kernel_rfl) (fun _ _ _ h => h) (Or.inl ⟨by rfl, ?_⟩) (by assumption) ?_
  case refine_2 => (intro w hSw; (try dsimp only at hSw); go_simp; (try with_reducible rfl))
  (try simp only [Act.put, List.getElem_toArray, List.getElem_cons_succ, List.getElem_cons_zero, List.setIfInBounds_toArray, List.set_cons_zero, List.set_cons_succ])
  refine wpAnyH_take (i := 10) (v := ?_) rfl (by kernel_rfl) (by kernel_rfl) (by kernel_rfl) (fun _ _ _ h => h) (Or.inl ⟨by rfl, ?_⟩) (by assumption) ?_
  case refine_2 => (intro w hSw; (try dsimp only at hSw); go_simp; (try with_reducible rfl))
  (try simp only [Act.put, List.getElem_toArray, List.getElem_cons_succ, List.getElem_cons_zero, List.setIfInBounds_toArray, List.set_cons_zero, List.set_cons_succ])
  refine wpAnyH_take (i := 11) (v := ?_) rfl (by kernel_rfl) (by kernel_rfl) (by kernel_rfl) (fun _ _ _ h => h) (Or.inl ⟨by rfl, ?_⟩) (by assumption) ?_
  case refine_2 => (intro w hSw; (try dsimp only at hSw); go_simp; (try with_reducible rfl))
  (try simp only [Act.put, List.getElem_toArray, List.getElem_cons_succ, List.getElem_cons_zero, List.setIfInBounds_toArray, List.set_cons_zero, List.set_cons_succ])
  refine wpAnyH_take (i := 12) (v := ?_) rfl (by kernel_rfl) (by kernel_rfl) (by kernel_rfl) (fun _ _ _ h => h) (Or.inl ⟨by rfl, ?_⟩) (by assumption) ?_
  case refine_2 => (intro w hSw; (try dsimp only at hSw); go_simp; (try with_reducible rfl))
  (try simp only [Act.put, List.getElem_toArray, List.getElem_cons_succ, List.getElem_cons_zero, List.setIfInBounds_toArray, List.set_cons_zero, List.set_cons_succ])
  refine wpAnyH_take (i := 13) (v := ?_) rfl (by kernel_rfl) (by kernel_rfl) (by kernel_rfl) (fun _ _ _ h => h) (Or.inl ⟨by rfl, ?_⟩) (by assumption) ?_
  case refine_2 => (intro w hSw; (try dsimp only at hSw); go_simp; (try with_reducible rfl))
  (try simp only [Act.put, List.getElem_toArray, List.getElem_cons_succ, List.getElem_cons_zero, List.setIfInBounds_toArray, List.set_cons_zero, List.set_cons_succ])
  refine wpAnyH_done (by kernel_rfl) ?_ _
  go_wp2_with (go_at_call 20; refine hH.mono ?_; rintro e w2 ⟨rfl, c1, f1, HN⟩; clear hH)
  go_ret
  exact ⟨rfl, HN.out⟩

end

end Go.Proofs.Ytmekbbddfmmbeaa.Fl
