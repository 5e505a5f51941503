/-
  The law's own 'does': a message is delivered.
  Conditions: none.
-/
import Derived.Test.YtmekbbddfmmbeaaFlBoth
namespace Go.Proofs.Ytmekbbddfmmbeaa.Fl
open Go.RowKit By
set_option linter.unusedVariables false
set_option linter.unusedSimpArgs false
set_option maxRecDepth 100000

section
variable {w0 w : World} {p mb nb q k : Nat} {D : DataW Value} {R Rl Rp : Value} {L : List MV} {PP : List (Int × Int)}

set_option maxHeartbeats 4000000 in
theorem does_deliver_neg (h : Pair w0 w p mb nb q k D R Rl Rp L PP) (hk : k ≤ 1000) (A Bb : Int) (hA : A < 0) (X : Option Addr) (n c : Nat) (d : List Nat) (hX : Sl w0 X n c d) (hn : n ≤ 140737488351232) :
    Calls Try.prog 9 #[.pointer (some ⟨p, 0, none⟩), .pointer (some ⟨q, 0, none⟩), .agg #[.int .i64 1, .int .i64 A, .int .i64 Bb, .slice X n c]] w fun e w' => e = .returned (.bool true) ∧ Hid (Both w0 w' p q (k + 1)) := by
  have ba : Below w.heap.size w (w.alloc (.cells #[.int .i64 1, .int .i64 A, .int .i64 Bb, .slice X n c] 33)) := (Below.refl _ _).alloc (Nat.le_refl _) _
  have bd : Below w.heap.size w (w.alloc (.cells #[.int .i64 1, .int .i64 A, .int .i64 Bb, .slice X n c] 33)).drew := ba.drew
  have hd := h.below bd
  obtain ⟨lx, lc, hRl, hlc, _, _⟩ := hd.md.l.form
  rw [List.length_map] at hRl hlc
  have s0 := hd.md.c0
  rw [hRl] at s0
  have s1 : (w.alloc (.cells #[.int .i64 1, .int .i64 A, .int .i64 Bb, .slice X n c] 33)).drew.cell? ⟨w.heap.size, 1, none⟩ = some (.int .i64 A) := by simp
  have tbA : Tb (w.alloc (.cells #[.int .i64 1, .int .i64 A, .int .i64 Bb, .slice X n c] 33)).drew w.heap.size 33 := ⟨_, _, heap_alloc_new w _⟩
  have ca : CellsAt (w.alloc (.cells #[.int .i64 1, .int .i64 A, .int .i64 Bb, .slice X n c] 33)).drew w.heap.size [.int .i64 1, .int .i64 A, .int .i64 Bb, .slice X n c] := fun j u hj => by
    match j, hj with
    | 0, hj => simpa using hj
    | 1, hj => simpa using hj
    | 2, hj => simpa using hj
    | 3, hj => simpa using hj
    | j + 4, hj => simp at hj
  have hi : A < 0 ∨ (L.length : Int) ≤ A := .inl hA
  have hdec : decide (0 ≤ A) = false := by simp; omega
  clear hA
  have hD := deliver_no hd.fl A hi
  have HN : Hid (∀ w2, Below (w.alloc (.cells #[.int .i64 1, .int .i64 A, .int .i64 Bb, .slice X n c] 33)).drew.heap.size (w.alloc (.cells #[.int .i64 1, .int .i64 A, .int .i64 Bb, .slice X n c] 33)).drew w2 → Both w0 w2 p q (k + 1)) := fun w2 hb2 => (hd.below hb2).more
  have hcv : ∀ v : World, (convert 31 9 (.slice none 0 0)).run Try.prog v = .ok (.string ⟨#[]⟩) v := fun v => conv_sl (Sl.empty v)
  have a0 : (w.alloc (.cells #[.int .i64 1, .int .i64 A, .int .i64 Bb, .slice X n c] 33)).drew.cell? ⟨w.heap.size, 0, none⟩ = some (.int .i64 1) := ca 0 _ rfl
  clear h hd hRl ba bd hi hX hlc tbA ca
  go_enter Try.func9, Try.ntmps9
  go_wp2_with fail
  refine wp_region_held_drew (S := fun v => v.cell? ⟨q, 0, none⟩ = some (.slice lx L.length lc) ∧ v.cell? ⟨w.heap.size, 1, none⟩ = some (.int .i64 A)) (by kernel_rfl) ⟨s0, s1⟩ (fun hHeld => ?_)
  refine wpAnyH_take (i := 0) (v := ?_) rfl (by kernel_rfl) (by kernel_rfl) (by kernel_rfl) (fun _ _ _ h => h) (Or.inl ⟨by rfl, ?_⟩) (by assumption) ?_
  case refine_2 => (intro w hSw; (try dsimp only at hSw); go_simp; (try with_reducible rfl))
  (try simp only [Act.put, List.getElem_toArray, List.getElem_cons_succ, List.getElem_cons_zero, List.setIfInBounds_toArray, List.set_cons_zero, List.set_cons_succ])
  refine wpAnyH_take (i := 1) (v := ?_) rfl (by kernel_rfl) (by kernel_rfl) (by kernel_rfl) (fun _ _ _ h => h) (Or.inl ⟨by rfl, ?_⟩) (by assumption) ?_
  case refine_2 => (intro w hSw; (try dsimp only at hSw); go_simp; (try with_reducible rfl))
  (try simp only [Act.put, List.getElem_toArray, List.getElem_cons_succ, List.getElem_cons_zero, List.setIfInBounds_toArray, List.set_cons_zero, List.set_cons_succ])
  refine wpAnyH_take (i := 2) (v := ?_) rfl (by kernel_rfl) (by kernel_rfl) (by kernel_rfl) (fun _ _ _ h => h) (Or.inl ⟨by rfl, ?_⟩) (by assumption) ?_
  case refine_2 => (intro w hSw; (try dsimp only at hSw); go_simp; (try with_reducible rfl))
  (try simp only [Act.put, List.getElem_toArray, List.getElem_cons_succ, List.getElem_cons_zero, List.setIfInBounds_toArray, List.set_cons_zero, List.set_cons_succ])
  refine wpAnyH_take (i := 3) (v := ?_) rfl (by kernel_rfl) (by kernel_rfl) (by kernel_rfl) (fun _ _ _ h => h) (Or.inl ⟨by rfl, ?_⟩) (by assumption) ?_
  case refine_2 => (intro w hSw; (try dsimp only at hSw); go_simp; (try with_reducible rfl))
  (try simp only [Act.put, List.getElem_toArray, List.getElem_cons_succ, List.getElem_cons_zero, List.setIfInBounds_toArray, List.set_cons_zero, List.set_cons_succ])
  refine wpAnyH_take (i := 4) (v := undef) rfl (by kernel_rfl) (by kernel_rfl) (by kernel_rfl) (fun _ _ _ h => h) (Or.inr ⟨by rfl, rfl⟩) (by assumption) ?_
  (try simp only [Act.put, List.getElem_toArray, List.getElem_cons_succ, List.getElem_cons_zero, List.setIfInBounds_toArray, List.set_cons_zero, List.set_cons_succ])
  refine wpAnyH_take (i := 5) (v := undef) rfl (by kernel_rfl) (by kernel_rfl) (by kernel_rfl) (fun _ _ _ h => h) (Or.inr ⟨by rfl, rfl⟩) (by assumption) ?_
  (try simp only [Act.put, List.getElem_toArray, List.getElem_cons_succ, List.getElem_cons_zero, List.setIfInBounds_toArray, List.set_cons_zero, List.set_cons_succ])
  refine wpAnyH_take (i := 6) (v := undef) rfl (by kernel_rfl) (by kernel_rfl) (by kernel_rfl) (fun _ _ _ h => h) (Or.inr ⟨by rfl, rfl⟩) (by assumption) ?_
  (try simp only [Act.put, List.getElem_toArray, List.getElem_cons_succ, List.getElem_cons_zero, List.setIfInBounds_toArray, List.set_cons_zero, List.set_cons_succ])
  refine wpAnyH_take (i := 7) (v := undef) rfl (by kernel_rfl) (by kernel_rfl) (by kernel_rfl) (fun _ _ _ h => h) (Or.inr ⟨by rfl, rfl⟩) (by assumption) ?_
  (try simp only [Act.put, List.getElem_toArray, List.getElem_cons_succ, List.getElem_cons_zero, List.setIfInBounds_toArray, List.set_cons_zero, List.set_cons_succ])
  refine wpAnyH_take (i := 8) (v := undef) rfl (by kernel_rfl) (by kernel_rfl) (by kernel_rfl) (fun _ _ _ h => h) (Or.inr ⟨by rfl, rfl⟩) (by assumption) ?_
  (try simp only [Act.put, List.getElem_toArray, List.getElem_cons_succ, List.getElem_cons_zero, List.setIfInBounds_toArray, List.set_cons_zero, List.set_cons_succ])
  refine wpAnyH_take (i := 9) (v := undef) rfl (by kernel_rfl) (by kernel_rfl) (by kernel_rfl) (fun _ _ _ h => h) (Or.inr ⟨by rfl, rfl⟩) (by assumption) ?_
  (try simp only [Act.put, List.getElem_toArray, List.getElem_cons_succ, List.getElem_cons_zero, List.setIfInBounds_toArray, List.set_cons_zero, List.set_cons_succ])
  refine wpAnyH_take (i := 10) (v := undef) rfl (by kernel_rfl) (by kernel_rfl) (by kernel_rfl) (fun _ _ _ h => h) (Or.inr ⟨by rfl, rfl⟩) (by assumption) ?_
  (try simp only [Act.put, List.getElem_toArray, List.getElem_cons_succ, List.getElem_cons_zero, List.setIfInBounds_toArray, List.set_cons_zero, List.set_cons_succ])
  refine wpAnyH_take (i := 11) (v := undef) rfl (by kernel_rfl) (by kernel_rfl) (by kernel_rfl) (fun _ _ _ h => h) (Or.inr ⟨by rfl, rfl⟩) (by assumption) ?_
  (try simp only [Act.put, List.getElem_toArray, List.getElem_cons_succ, List.getElem_cons_zero, List.setIfInBounds_toArray, List.set_cons_zero, List.set_cons_succ])
  refine wpAnyH_take (i := 12) (v := ?_) rfl (by kernel_rfl) (by kernel_rfl) (by kernel_rfl) (fun _ _ _ h => h) (Or.inl ⟨by rfl, ?_⟩) (by assumption) ?_
  case refine_2 => (intro w hSw; (try dsimp only at hSw); go_simp; (try with_reducible rfl))
  (try simp only [Act.put, List.getElem_toArray, List.getElem_cons_succ, List.getElem_cons_zero, List.setIfInBounds_toArray, List.set_cons_zero, List.set_cons_succ])
  refine wpAnyH_take (i := 13) (v := ?_) rfl (by kernel_rfl) (by kernel_rfl) (by kernel_rfl) (fun _ _ _ h => h) (Or.inl ⟨by rfl, ?_⟩) (by assumption) ?_
  case refine_2 => (intro w hSw; (try dsimp only at hSw); go_simp; (try with_reducible rfl))
  (try simp only [Act.put, List.getElem_toArray, List.getElem_cons_succ, List.getElem_cons_zero, List.setIfInBounds_toArray, List.set_cons_zero, List.set_cons_succ])
  refine wpAnyH_done (by kernel_rfl) ?_ _
  generalize (w.alloc (.cells #[.int .i64 1, .int .i64 A, .int .i64 Bb, .slice X n c] 33)).drew = wD at *
  go_wp2_with (go_at_call 15; refine hD.mono ?_; rintro e w2 ⟨rfl, hw⟩; subst w2; clear hD)
  go_ret
  exact ⟨by first | rfl | simp_all, HN.out _ ((Below.refl _ _).alloc (Nat.le_refl _) _)⟩

set_option maxHeartbeats 4000000 in
theorem does_deliver_big (h : Pair w0 w p mb nb q k D R Rl Rp L PP) (hk : k ≤ 1000) (A Bb : Int) (hA0 : 0 ≤ A) (hA : (L.length : Int) ≤ A) (X : Option Addr) (n c : Nat) (d : List Nat) (hX : Sl w0 X n c d) (hn : n ≤ 140737488351232) :
    Calls Try.prog 9 #[.pointer (some ⟨p, 0, none⟩), .pointer (some ⟨q, 0, none⟩), .agg #[.int .i64 1, .int .i64 A, .int .i64 Bb, .slice X n c]] w fun e w' => e = .returned (.bool true) ∧ Hid (Both w0 w' p q (k + 1)) := by
  have ba : Below w.heap.size w (w.alloc (.cells #[.int .i64 1, .int .i64 A, .int .i64 Bb, .slice X n c] 33)) := (Below.refl _ _).alloc (Nat.le_refl _) _
  have bd : Below w.heap.size w (w.alloc (.cells #[.int .i64 1, .int .i64 A, .int .i64 Bb, .slice X n c] 33)).drew := ba.drew
  have hd := h.below bd
  obtain ⟨lx, lc, hRl, hlc, _, _⟩ := hd.md.l.form
  rw [List.length_map] at hRl hlc
  have s0 := hd.md.c0
  rw [hRl] at s0
  have s1 : (w.alloc (.cells #[.int .i64 1, .int .i64 A, .int .i64 Bb, .slice X n c] 33)).drew.cell? ⟨w.heap.size, 1, none⟩ = some (.int .i64 A) := by simp
  have tbA : Tb (w.alloc (.cells #[.int .i64 1, .int .i64 A, .int .i64 Bb, .slice X n c] 33)).drew w.heap.size 33 := ⟨_, _, heap_alloc_new w _⟩
  have ca : CellsAt (w.alloc (.cells #[.int .i64 1, .int .i64 A, .int .i64 Bb, .slice X n c] 33)).drew w.heap.size [.int .i64 1, .int .i64 A, .int .i64 Bb, .slice X n c] := fun j u hj => by
    match j, hj with
    | 0, hj => simpa using hj
    | 1, hj => simpa using hj
    | 2, hj => simpa using hj
    | 3, hj => simpa using hj
    | j + 4, hj => simp at hj
  have hi : A < 0 ∨ (L.length : Int) ≤ A := .inr hA
  have hdec : decide (0 ≤ A) = true := by simpa using hA0
  have hlt : decide (A < (L.length : Int)) = false := by simp; omega
  clear hA hA0
  have hD := deliver_no hd.fl A hi
  have HN : Hid (∀ w2, Below (w.alloc (.cells #[.int .i64 1, .int .i64 A, .int .i64 Bb, .slice X n c] 33)).drew.heap.size (w.alloc (.cells #[.int .i64 1, .int .i64 A, .int .i64 Bb, .slice X n c] 33)).drew w2 → Both w0 w2 p q (k + 1)) := fun w2 hb2 => (hd.below hb2).more
  have hcv : ∀ v : World, (convert 31 9 (.slice none 0 0)).run Try.prog v = .ok (.string ⟨#[]⟩) v := fun v => conv_sl (Sl.empty v)
  have a0 : (w.alloc (.cells #[.int .i64 1, .int .i64 A, .int .i64 Bb, .slice X n c] 33)).drew.cell? ⟨w.heap.size, 0, none⟩ = some (.int .i64 1) := ca 0 _ rfl
  clear h hd hRl ba bd hi hX hlc tbA ca
  go_enter Try.func9, Try.ntmps9
  go_wp2_with fail
  refine wp_region_held_drew (S := fun v => v.cell? ⟨q, 0, none⟩ = some (.slice lx L.length lc) ∧ v.cell? ⟨w.heap.size, 1, none⟩ = some (.int .i64 A)) (by kernel_rfl) ⟨s0, s1⟩ (fun hHeld => ?_)
  refine wpAnyH_take (i := 0) (v := ?_) rfl (by kernel_rfl) (by kernel_rfl) (by kernel_rfl) (fun _ _ _ h => h) (Or.inl ⟨by rfl, ?_⟩) (by assumption) ?_
  case refine_2 => (intro w hSw; (try dsimp only at hSw); go_simp; (try with_reducible rfl))
  (try simp only [Act.put, List.getElem_toArray, List.getElem_cons_succ, List.getElem_cons_zero, List.setIfInBounds_toArray, List.set_cons_zero, List.set_cons_succ])
  refine wpAnyH_take (i := 1) (v := ?_) rfl (by kernel_rfl) (by kernel_rfl) (by kernel_rfl) (fun _ _ _ h => h) (Or.inl ⟨by rfl, ?_⟩) (by assumption) ?_
  case refine_2 => (intro w hSw; (try dsimp only at hSw); go_simp; (try with_reducible rfl))
  (try simp only [Act.put, List.getElem_toArray, List.getElem_cons_succ, List.getElem_cons_zero, List.setIfInBounds_toArray, List.set_cons_zero, List.set_cons_succ])
  refine wpAnyH_take (i := 2) (v := ?_) rfl (by kernel_rfl) (by kernel_rfl) (by kernel_rfl) (fun _ _ _ h => h) (Or.inl ⟨by rfl, ?_⟩) (by assumption) ?_
  case refine_2 => (intro w hSw; (try dsimp only at hSw); go_simp; (try with_reducible rfl))
  (try simp only [Act.put, List.getElem_toArray, List.getElem_cons_succ, List.getElem_cons_zero, List.setIfInBounds_toArray, List.set_cons_zero, List.set_cons_succ])
  refine wpAnyH_take (i := 3) (v := ?_) rfl (by kernel_rfl) (by kernel_rfl) (by kernel_rfl) (fun _ _ _ h => h) (Or.inl ⟨by rfl, ?_⟩) (by assumption) ?_
  case refine_2 => (intro w hSw; (try dsimp only at hSw); go_simp; (try with_reducible rfl))
  (try simp only [Act.put, List.getElem_toArray, List.getElem_cons_succ, List.getElem_cons_zero, List.setIfInBounds_toArray, List.set_cons_zero, List.set_cons_succ])
  refine wpAnyH_take (i := 4) (v := ?_) rfl (by kernel_rfl) (by kernel_rfl) (by kernel_rfl) (fun _ _ _ h => h) (Or.inl ⟨by rfl, ?_⟩) (by assumption) ?_
  case refine_2 => (intro w hSw; (try dsimp only at hSw); go_simp; (try with_reducible rfl))
  (try simp only [Act.put, List.getElem_toArray, List.getElem_cons_succ, List.getElem_cons_zero, List.setIfInBounds_toArray, List.set_cons_zero, List.set_cons_succ])
  refine wpAnyH_take (i := 5) (v := ?_) rfl (by kernel_rfl) (by kernel_rfl) (by kernel_rfl) (fun _ _ _ h => h) (Or.inl ⟨by rfl, ?_⟩) (by assumption) ?_
  case refine_2 => (intro w hSw; (try dsimp only at hSw); go_simp; (try with_reducible rfl))
  (try simp only [Act.put, List.getElem_toArray, List.getElem_cons_succ, List.getElem_cons_zero, List.setIfInBounds_toArray, List.set_cons_zero, List.set_cons_succ])
  refine wpAnyH_take (i := 6) (v := ?_) rfl (by kernel_rfl) (by kernel_rfl) (by kernel_rfl) (fun _ _ _ h => h) (Or.inl ⟨by rfl, ?_⟩) (by assumption) ?_
  case refine_2 => (intro w hSw; (try dsimp only at hSw); go_simp; (try with_reducible rfl))
  (try simp only [Act.put, List.getElem_toArray, List.getElem_cons_succ, List.getElem_cons_zero, List.setIfInBounds_toArray, List.set_cons_zero, List.set_cons_succ])
  refine wpAnyH_take (i := 7) (v := ?_) rfl (by kernel_rfl) (by kernel_rfl) (by kernel_rfl) (fun _ _ _ h => h) (Or.inl ⟨by rfl, ?_⟩) (by assumption) ?_
  case refine_2 => (intro w hSw; (try dsimp only at hSw); go_simp; (try with_reducible rfl))
  (try simp only [Act.put, List.getElem_toArray, List.getElem_cons_succ, List.getElem_cons_zero, List.setIfInBounds_toArray, List.set_cons_zero, List.set_cons_succ])
  refine wpAnyH_take (i := 8) (v := ?_) rfl (by kernel_rfl) (by kernel_rfl) (by kernel_rfl) (fun _ _ _ h => h) (Or.inl ⟨by rfl, ?_⟩) (by assumption) ?_
  case refine_2 => (intro w hSw; (try dsimp only at hSw); go_simp; (try with_reducible rfl))
  (try simp only [Act.put, List.getElem_toArray, List.getElem_cons_succ, List.getElem_cons_zero, List.setIfInBounds_toArray, List.set_cons_zero, List.set_cons_succ])
  refine wpAnyH_take (i := 9) (v := ?_) rfl (by kernel_rfl) (by kernel_rfl) (by kernel_rfl) (fun _ _ _ h => h) (Or.inl ⟨by rfl, ?_⟩) (by assumption) ?_
  case refine_2 => (intro w hSw; (try dsimp only at hSw); go_simp; (try with_reducible rfl))
  (try simp only [Act.put, List.getElem_toArray, List.getElem_cons_succ, List.getElem_cons_zero, List.setIfInBounds_toArray, List.set_cons_zero, List.set_cons_succ])
  refine wpAnyH_take (i := 10) (v := ?_) rfl (by kernel_rfl) (by kernel_rfl) (by kernel_rfl) (fun _ _ _ h => h) (Or.inl ⟨by rfl, ?_⟩) (by assumption) ?_
  case refine_2 => (intro w hSw; (try dsimp only at hSw); go_simp; (try with_reducible rfl))
  (try simp only [Act.put, List.getElem_toArray, List.getElem_cons_succ, List.getElem_cons_zero, List.setIfInBounds_toArray, List.set_cons_zero, List.set_cons_succ])
  refine wpAnyH_take (i := 11) (v := ?_) rfl (by kernel_rfl) (by kernel_rfl) (by kernel_rfl) (fun _ _ _ h => h) (Or.inl ⟨by rfl, ?_⟩) (by assumption) ?_
  case refine_2 => (intro w hSw; (try dsimp only at hSw); go_simp; (try with_reducible rfl))
  (try simp only [Act.put, List.getElem_toArray, List.getElem_cons_succ, List.getElem_cons_zero, List.setIfInBounds_toArray, List.set_cons_zero, List.set_cons_succ])
  refine wpAnyH_take (i := 12) (v := ?_) rfl (by kernel_rfl) (by kernel_rfl) (by kernel_rfl) (fun _ _ _ h => h) (Or.inl ⟨by rfl, ?_⟩) (by assumption) ?_
  case refine_2 => (intro w hSw; (try dsimp only at hSw); go_simp; (try with_reducible rfl))
  (try simp only [Act.put, List.getElem_toArray, List.getElem_cons_succ, List.getElem_cons_zero, List.setIfInBounds_toArray, List.set_cons_zero, List.set_cons_succ])
  refine wpAnyH_take (i := 13) (v := ?_) rfl (by kernel_rfl) (by kernel_rfl) (by kernel_rfl) (fun _ _ _ h => h) (Or.inl ⟨by rfl, ?_⟩) (by assumption) ?_
  case refine_2 => (intro w hSw; (try dsimp only at hSw); go_simp; (try with_reducible rfl))
  (try simp only [Act.put, List.getElem_toArray, List.getElem_cons_succ, List.getElem_cons_zero, List.setIfInBounds_toArray, List.set_cons_zero, List.set_cons_succ])
  refine wpAnyH_done (by kernel_rfl) ?_ _
  generalize (w.alloc (.cells #[.int .i64 1, .int .i64 A, .int .i64 Bb, .slice X n c] 33)).drew = wD at *
  go_wp2_with (go_at_call 15; refine hD.mono ?_; rintro e w2 ⟨rfl, hw⟩; subst w2; clear hD)
  go_ret
  exact ⟨by first | rfl | simp_all, HN.out _ ((Below.refl _ _).alloc (Nat.le_refl _) _)⟩

theorem set3_turns (w4 : World) (e : Nat) (a b c : Value) : Turns (fun i => i = e) w4 (((w4.setCell ⟨e, 0, none⟩ a).setCell ⟨e, 1, none⟩ b).setCell ⟨e, 2, none⟩ c) :=
  (((Turns.refl (fun i => i = e) w4).setCell (p := ⟨e, 0, none⟩) (.inl rfl) a).setCell (p := ⟨e, 1, none⟩) (.inl rfl) b).setCell (p := ⟨e, 2, none⟩) (.inl rfl) c

set_option maxHeartbeats 4000000 in
theorem deliver_in_free {wD : World} (hd : Pair w0 wD p mb nb q k D R Rl Rp L PP) (hk : k ≤ 1000) (g lc ab j : Nat) (hRl : Rl = .slice (some ⟨g, 0, none⟩) L.length lc) (tbA : Tb wD ab 33) (a1 : wD.cell? ⟨ab, 1, none⟩ = some (.int .i64 (j : Int))) (m : MV) (hm : L[j]? = some m) (ht : prt PP m.fr m.to = false) :
    Calls Try.prog 15 #[.pointer (some ⟨p, 0, none⟩), .int .i64 (j : Int)] wD fun e w2 => ∃ y yn cy, e = .returned (.tuple #[.int .i64 m.fr, .int .i64 m.to, .slice y yn cy, .bool true]) ∧
      ((w2.alloc (.cells #[.int .i64 0, .int .i64 0, .string ⟨#[]⟩] 39)).drew.cell? ⟨q, 0, none⟩ = some (.slice (some ⟨g, 0, none⟩) L.length lc) ∧ (w2.alloc (.cells #[.int .i64 0, .int .i64 0, .string ⟨#[]⟩] 39)).drew.cell? ⟨ab, 1, none⟩ = some (.int .i64 (j : Int))) ∧
      ((w2.alloc (.cells #[.int .i64 0, .int .i64 0, .string ⟨#[]⟩] 39)).drew.cell? ⟨g, j * 3, none⟩ = some (.int .i64 m.fr) ∧ (w2.alloc (.cells #[.int .i64 0, .int .i64 0, .string ⟨#[]⟩] 39)).drew.cell? ⟨g, j * 3 + 1, none⟩ = some (.int .i64 m.to) ∧ (w2.alloc (.cells #[.int .i64 0, .int .i64 0, .string ⟨#[]⟩] 39)).drew.cell? ⟨g, j * 3 + 2, none⟩ = some (.string (str m.d))) ∧
      (w2.alloc (.cells #[.int .i64 m.fr, .int .i64 m.to, .string (str m.d)] 39)).drew.cell? ⟨ab, 1, none⟩ = some (.int .i64 (j : Int)) ∧
      Calls Try.prog 22 #[.pointer (some ⟨q, 0, none⟩), .int .i64 (j : Int)] (w2.alloc (.cells #[.int .i64 m.fr, .int .i64 m.to, .string (str m.d)] 39)).drew fun e w4 => e = .returned (.tuple #[]) ∧
        (w4.cell? ⟨w2.heap.size, 0, none⟩ = some (.int .i64 m.fr) ∧ w4.cell? ⟨w2.heap.size, 1, none⟩ = some (.int .i64 m.to) ∧ w4.cell? ⟨w2.heap.size, 2, none⟩ = some (.string (str m.d)) ∧ (∀ i, w4.frozen? ⟨w2.heap.size, i, none⟩ = false)) ∧
        Calls Try.prog 12 #[.pointer (some ⟨q, 0, none⟩), .int .i64 m.fr, .int .i64 m.to] w4 fun e w5 => e = .returned (.bool false) ∧ w5 = w4 ∧ (convert 31 9 (.slice y yn cy)).run Try.prog w4 = .ok (.string (str m.d)) w4 ∧ Hid (Both w0 w4 p q (k + 1)) := by
  have hj : j < L.length := (List.getElem?_eq_some_iff.1 hm).1
  have hl := hd.hl
  have hmL : (L.map toL)[j]? = some (toL m) := by rw [List.getElem?_map, hm]; rfl
  refine (deliver_free hd.fl j m hm ht).mono fun e w2 ⟨y, cy, e2, H2⟩ => ?_
  obtain ⟨hs2, hy2, R2, f2, t2⟩ := H2.out
  obtain ⟨b2, m2⟩ := hd.flight (nb' := nb) (D' := D) (R' := R2) (L' := L) (S' := prt PP) t2
  have dz : ∀ o, Below w2.heap.size w2 (w2.alloc o).drew := fun o => ((Below.refl _ _).alloc (Nat.le_refl _) _).drew
  have mz := m2.below (dz (.cells #[.int .i64 0, .int .i64 0, .string ⟨#[]⟩] 39))
  have own := mz.l
  have q0 := mz.c0
  rw [hRl] at own q0
  have k0 := own.cell lrow.len hmL (j := 0) (v := .int .i64 m.fr) rfl
  rw [Nat.add_zero] at k0
  have k1 := own.cell lrow.len hmL (j := 1) (v := .int .i64 m.to) rfl
  have k2 := own.cell lrow.len hmL (j := 2) (v := .string (str m.d)) rfl
  have tb2 : Tb w2 ab 33 := tbA.of_heap (t2.block _ tbA.lt (act_kept tbA hd).1)
  have a2 : w2.cell? ⟨ab, 1, none⟩ = some (.int .i64 (j : Int)) := (World.cell?_of_block (a := ⟨ab, 1, none⟩) (t2.block _ tbA.lt (act_kept tbA hd).1)).trans a1
  have az : ∀ o, (w2.alloc o).drew.cell? ⟨ab, 1, none⟩ = some (.int .i64 (j : Int)) := fun o => ((dz o).cell (p := ⟨ab, 1, none⟩) tb2.lt).trans a2
  refine ⟨y, m.n, cy, e2, ⟨q0, az _⟩, ⟨k0, k1, k2⟩, az _, ?_⟩
  have d3 := dz (.cells #[.int .i64 m.fr, .int .i64 m.to, .string (str m.d)] 39)
  have m3 := m2.below d3
  have f3 := f2.below d3
  have b3 := b2.trans (d3.mono b2.size)
  refine (out_any m3 j (by simpa using hj) (by simp; omega)).mono fun e w4 ⟨e4, H4⟩ => ⟨e4, ?_⟩
  obtain ⟨Rl', m4, t4, fr4⟩ := H4.out
  have hsz : (w2.alloc (.cells #[.int .i64 m.fr, .int .i64 m.to, .string (str m.d)] 39)).drew.heap.size = w2.heap.size + 1 := by simp
  have lt2 : ∀ i, gp q Rl Rp i → i < w2.heap.size := fun i hi => by
    rcases (m2.foot i hi).2 with z | z | z <;> exact z.lt
  have ne4 : ¬ gp q Rl Rp w2.heap.size := fun e => by have := lt2 _ e; omega
  have blk4 := t4.block w2.heap.size (by rw [hsz]; omega) ne4
  have hnew : (w2.alloc (.cells #[.int .i64 m.fr, .int .i64 m.to, .string (str m.d)] 39)).drew.heap[w2.heap.size]? = some (.cells #[.int .i64 m.fr, .int .i64 m.to, .string (str m.d)] 39) := heap_alloc_new w2 _
  have hb4 := blk4.trans hnew
  have f4 := f3.apart t4 (fun i hi => apart_ty (m3.foot i hi).2)
  have b4 := b3.trans (t4.below (fun i hi => (m3.foot i hi).1) f3.bw)
  rw [← map_del] at m4
  have hdl := del_len L j hj
  refine ⟨⟨by simp [World.cell?, hb4], by simp [World.cell?, hb4], by simp [World.cell?, hb4], fun i => by simp [World.frozen?, hb4]⟩, (mparted_any m4 m.fr m.to (by have := hd.hp; omega)).mono fun e w5 ⟨e5, hw5⟩ => ?_⟩
  rw [ht] at e5
  have hs4 : Sl w4 y m.n cy m.d := (hs2.below d3).turns t4 (fun _ a ha e => (apart_ty (m3.foot _ e).2).2 (((hy2 a ha).2.1).of_heap (d3.block _ (hy2 a ha).2.1.lt)))
  exact ⟨e5, hw5, conv_sl hs4, mb, nb, D, R2, Rl', Rp, del L j, PP, b4, f4, m4, by omega, Nat.le_succ_of_le hd.hp, Nat.le_succ_of_le hd.hn⟩

set_option maxHeartbeats 4000000 in
theorem deliver_in_parted {wD : World} (hd : Pair w0 wD p mb nb q k D R Rl Rp L PP) (hk : k ≤ 1000) (g lc ab j : Nat) (hRl : Rl = .slice (some ⟨g, 0, none⟩) L.length lc) (tbA : Tb wD ab 33) (a1 : wD.cell? ⟨ab, 1, none⟩ = some (.int .i64 (j : Int))) (m : MV) (hm : L[j]? = some m) (ht : prt PP m.fr m.to = true) :
    Calls Try.prog 15 #[.pointer (some ⟨p, 0, none⟩), .int .i64 (j : Int)] wD fun e w2 => ∃ y yn cy, e = .returned (.tuple #[.int .i64 0, .int .i64 0, .slice y yn cy, .bool false]) ∧
      ((w2.alloc (.cells #[.int .i64 0, .int .i64 0, .string ⟨#[]⟩] 39)).drew.cell? ⟨q, 0, none⟩ = some (.slice (some ⟨g, 0, none⟩) L.length lc) ∧ (w2.alloc (.cells #[.int .i64 0, .int .i64 0, .string ⟨#[]⟩] 39)).drew.cell? ⟨ab, 1, none⟩ = some (.int .i64 (j : Int))) ∧
      ((w2.alloc (.cells #[.int .i64 0, .int .i64 0, .string ⟨#[]⟩] 39)).drew.cell? ⟨g, j * 3, none⟩ = some (.int .i64 m.fr) ∧ (w2.alloc (.cells #[.int .i64 0, .int .i64 0, .string ⟨#[]⟩] 39)).drew.cell? ⟨g, j * 3 + 1, none⟩ = some (.int .i64 m.to) ∧ (w2.alloc (.cells #[.int .i64 0, .int .i64 0, .string ⟨#[]⟩] 39)).drew.cell? ⟨g, j * 3 + 2, none⟩ = some (.string (str m.d))) ∧
      (w2.alloc (.cells #[.int .i64 m.fr, .int .i64 m.to, .string (str m.d)] 39)).drew.cell? ⟨ab, 1, none⟩ = some (.int .i64 (j : Int)) ∧
      Calls Try.prog 22 #[.pointer (some ⟨q, 0, none⟩), .int .i64 (j : Int)] (w2.alloc (.cells #[.int .i64 m.fr, .int .i64 m.to, .string (str m.d)] 39)).drew fun e w4 => e = .returned (.tuple #[]) ∧
        (w4.cell? ⟨w2.heap.size, 0, none⟩ = some (.int .i64 m.fr) ∧ w4.cell? ⟨w2.heap.size, 1, none⟩ = some (.int .i64 m.to) ∧ w4.cell? ⟨w2.heap.size, 2, none⟩ = some (.string (str m.d)) ∧ (∀ i, w4.frozen? ⟨w2.heap.size, i, none⟩ = false)) ∧
        Calls Try.prog 12 #[.pointer (some ⟨q, 0, none⟩), .int .i64 m.fr, .int .i64 m.to] w4 fun e w5 => e = .returned (.bool true) ∧ w5 = w4 ∧ yn = 0 ∧ y = none ∧ cy = 0 ∧ Hid (Both w0 (((w4.setCell ⟨w2.heap.size, 0, none⟩ (.int .i64 0)).setCell ⟨w2.heap.size, 1, none⟩ (.int .i64 0)).setCell ⟨w2.heap.size, 2, none⟩ (.string ⟨#[]⟩)) p q (k + 1)) := by
  have hj : j < L.length := (List.getElem?_eq_some_iff.1 hm).1
  have hl := hd.hl
  have hmL : (L.map toL)[j]? = some (toL m) := by rw [List.getElem?_map, hm]; rfl
  refine (deliver_parted hd.fl j m hm ht).mono fun e w2 ⟨e2, H2⟩ => ?_
  obtain ⟨hs2, hy2, R2, f2, t2⟩ := H2.out
  obtain ⟨b2, m2⟩ := hd.flight (nb' := nb) (D' := D) (R' := R2) (L' := L) (S' := prt PP) t2
  have dz : ∀ o, Below w2.heap.size w2 (w2.alloc o).drew := fun o => ((Below.refl _ _).alloc (Nat.le_refl _) _).drew
  have mz := m2.below (dz (.cells #[.int .i64 0, .int .i64 0, .string ⟨#[]⟩] 39))
  have own := mz.l
  have q0 := mz.c0
  rw [hRl] at own q0
  have k0 := own.cell lrow.len hmL (j := 0) (v := .int .i64 m.fr) rfl
  rw [Nat.add_zero] at k0
  have k1 := own.cell lrow.len hmL (j := 1) (v := .int .i64 m.to) rfl
  have k2 := own.cell lrow.len hmL (j := 2) (v := .string (str m.d)) rfl
  have tb2 : Tb w2 ab 33 := tbA.of_heap (t2.block _ tbA.lt (act_kept tbA hd).1)
  have a2 : w2.cell? ⟨ab, 1, none⟩ = some (.int .i64 (j : Int)) := (World.cell?_of_block (a := ⟨ab, 1, none⟩) (t2.block _ tbA.lt (act_kept tbA hd).1)).trans a1
  have az : ∀ o, (w2.alloc o).drew.cell? ⟨ab, 1, none⟩ = some (.int .i64 (j : Int)) := fun o => ((dz o).cell (p := ⟨ab, 1, none⟩) tb2.lt).trans a2
  refine ⟨none, 0, 0, e2, ⟨q0, az _⟩, ⟨k0, k1, k2⟩, az _, ?_⟩
  have d3 := dz (.cells #[.int .i64 m.fr, .int .i64 m.to, .string (str m.d)] 39)
  have m3 := m2.below d3
  have f3 := f2.below d3
  have b3 := b2.trans (d3.mono b2.size)
  refine (out_any m3 j (by simpa using hj) (by simp; omega)).mono fun e w4 ⟨e4, H4⟩ => ⟨e4, ?_⟩
  obtain ⟨Rl', m4, t4, fr4⟩ := H4.out
  have hsz : (w2.alloc (.cells #[.int .i64 m.fr, .int .i64 m.to, .string (str m.d)] 39)).drew.heap.size = w2.heap.size + 1 := by simp
  have lt2 : ∀ i, gp q Rl Rp i → i < w2.heap.size := fun i hi => by
    rcases (m2.foot i hi).2 with z | z | z <;> exact z.lt
  have ne4 : ¬ gp q Rl Rp w2.heap.size := fun e => by have := lt2 _ e; omega
  have blk4 := t4.block w2.heap.size (by rw [hsz]; omega) ne4
  have hnew : (w2.alloc (.cells #[.int .i64 m.fr, .int .i64 m.to, .string (str m.d)] 39)).drew.heap[w2.heap.size]? = some (.cells #[.int .i64 m.fr, .int .i64 m.to, .string (str m.d)] 39) := heap_alloc_new w2 _
  have hb4 := blk4.trans hnew
  have f4 := f3.apart t4 (fun i hi => apart_ty (m3.foot i hi).2)
  have b4 := b3.trans (t4.below (fun i hi => (m3.foot i hi).1) f3.bw)
  rw [← map_del] at m4
  have hdl := del_len L j hj
  refine ⟨⟨by simp [World.cell?, hb4], by simp [World.cell?, hb4], by simp [World.cell?, hb4], fun i => by simp [World.frozen?, hb4]⟩, (mparted_any m4 m.fr m.to (by have := hd.hp; omega)).mono fun e w5 ⟨e5, hw5⟩ => ?_⟩
  rw [ht] at e5
  have t5 := set3_turns w4 w2.heap.size (.int .i64 0) (.int .i64 0) (.string ⟨#[]⟩)
  have f5 := f4.turns t5 (fun e => by have := f2.obj.lt; omega) (fun e => by have := (map_lt f2.map).1; omega) (fun i hi e => by have := (f2.own.tb hi).2.lt; omega) (fun m' hm' a ha e => by have := ((f2.dat m' hm').tb a ha).lt; omega)
  have m5 := m4.turns t5 (fun i hi e => by
    rcases hi with hi | hi | hi
    · have := m2.obj.lt; omega
    · have := fr4 i hi; rw [hsz] at this; omega
    · have := (m2.p.tb hi).2.lt; omega)
  exact ⟨e5, hw5, rfl, rfl, rfl, mb, nb, D, R2, Rl', Rp, del L j, PP, b4.trans (t5.below (fun i hi => by rw [hi]; exact b2.size) f4.bw), f5, m5, by omega, Nat.le_succ_of_le hd.hp, Nat.le_succ_of_le hd.hn⟩

set_option maxHeartbeats 4000000 in
theorem does_deliver_free (h : Pair w0 w p mb nb q k D R Rl Rp L PP) (hk : k ≤ 1000) (j : Nat) (Bb : Int) (m : MV) (hm : L[j]? = some m) (ht : prt PP m.fr m.to = false) (X : Option Addr) (n c : Nat) (d : List Nat) (hX : Sl w0 X n c d) (hn : n ≤ 140737488351232) :
    Calls Try.prog 9 #[.pointer (some ⟨p, 0, none⟩), .pointer (some ⟨q, 0, none⟩), .agg #[.int .i64 1, .int .i64 (j : Int), .int .i64 Bb, .slice X n c]] w fun e w' => e = .returned (.bool true) ∧ Hid (Both w0 w' p q (k + 1)) := by
  have ba : Below w.heap.size w (w.alloc (.cells #[.int .i64 1, .int .i64 (j : Int), .int .i64 Bb, .slice X n c] 33)) := (Below.refl _ _).alloc (Nat.le_refl _) _
  have bd : Below w.heap.size w (w.alloc (.cells #[.int .i64 1, .int .i64 (j : Int), .int .i64 Bb, .slice X n c] 33)).drew := ba.drew
  have hd := h.below bd
  obtain ⟨lx, lc, hRl, hlc, _, _⟩ := hd.md.l.form
  rw [List.length_map] at hRl hlc
  have s0 := hd.md.c0
  rw [hRl] at s0
  have s1 : (w.alloc (.cells #[.int .i64 1, .int .i64 (j : Int), .int .i64 Bb, .slice X n c] 33)).drew.cell? ⟨w.heap.size, 1, none⟩ = some (.int .i64 (j : Int)) := by simp
  have tbA : Tb (w.alloc (.cells #[.int .i64 1, .int .i64 (j : Int), .int .i64 Bb, .slice X n c] 33)).drew w.heap.size 33 := ⟨_, _, heap_alloc_new w _⟩
  have ca : CellsAt (w.alloc (.cells #[.int .i64 1, .int .i64 (j : Int), .int .i64 Bb, .slice X n c] 33)).drew w.heap.size [.int .i64 1, .int .i64 (j : Int), .int .i64 Bb, .slice X n c] := fun j u hj => by
    match j, hj with
    | 0, hj => simpa using hj
    | 1, hj => simpa using hj
    | 2, hj => simpa using hj
    | 3, hj => simpa using hj
    | j + 4, hj => simp at hj
  have hj : j < L.length := (List.getElem?_eq_some_iff.1 hm).1
  obtain ⟨g, hg⟩ : ∃ g, lx = some ⟨g, 0, none⟩ := by
    obtain ⟨g, c', e, _⟩ := hd.md.l.there (by intro e; have := congrArg List.length e; simp at this; rw [this] at hj; simp at hj)
    rw [hRl] at e
    injection e with e _ _
    exact ⟨g, e⟩
  subst hg
  have hD := deliver_in_free hd hk g lc w.heap.size j hRl tbA s1 m hm ht
  have a0 : (w.alloc (.cells #[.int .i64 1, .int .i64 (j : Int), .int .i64 Bb, .slice X n c] 33)).drew.cell? ⟨w.heap.size, 0, none⟩ = some (.int .i64 1) := ca 0 _ rfl
  have hj0 : (0 : Int) ≤ (j : Int) := by omega
  have hjz : (j : Int) < (L.length : Int) := by omega
  have hcv : ∀ v : World, (convert 31 9 (.slice none 0 0)).run Try.prog v = .ok (.string ⟨#[]⟩) v := fun v => conv_sl (Sl.empty v)
  clear h hd hRl ba bd hX tbA hj hm ca ht
  generalize m.fr = mf at *
  generalize m.to = mt at *
  generalize str m.d = ms at *
  go_enter Try.func9, Try.ntmps9
  go_wp2_with fail
  refine wp_region_held_drew (S := fun v => v.cell? ⟨q, 0, none⟩ = some (.slice (some ⟨g, 0, none⟩) L.length lc) ∧ v.cell? ⟨w.heap.size, 1, none⟩ = some (.int .i64 (j : Int))) (by kernel_rfl) ⟨s0, s1⟩ (fun hHeld => ?_)
  refine wpAnyH_take (i := 0) (v := ?_) rfl (by kernel_rfl) (by kernel_rfl) (by kernel_rfl) (fun _ _ _ h => h) (Or.inl ⟨by rfl, ?_⟩) (by assumption) ?_
  case refine_2 => (intro w hSw; (try dsimp only at hSw); go_simp; (try with_reducible rfl))
  (try simp only [Act.put, List.getElem_toArray, List.getElem_cons_succ, List.getElem_cons_zero, List.setIfInBounds_toArray, List.set_cons_zero, List.set_cons_succ])
  refine wpAnyH_take (i := 1) (v := ?_) rfl (by kernel_rfl) (by kernel_rfl) (by kernel_rfl) (fun _ _ _ h => h) (Or.inl ⟨by rfl, ?_⟩) (by assumption) ?_
  case refine_2 => (intro w hSw; (try dsimp only at hSw); go_simp; (try with_reducible rfl))
  (try simp only [Act.put, List.getElem_toArray, List.getElem_cons_succ, List.getElem_cons_zero, List.setIfInBounds_toArray, List.set_cons_zero, List.set_cons_succ])
  refine wpAnyH_take (i := 2) (v := ?_) rfl (by kernel_rfl) (by kernel_rfl) (by kernel_rfl) (fun _ _ _ h => h) (Or.inl ⟨by rfl, ?_⟩) (by assumption) ?_
  case refine_2 => (intro w hSw; (try dsimp only at hSw); go_simp; (try with_reducible rfl))
  (try simp only [Act.put, List.getElem_toArray, List.getElem_cons_succ, List.getElem_cons_zero, List.setIfInBounds_toArray, List.set_cons_zero, List.set_cons_succ])
  refine wpAnyH_take (i := 3) (v := ?_) rfl (by kernel_rfl) (by kernel_rfl) (by kernel_rfl) (fun _ _ _ h => h) (Or.inl ⟨by rfl, ?_⟩) (by assumption) ?_
  case refine_2 => (intro w hSw; (try dsimp only at hSw); go_simp; (try with_reducible rfl))
  (try simp only [Act.put, List.getElem_toArray, List.getElem_cons_succ, List.getElem_cons_zero, List.setIfInBounds_toArray, List.set_cons_zero, List.set_cons_succ])
  refine wpAnyH_take (i := 4) (v := ?_) rfl (by kernel_rfl) (by kernel_rfl) (by kernel_rfl) (fun _ _ _ h => h) (Or.inl ⟨by rfl, ?_⟩) (by assumption) ?_
  case refine_2 => (intro w hSw; (try dsimp only at hSw); go_simp; (try with_reducible rfl))
  (try simp only [Act.put, List.getElem_toArray, List.getElem_cons_succ, List.getElem_cons_zero, List.setIfInBounds_toArray, List.set_cons_zero, List.set_cons_succ])
  refine wpAnyH_take (i := 5) (v := ?_) rfl (by kernel_rfl) (by kernel_rfl) (by kernel_rfl) (fun _ _ _ h => h) (Or.inl ⟨by rfl, ?_⟩) (by assumption) ?_
  case refine_2 => (intro w hSw; (try dsimp only at hSw); go_simp; (try with_reducible rfl))
  (try simp only [Act.put, List.getElem_toArray, List.getElem_cons_succ, List.getElem_cons_zero, List.setIfInBounds_toArray, List.set_cons_zero, List.set_cons_succ])
  refine wpAnyH_take (i := 6) (v := ?_) rfl (by kernel_rfl) (by kernel_rfl) (by kernel_rfl) (fun _ _ _ h => h) (Or.inl ⟨by rfl, ?_⟩) (by assumption) ?_
  case refine_2 => (intro w hSw; (try dsimp only at hSw); go_simp; (try with_reducible rfl))
  (try simp only [Act.put, List.getElem_toArray, List.getElem_cons_succ, List.getElem_cons_zero, List.setIfInBounds_toArray, List.set_cons_zero, List.set_cons_succ])
  refine wpAnyH_take (i := 7) (v := ?_) rfl (by kernel_rfl) (by kernel_rfl) (by kernel_rfl) (fun _ _ _ h => h) (Or.inl ⟨by rfl, ?_⟩) (by assumption) ?_
  case refine_2 => (intro w hSw; (try dsimp only at hSw); go_simp; (try with_reducible rfl))
  (try simp only [Act.put, List.getElem_toArray, List.getElem_cons_succ, List.getElem_cons_zero, List.setIfInBounds_toArray, List.set_cons_zero, List.set_cons_succ])
  refine wpAnyH_take (i := 8) (v := ?_) rfl (by kernel_rfl) (by kernel_rfl) (by kernel_rfl) (fun _ _ _ h => h) (Or.inl ⟨by rfl, ?_⟩) (by assumption) ?_
  case refine_2 => (intro w hSw; (try dsimp only at hSw); go_simp; (try with_reducible rfl))
  (try simp only [Act.put, List.getElem_toArray, List.getElem_cons_succ, List.getElem_cons_zero, List.setIfInBounds_toArray, List.set_cons_zero, List.set_cons_succ])
  refine wpAnyH_take (i := 9) (v := ?_) rfl (by kernel_rfl) (by kernel_rfl) (by kernel_rfl) (fun _ _ _ h => h) (Or.inl ⟨by rfl, ?_⟩) (by assumption) ?_
  case refine_2 => (intro w hSw; (try dsimp only at hSw); go_simp; (try with_reducible rfl))
  (try simp only [Act.put, List.getElem_toArray, List.getElem_cons_succ, List.getElem_cons_zero, List.setIfInBounds_toArray, List.set_cons_zero, List.set_cons_succ])
  refine wpAnyH_take (i := 10) (v := ?_) rfl (by kernel_rfl) (by kernel_rfl) (by kernel_rfl) (fun _ _ _ h => h) (Or.inl ⟨by rfl, ?_⟩) (by assumption) ?_
  case refine_2 => (intro w hSw; (try dsimp only at hSw); go_simp; (try with_reducible rfl))
  (try simp only [Act.put, List.getElem_toArray, List.getElem_cons_succ, List.getElem_cons_zero, List.setIfInBounds_toArray, List.set_cons_zero, List.set_cons_succ])
  refine wpAnyH_take (i := 11) (v := ?_) rfl (by kernel_rfl) (by kernel_rfl) (by kernel_rfl) (fun _ _ _ h => h) (Or.inl ⟨by rfl, ?_⟩) (by assumption) ?_
  case refine_2 => (intro w hSw; (try dsimp only at hSw); go_simp; (try with_reducible rfl))
  (try simp only [Act.put, List.getElem_toArray, List.getElem_cons_succ, List.getElem_cons_zero, List.setIfInBounds_toArray, List.set_cons_zero, List.set_cons_succ])
  refine wpAnyH_take (i := 12) (v := ?_) rfl (by kernel_rfl) (by kernel_rfl) (by kernel_rfl) (fun _ _ _ h => h) (Or.inl ⟨by rfl, ?_⟩) (by assumption) ?_
  case refine_2 => (intro w hSw; (try dsimp only at hSw); go_simp; (try with_reducible rfl))
  (try simp only [Act.put, List.getElem_toArray, List.getElem_cons_succ, List.getElem_cons_zero, List.setIfInBounds_toArray, List.set_cons_zero, List.set_cons_succ])
  refine wpAnyH_take (i := 13) (v := ?_) rfl (by kernel_rfl) (by kernel_rfl) (by kernel_rfl) (fun _ _ _ h => h) (Or.inl ⟨by rfl, ?_⟩) (by assumption) ?_
  case refine_2 => (intro w hSw; (try dsimp only at hSw); go_simp; (try with_reducible rfl))
  (try simp only [Act.put, List.getElem_toArray, List.getElem_cons_succ, List.getElem_cons_zero, List.setIfInBounds_toArray, List.set_cons_zero, List.set_cons_succ])
  refine wpAnyH_done (by kernel_rfl) ?_ _
  generalize (w.alloc (.cells #[.int .i64 1, .int .i64 (j : Int), .int .i64 Bb, .slice X n c] 33)).drew = wD at *
  go_wp2_with (go_at_call 15; refine hD.mono ?_; rintro e w2 ⟨y, yn, cy, rfl, S1, ⟨k0, k1, k2⟩, a2, hO⟩; clear hD)
  refine wp_region_last (fun v => v.cell? ⟨q, 0, none⟩ = some (.slice (some ⟨g, 0, none⟩) L.length lc) ∧ v.cell? ⟨w.heap.size, 1, none⟩ = some (.int .i64 (j : Int))) 8 (by kernel_rfl) S1 (fun hS => ?_)
  refine wpAnyL_take (i := 0) (v := ?_) rfl (by kernel_rfl) (by kernel_rfl) (by kernel_rfl) (by kernel_rfl) (fun _ _ _ h => h) hS (Or.inl ⟨by rfl, ?_⟩) ?_
  case refine_2 => (intro w hSw; (try dsimp only at hSw); go_simp; (try with_reducible rfl))
  (try simp only [Act.put, List.setIfInBounds_toArray, List.set_cons_zero, List.set_cons_succ])
  refine wpAnyL_take (i := 1) (v := ?_) rfl (by kernel_rfl) (by kernel_rfl) (by kernel_rfl) (by kernel_rfl) (fun _ _ _ h => h) hS (Or.inl ⟨by rfl, ?_⟩) ?_
  case refine_2 => (intro w hSw; (try dsimp only at hSw); go_simp; (try with_reducible rfl))
  (try simp only [Act.put, List.setIfInBounds_toArray, List.set_cons_zero, List.set_cons_succ])
  refine wpAnyL_take (i := 2) (v := ?_) rfl (by kernel_rfl) (by kernel_rfl) (by kernel_rfl) (by kernel_rfl) (fun _ _ _ h => h) hS (Or.inl ⟨by rfl, ?_⟩) ?_
  case refine_2 => (intro w hSw; (try dsimp only at hSw); go_simp; (try with_reducible rfl))
  (try simp only [Act.put, List.setIfInBounds_toArray, List.set_cons_zero, List.set_cons_succ])
  refine wpAnyL_take (i := 3) (v := ?_) rfl (by kernel_rfl) (by kernel_rfl) (by kernel_rfl) (by kernel_rfl) (fun _ _ _ h => h) hS (Or.inl ⟨by rfl, ?_⟩) ?_
  case refine_2 => (intro w hSw; (try dsimp only at hSw); go_simp; (try with_reducible rfl))
  (try simp only [Act.put, List.setIfInBounds_toArray, List.set_cons_zero, List.set_cons_succ])
  refine wpAnyL_take (i := 4) (v := ?_) rfl (by kernel_rfl) (by kernel_rfl) (by kernel_rfl) (by kernel_rfl) (fun _ _ _ h => h) hS (Or.inl ⟨by rfl, ?_⟩) ?_
  case refine_2 => (intro w hSw; (try dsimp only at hSw); go_simp; (try with_reducible rfl))
  (try simp only [Act.put, List.setIfInBounds_toArray, List.set_cons_zero, List.set_cons_succ])
  refine wpAnyL_take (i := 5) (v := ?_) rfl (by kernel_rfl) (by kernel_rfl) (by kernel_rfl) (by kernel_rfl) (fun _ _ _ h => h) hS (Or.inl ⟨by rfl, ?_⟩) ?_
  case refine_2 => (intro w hSw; (try dsimp only at hSw); go_simp; (try with_reducible rfl))
  (try simp only [Act.put, List.setIfInBounds_toArray, List.set_cons_zero, List.set_cons_succ])
  refine wpAnyL_take (i := 6) (v := ?_) rfl (by kernel_rfl) (by kernel_rfl) (by kernel_rfl) (by kernel_rfl) (fun _ _ _ h => h) hS (Or.inl ⟨by rfl, ?_⟩) ?_
  case refine_2 => (intro w hSw; (try dsimp only at hSw); go_simp; (try with_reducible rfl))
  (try simp only [Act.put, List.setIfInBounds_toArray, List.set_cons_zero, List.set_cons_succ])
  refine wpAnyL_one (i := 7) (by kernel_rfl) rfl (fun K hK => ?_)
  go_simp
  refine hK.out _ _ (fun _ => S1) ?_
  clear hK K
  refine wpAnyL_one (i := 8) (by kernel_rfl) rfl (fun K hK => ?_)
  go_simp
  refine hK.out _ _ (fun h => absurd rfl h) ?_
  clear hK K
  refine wpAnyL_done (by kernel_rfl) ?_ _
  go_wp2_with (first
    | (go_at_call 22; refine hO.mono ?_; rintro e w4 ⟨rfl, ⟨e0, e1, e2, ef⟩, hM⟩; clear hO)
    | (go_at_call 12; refine hM.mono ?_; rintro e w5 ⟨rfl, hw, hv, HN⟩; subst w5; clear hM))
  go_ret
  exact ⟨by first | rfl | simp_all, HN.out⟩

set_option maxHeartbeats 4000000 in
theorem does_deliver_parted (h : Pair w0 w p mb nb q k D R Rl Rp L PP) (hk : k ≤ 1000) (j : Nat) (Bb : Int) (m : MV) (hm : L[j]? = some m) (ht : prt PP m.fr m.to = true) (X : Option Addr) (n c : Nat) (d : List Nat) (hX : Sl w0 X n c d) (hn : n ≤ 140737488351232) :
    Calls Try.prog 9 #[.pointer (some ⟨p, 0, none⟩), .pointer (some ⟨q, 0, none⟩), .agg #[.int .i64 1, .int .i64 (j : Int), .int .i64 Bb, .slice X n c]] w fun e w' => e = .returned (.bool true) ∧ Hid (Both w0 w' p q (k + 1)) := by
  have ba : Below w.heap.size w (w.alloc (.cells #[.int .i64 1, .int .i64 (j : Int), .int .i64 Bb, .slice X n c] 33)) := (Below.refl _ _).alloc (Nat.le_refl _) _
  have bd : Below w.heap.size w (w.alloc (.cells #[.int .i64 1, .int .i64 (j : Int), .int .i64 Bb, .slice X n c] 33)).drew := ba.drew
  have hd := h.below bd
  obtain ⟨lx, lc, hRl, hlc, _, _⟩ := hd.md.l.form
  rw [List.length_map] at hRl hlc
  have s0 := hd.md.c0
  rw [hRl] at s0
  have s1 : (w.alloc (.cells #[.int .i64 1, .int .i64 (j : Int), .int .i64 Bb, .slice X n c] 33)).drew.cell? ⟨w.heap.size, 1, none⟩ = some (.int .i64 (j : Int)) := by simp
  have tbA : Tb (w.alloc (.cells #[.int .i64 1, .int .i64 (j : Int), .int .i64 Bb, .slice X n c] 33)).drew w.heap.size 33 := ⟨_, _, heap_alloc_new w _⟩
  have ca : CellsAt (w.alloc (.cells #[.int .i64 1, .int .i64 (j : Int), .int .i64 Bb, .slice X n c] 33)).drew w.heap.size [.int .i64 1, .int .i64 (j : Int), .int .i64 Bb, .slice X n c] := fun j u hj => by
    match j, hj with
    | 0, hj => simpa using hj
    | 1, hj => simpa using hj
    | 2, hj => simpa using hj
    | 3, hj => simpa using hj
    | j + 4, hj => simp at hj
  have hj : j < L.length := (List.getElem?_eq_some_iff.1 hm).1
  obtain ⟨g, hg⟩ : ∃ g, lx = some ⟨g, 0, none⟩ := by
    obtain ⟨g, c', e, _⟩ := hd.md.l.there (by intro e; have := congrArg List.length e; simp at this; rw [this] at hj; simp at hj)
    rw [hRl] at e
    injection e with e _ _
    exact ⟨g, e⟩
  subst hg
  have hD := deliver_in_parted hd hk g lc w.heap.size j hRl tbA s1 m hm ht
  have a0 : (w.alloc (.cells #[.int .i64 1, .int .i64 (j : Int), .int .i64 Bb, .slice X n c] 33)).drew.cell? ⟨w.heap.size, 0, none⟩ = some (.int .i64 1) := ca 0 _ rfl
  have hj0 : (0 : Int) ≤ (j : Int) := by omega
  have hjz : (j : Int) < (L.length : Int) := by omega
  have hcv : ∀ v : World, (convert 31 9 (.slice none 0 0)).run Try.prog v = .ok (.string ⟨#[]⟩) v := fun v => conv_sl (Sl.empty v)
  clear h hd hRl ba bd hX tbA hj hm ca ht
  generalize m.fr = mf at *
  generalize m.to = mt at *
  generalize str m.d = ms at *
  go_enter Try.func9, Try.ntmps9
  go_wp2_with fail
  refine wp_region_held_drew (S := fun v => v.cell? ⟨q, 0, none⟩ = some (.slice (some ⟨g, 0, none⟩) L.length lc) ∧ v.cell? ⟨w.heap.size, 1, none⟩ = some (.int .i64 (j : Int))) (by kernel_rfl) ⟨s0, s1⟩ (fun hHeld => ?_)
  refine wpAnyH_take (i := 0) (v := ?_) rfl (by kernel_rfl) (by kernel_rfl) (by kernel_rfl) (fun _ _ _ h => h) (Or.inl ⟨by rfl, ?_⟩) (by assumption) ?_
  case refine_2 => (intro w hSw; (try dsimp only at hSw); go_simp; (try with_reducible rfl))
  (try simp only [Act.put, List.getElem_toArray, List.getElem_cons_succ, List.getElem_cons_zero, List.setIfInBounds_toArray, List.set_cons_zero, List.set_cons_succ])
  refine wpAnyH_take (i := 1) (v := ?_) rfl (by kernel_rfl) (by kernel_rfl) (by kernel_rfl) (fun _ _ _ h => h) (Or.inl ⟨by rfl, ?_⟩) (by assumption) ?_
  case refine_2 => (intro w hSw; (try dsimp only at hSw); go_simp; (try with_reducible rfl))
  (try simp only [Act.put, List.getElem_toArray, List.getElem_cons_succ, List.getElem_cons_zero, List.setIfInBounds_toArray, List.set_cons_zero, List.set_cons_succ])
  refine wpAnyH_take (i := 2) (v := ?_) rfl (by kernel_rfl) (by kernel_rfl) (by kernel_rfl) (fun _ _ _ h => h) (Or.inl ⟨by rfl, ?_⟩) (by assumption) ?_
  case refine_2 => (intro w hSw; (try dsimp only at hSw); go_simp; (try with_reducible rfl))
  (try simp only [Act.put, List.getElem_toArray, List.getElem_cons_succ, List.getElem_cons_zero, List.setIfInBounds_toArray, List.set_cons_zero, List.set_cons_succ])
  refine wpAnyH_take (i := 3) (v := ?_) rfl (by kernel_rfl) (by kernel_rfl) (by kernel_rfl) (fun _ _ _ h => h) (Or.inl ⟨by rfl, ?_⟩) (by assumption) ?_
  case refine_2 => (intro w hSw; (try dsimp only at hSw); go_simp; (try with_reducible rfl))
  (try simp only [Act.put, List.getElem_toArray, List.getElem_cons_succ, List.getElem_cons_zero, List.setIfInBounds_toArray, List.set_cons_zero, List.set_cons_succ])
  refine wpAnyH_take (i := 4) (v := ?_) rfl (by kernel_rfl) (by kernel_rfl) (by kernel_rfl) (fun _ _ _ h => h) (Or.inl ⟨by rfl, ?_⟩) (by assumption) ?_
  case refine_2 => (intro w hSw; (try dsimp only at hSw); go_simp; (try with_reducible rfl))
  (try simp only [Act.put, List.getElem_toArray, List.getElem_cons_succ, List.getElem_cons_zero, List.setIfInBounds_toArray, List.set_cons_zero, List.set_cons_succ])
  refine wpAnyH_take (i := 5) (v := ?_) rfl (by kernel_rfl) (by kernel_rfl) (by kernel_rfl) (fun _ _ _ h => h) (Or.inl ⟨by rfl, ?_⟩) (by assumption) ?_
  case refine_2 => (intro w hSw; (try dsimp only at hSw); go_simp; (try with_reducible rfl))
  (try simp only [Act.put, List.getElem_toArray, List.getElem_cons_succ, List.getElem_cons_zero, List.setIfInBounds_toArray, List.set_cons_zero, List.set_cons_succ])
  refine wpAnyH_take (i := 6) (v := ?_) rfl (by kernel_rfl) (by kernel_rfl) (by kernel_rfl) (fun _ _ _ h => h) (Or.inl ⟨by rfl, ?_⟩) (by assumption) ?_
  case refine_2 => (intro w hSw; (try dsimp only at hSw); go_simp; (try with_reducible rfl))
  (try simp only [Act.put, List.getElem_toArray, List.getElem_cons_succ, List.getElem_cons_zero, List.setIfInBounds_toArray, List.set_cons_zero, List.set_cons_succ])
  refine wpAnyH_take (i := 7) (v := ?_) rfl (by kernel_rfl) (by kernel_rfl) (by kernel_rfl) (fun _ _ _ h => h) (Or.inl ⟨by rfl, ?_⟩) (by assumption) ?_
  case refine_2 => (intro w hSw; (try dsimp only at hSw); go_simp; (try with_reducible rfl))
  (try simp only [Act.put, List.getElem_toArray, List.getElem_cons_succ, List.getElem_cons_zero, List.setIfInBounds_toArray, List.set_cons_zero, List.set_cons_succ])
  refine wpAnyH_take (i := 8) (v := ?_) rfl (by kernel_rfl) (by kernel_rfl) (by kernel_rfl) (fun _ _ _ h => h) (Or.inl ⟨by rfl, ?_⟩) (by assumption) ?_
  case refine_2 => (intro w hSw; (try dsimp only at hSw); go_simp; (try with_reducible rfl))
  (try simp only [Act.put, List.getElem_toArray, List.getElem_cons_succ, List.getElem_cons_zero, List.setIfInBounds_toArray, List.set_cons_zero, List.set_cons_succ])
  refine wpAnyH_take (i := 9) (v := ?_) rfl (by kernel_rfl) (by kernel_rfl) (by kernel_rfl) (fun _ _ _ h => h) (Or.inl ⟨by rfl, ?_⟩) (by assumption) ?_
  case refine_2 => (intro w hSw; (try dsimp only at hSw); go_simp; (try with_reducible rfl))
  (try simp only [Act.put, List.getElem_toArray, List.getElem_cons_succ, List.getElem_cons_zero, List.setIfInBounds_toArray, List.set_cons_zero, List.set_cons_succ])
  refine wpAnyH_take (i := 10) (v := ?_) rfl (by kernel_rfl) (by kernel_rfl) (by kernel_rfl) (fun _ _ _ h => h) (Or.inl ⟨by rfl, ?_⟩) (by assumption) ?_
  case refine_2 => (intro w hSw; (try dsimp only at hSw); go_simp; (try with_reducible rfl))
  (try simp only [Act.put, List.getElem_toArray, List.getElem_cons_succ, List.getElem_cons_zero, List.setIfInBounds_toArray, List.set_cons_zero, List.set_cons_succ])
  refine wpAnyH_take (i := 11) (v := ?_) rfl (by kernel_rfl) (by kernel_rfl) (by kernel_rfl) (fun _ _ _ h => h) (Or.inl ⟨by rfl, ?_⟩) (by assumption) ?_
  case refine_2 => (intro w hSw; (try dsimp only at hSw); go_simp; (try with_reducible rfl))
  (try simp only [Act.put, List.getElem_toArray, List.getElem_cons_succ, List.getElem_cons_zero, List.setIfInBounds_toArray, List.set_cons_zero, List.set_cons_succ])
  refine wpAnyH_take (i := 12) (v := ?_) rfl (by kernel_rfl) (by kernel_rfl) (by kernel_rfl) (fun _ _ _ h => h) (Or.inl ⟨by rfl, ?_⟩) (by assumption) ?_
  case refine_2 => (intro w hSw; (try dsimp only at hSw); go_simp; (try with_reducible rfl))
  (try simp only [Act.put, List.getElem_toArray, List.getElem_cons_succ, List.getElem_cons_zero, List.setIfInBounds_toArray, List.set_cons_zero, List.set_cons_succ])
  refine wpAnyH_take (i := 13) (v := ?_) rfl (by kernel_rfl) (by kernel_rfl) (by kernel_rfl) (fun _ _ _ h => h) (Or.inl ⟨by rfl, ?_⟩) (by assumption) ?_
  case refine_2 => (intro w hSw; (try dsimp only at hSw); go_simp; (try with_reducible rfl))
  (try simp only [Act.put, List.getElem_toArray, List.getElem_cons_succ, List.getElem_cons_zero, List.setIfInBounds_toArray, List.set_cons_zero, List.set_cons_succ])
  refine wpAnyH_done (by kernel_rfl) ?_ _
  generalize (w.alloc (.cells #[.int .i64 1, .int .i64 (j : Int), .int .i64 Bb, .slice X n c] 33)).drew = wD at *
  go_wp2_with (go_at_call 15; refine hD.mono ?_; rintro e w2 ⟨y, yn, cy, rfl, S1, ⟨k0, k1, k2⟩, a2, hO⟩; clear hD)
  refine wp_region_last (fun v => v.cell? ⟨q, 0, none⟩ = some (.slice (some ⟨g, 0, none⟩) L.length lc) ∧ v.cell? ⟨w.heap.size, 1, none⟩ = some (.int .i64 (j : Int))) 8 (by kernel_rfl) S1 (fun hS => ?_)
  refine wpAnyL_take (i := 0) (v := ?_) rfl (by kernel_rfl) (by kernel_rfl) (by kernel_rfl) (by kernel_rfl) (fun _ _ _ h => h) hS (Or.inl ⟨by rfl, ?_⟩) ?_
  case refine_2 => (intro w hSw; (try dsimp only at hSw); go_simp; (try with_reducible rfl))
  (try simp only [Act.put, List.setIfInBounds_toArray, List.set_cons_zero, List.set_cons_succ])
  refine wpAnyL_take (i := 1) (v := ?_) rfl (by kernel_rfl) (by kernel_rfl) (by kernel_rfl) (by kernel_rfl) (fun _ _ _ h => h) hS (Or.inl ⟨by rfl, ?_⟩) ?_
  case refine_2 => (intro w hSw; (try dsimp only at hSw); go_simp; (try with_reducible rfl))
  (try simp only [Act.put, List.setIfInBounds_toArray, List.set_cons_zero, List.set_cons_succ])
  refine wpAnyL_take (i := 2) (v := ?_) rfl (by kernel_rfl) (by kernel_rfl) (by kernel_rfl) (by kernel_rfl) (fun _ _ _ h => h) hS (Or.inl ⟨by rfl, ?_⟩) ?_
  case refine_2 => (intro w hSw; (try dsimp only at hSw); go_simp; (try with_reducible rfl))
  (try simp only [Act.put, List.setIfInBounds_toArray, List.set_cons_zero, List.set_cons_succ])
  refine wpAnyL_take (i := 3) (v := ?_) rfl (by kernel_rfl) (by kernel_rfl) (by kernel_rfl) (by kernel_rfl) (fun _ _ _ h => h) hS (Or.inl ⟨by rfl, ?_⟩) ?_
  case refine_2 => (intro w hSw; (try dsimp only at hSw); go_simp; (try with_reducible rfl))
  (try simp only [Act.put, List.setIfInBounds_toArray, List.set_cons_zero, List.set_cons_succ])
  refine wpAnyL_take (i := 4) (v := ?_) rfl (by kernel_rfl) (by kernel_rfl) (by kernel_rfl) (by kernel_rfl) (fun _ _ _ h => h) hS (Or.inl ⟨by rfl, ?_⟩) ?_
  case refine_2 => (intro w hSw; (try dsimp only at hSw); go_simp; (try with_reducible rfl))
  (try simp only [Act.put, List.setIfInBounds_toArray, List.set_cons_zero, List.set_cons_succ])
  refine wpAnyL_take (i := 5) (v := ?_) rfl (by kernel_rfl) (by kernel_rfl) (by kernel_rfl) (by kernel_rfl) (fun _ _ _ h => h) hS (Or.inl ⟨by rfl, ?_⟩) ?_
  case refine_2 => (intro w hSw; (try dsimp only at hSw); go_simp; (try with_reducible rfl))
  (try simp only [Act.put, List.setIfInBounds_toArray, List.set_cons_zero, List.set_cons_succ])
  refine wpAnyL_take (i := 6) (v := ?_) rfl (by kernel_rfl) (by kernel_rfl) (by kernel_rfl) (by kernel_rfl) (fun _ _ _ h => h) hS (Or.inl ⟨by rfl, ?_⟩) ?_
  case refine_2 => (intro w hSw; (try dsimp only at hSw); go_simp; (try with_reducible rfl))
  (try simp only [Act.put, List.setIfInBounds_toArray, List.set_cons_zero, List.set_cons_succ])
  refine wpAnyL_one (i := 7) (by kernel_rfl) rfl (fun K hK => ?_)
  go_simp
  refine hK.out _ _ (fun _ => S1) ?_
  clear hK K
  refine wpAnyL_one (i := 8) (by kernel_rfl) rfl (fun K hK => ?_)
  go_simp
  refine hK.out _ _ (fun h => absurd rfl h) ?_
  clear hK K
  refine wpAnyL_done (by kernel_rfl) ?_ _
  go_wp2_with (first
    | (go_at_call 22; refine hO.mono ?_; rintro e w4 ⟨rfl, ⟨e0, e1, e2, ef⟩, hM⟩; clear hO)
    | (go_at_call 12; refine hM.mono ?_; rintro e w5 ⟨rfl, hw, hy0, hy1, hy2, HN⟩; subst w5; subst hy0; subst hy1; subst hy2; clear hM))
  go_ret
  exact ⟨by first | rfl | simp_all, HN.out⟩

end

end Go.Proofs.Ytmekbbddfmmbeaa.Fl
