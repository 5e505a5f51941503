/-
  The document's bytes: bit, putOsd, Encode, EncodeChange.
  Conditions: lists lie in memory.
-/
import Derived.Test.YtnddhlkdemibgaaJ08
import Derived.Test.YtnddhlkdemibgaaJ10
import Derived.Test.YtnddhlkdemibgaaJ12
namespace Go.Proofs.Ytnddhlkdemibgaa.At
open Go.RowKit By Fl Wi
set_option linter.unusedVariables false
set_option linter.unusedSimpArgs false
set_option maxRecDepth 100000

theorem bit_any (b : Bool) (w : World) : Calls Try.prog 70 #[.bool b] w fun e w' => e = .returned (.int .i64 (bitI b)) ∧ w' = w := by
  unfold bitI
  cases b with
  | true =>
    go_enter Try.func70, Try.ntmps70
    go_wp2_with fail
    go_ret
    exact ⟨rfl, rfl⟩
  | false =>
    go_enter Try.func70, Try.ntmps70
    go_wp2_with fail
    go_ret
    exact ⟨rfl, rfl⟩

section
variable {w w1 w' : World} {B : Nat} {R b R' : Value} {l l' : List Nat}

theorem PutAt.from (h : PutAt w1 w' B R R' l) (hb : Below w.heap.size w w1) : PutAt w w' B R R' l :=
  ⟨h.own, (Turns.of_below hb).trans h.turns, fun g hg => (h.new g hg).imp id (fun q => Nat.le_trans hb.size q)⟩

theorem PutAt.trans (h : PutAt w w1 B R b l) (k : PutAt w1 w' B b R' l') : PutAt w w' B R R' l' :=
  ⟨k.own, h.turns.more k.turns (fun i hi => h.new i hi), fun g hg => by
    rcases k.new g hg with q | q
    · exact h.new g q
    · exact .inr (Nat.le_trans h.turns.size q)⟩

theorem PutAt.below (h : PutAt w w' B R b l) (hb : Below w'.heap.size w' w1) : PutAt w w1 B R b l :=
  ⟨h.own.below hb, h.turns.trans (Turns.of_below hb), h.new⟩

theorem PutAt.start (w : World) (B : Nat) : PutAt w w B (.slice none 0 0) (.slice none 0 0) [] := ⟨OwnL.start _ _, Turns.refl _ _, fun g hg => .inl hg⟩

theorem PutAt.nil (h : PutAt w w' B (.slice none 0 0) R' l) : Below w.heap.size w w' := h.turns.below (B := w.heap.size) (fun k hk => by cases hk) (Nat.le_refl _)

theorem own_lt (h : OwnL w B R l) : ∀ g, R.ownBlock = some g → g < w.heap.size := fun g hg => by
  exact (World.ownsRow.lt h g hg).2
end

set_option maxHeartbeats 1600000 in
theorem putOsd_any {w : World} {B : Nat} {R : Value} {pre : List Nat} (o : Osd) (hR : OwnL w B R pre) (hB : B ≤ w.heap.size) (hv : ∀ v ∈ partsP o, 0 ≤ v ∧ v ≤ 2147483647) (hp : pre.length ≤ 90000) :
    Calls Try.prog 46 #[R, vO o] w fun e w' => ∃ R', e = .returned R' ∧ Hid (PutAt w w' B R R' (pre ++ wrB (partsP o))) := by
  have hT := fun b W => bit_any b W
  have hRlt := own_lt hR
  have hPt := fun (W : World) (x : Option Addr) (h1 : OwnL W B R pre) (h2 : B ≤ W.heap.size) (h3 : Is W x 8 8 (partsP o)) (h4 : ∀ a, x = some a → ¬ R.ownBlock = some a.block) => rput_any h1 h2 h3 hv (by omega) (by omega) h4
  have HR := hid hR
  have HB := hid hB
  have HLt := hid hRlt
  clear hv hp hR hB hRlt
  obtain ⟨i0, i1, i2, i3, i4, i5, i6, i7⟩ := o
  unfold vO partsP at *
  dsimp only at hPt ⊢
  obtain ⟨w0, hw0⟩ : ∃ w0, w0 = (w.alloc (.cells #[.int .i64 i0, .bool i1, .bool i2, .int .i64 i3, .int .i64 i4, .int .i64 i5, .int .i64 i6, .int .i64 i7] 28)).drew := ⟨_, rfl⟩
  have b0 : Below w.heap.size w w0 := by rw [hw0]; exact (al _ _).drew
  have c0 : w0.cell? ⟨w.heap.size, 0, none⟩ = some (.int .i64 i0) := by rw [hw0]; go_simp
  have c1 : w0.cell? ⟨w.heap.size, 1, none⟩ = some (.bool i1) := by rw [hw0]; go_simp
  have c2 : w0.cell? ⟨w.heap.size, 2, none⟩ = some (.bool i2) := by rw [hw0]; go_simp
  have c3 : w0.cell? ⟨w.heap.size, 3, none⟩ = some (.int .i64 i3) := by rw [hw0]; go_simp
  have c4 : w0.cell? ⟨w.heap.size, 4, none⟩ = some (.int .i64 i4) := by rw [hw0]; go_simp
  have c5 : w0.cell? ⟨w.heap.size, 5, none⟩ = some (.int .i64 i5) := by rw [hw0]; go_simp
  have c6 : w0.cell? ⟨w.heap.size, 6, none⟩ = some (.int .i64 i6) := by rw [hw0]; go_simp
  have c7 : w0.cell? ⟨w.heap.size, 7, none⟩ = some (.int .i64 i7) := by rw [hw0]; go_simp
  have HW := hid hw0
  clear hw0
  go_enter Try.func46, Try.ntmps46
  go_wp2_with fail
  refine wp_region_held_drew (S := fun v => v.cell? ⟨w.heap.size, 0, none⟩ = some (.int .i64 i0) ∧ v.cell? ⟨w.heap.size, 1, none⟩ = some (.bool i1) ∧ v.cell? ⟨w.heap.size, 2, none⟩ = some (.bool i2) ∧ v.cell? ⟨w.heap.size, 3, none⟩ = some (.int .i64 i3) ∧ v.cell? ⟨w.heap.size, 4, none⟩ = some (.int .i64 i4) ∧ v.cell? ⟨w.heap.size, 5, none⟩ = some (.int .i64 i5) ∧ v.cell? ⟨w.heap.size, 6, none⟩ = some (.int .i64 i6) ∧ v.cell? ⟨w.heap.size, 7, none⟩ = some (.int .i64 i7)) (by kernel_rfl) (by rw [← HW.out]; exact ⟨c0, c1, c2, c3, c4, c5, c6, c7⟩) (fun hHeld => ?_)
  rw [← HW.out] at hHeld ⊢
  refine wpAnyH_take (i := 0) (v := ?_) rfl (by kernel_rfl) (by kernel_rfl) (by kernel_rfl) (fun _ _ _ h => h) (Or.inl ⟨by rfl, ?_⟩) (by assumption) ?_
  case refine_2 => (intro w hSw; (try dsimp only at hSw); go_simp; (try with_reducible rfl))
  (try simp only [Act.put, List.getElem_toArray, List.getElem_cons_succ, List.getElem_cons_zero, List.setIfInBounds_toArray, List.set_cons_zero, List.set_cons_succ])
  refine wpAnyH_take (i := 1) (v := ?_) rfl (by kernel_rfl) (by kernel_rfl) (by kernel_rfl) (fun _ _ _ h => h) (Or.inl ⟨by rfl, ?_⟩) (by assumption) ?_
  case refine_2 => (intro w hSw; (try dsimp only at hSw); go_simp; (try with_reducible rfl))
  (try simp only [Act.put, List.getElem_toArray, List.getElem_cons_succ, List.getElem_cons_zero, List.setIfInBounds_toArray, List.set_cons_zero, List.set_cons_succ])
  refine wpAnyH_take (i := 2) (v := ?_) rfl (by kernel_rfl) (by kernel_rfl) (by kernel_rfl) (fun _ _ _ h => h) (Or.inl ⟨by rfl, ?_⟩) (by assumption) ?_
  case refine_2 => (intro w hSw; (try dsimp only at hSw); go_simp; (try with_reducible rfl))
  (try simp only [Act.put, List.getElem_toArray, List.getElem_cons_succ, List.getElem_cons_zero, List.setIfInBounds_toArray, List.set_cons_zero, List.set_cons_succ])
  refine wpAnyH_take (i := 3) (v := ?_) rfl (by kernel_rfl) (by kernel_rfl) (by kernel_rfl) (fun _ _ _ h => h) (Or.inl ⟨by rfl, ?_⟩) (by assumption) ?_
  case refine_2 => (intro w hSw; (try dsimp only at hSw); go_simp; (try with_reducible rfl))
  (try simp only [Act.put, List.getElem_toArray, List.getElem_cons_succ, List.getElem_cons_zero, List.setIfInBounds_toArray, List.set_cons_zero, List.set_cons_succ])
  refine wpAnyH_take (i := 4) (v := ?_) rfl (by kernel_rfl) (by kernel_rfl) (by kernel_rfl) (fun _ _ _ h => h) (Or.inl ⟨by rfl, ?_⟩) (by assumption) ?_
  case refine_2 => (intro w hSw; (try dsimp only at hSw); go_simp; (try with_reducible rfl))
  (try simp only [Act.put, List.getElem_toArray, List.getElem_cons_succ, List.getElem_cons_zero, List.setIfInBounds_toArray, List.set_cons_zero, List.set_cons_succ])
  refine wpAnyH_take (i := 6) (v := ?_) rfl (by kernel_rfl) (by kernel_rfl) (by kernel_rfl) (fun _ _ _ h => h) (Or.inl ⟨by rfl, ?_⟩) (by assumption) ?_
  case refine_2 => (intro w hSw; (try dsimp only at hSw); go_simp; (try with_reducible rfl))
  (try simp only [Act.put, List.getElem_toArray, List.getElem_cons_succ, List.getElem_cons_zero, List.setIfInBounds_toArray, List.set_cons_zero, List.set_cons_succ])
  refine wpAnyH_take (i := 7) (v := ?_) rfl (by kernel_rfl) (by kernel_rfl) (by kernel_rfl) (fun _ _ _ h => h) (Or.inl ⟨by rfl, ?_⟩) (by assumption) ?_
  case refine_2 => (intro w hSw; (try dsimp only at hSw); go_simp; (try with_reducible rfl))
  (try simp only [Act.put, List.getElem_toArray, List.getElem_cons_succ, List.getElem_cons_zero, List.setIfInBounds_toArray, List.set_cons_zero, List.set_cons_succ])
  refine wpAnyH_take (i := 9) (v := ?_) rfl (by kernel_rfl) (by kernel_rfl) (by kernel_rfl) (fun _ _ _ h => h) (Or.inl ⟨by rfl, ?_⟩) (by assumption) ?_
  case refine_2 => (intro w hSw; (try dsimp only at hSw); go_simp; (try with_reducible rfl))
  (try simp only [Act.put, List.getElem_toArray, List.getElem_cons_succ, List.getElem_cons_zero, List.setIfInBounds_toArray, List.set_cons_zero, List.set_cons_succ])
  refine wpAnyH_take (i := 10) (v := ?_) rfl (by kernel_rfl) (by kernel_rfl) (by kernel_rfl) (fun _ _ _ h => h) (Or.inl ⟨by rfl, ?_⟩) (by assumption) ?_
  case refine_2 => (intro w hSw; (try dsimp only at hSw); go_simp; (try with_reducible rfl))
  (try simp only [Act.put, List.getElem_toArray, List.getElem_cons_succ, List.getElem_cons_zero, List.setIfInBounds_toArray, List.set_cons_zero, List.set_cons_succ])
  refine wpAnyH_take (i := 11) (v := ?_) rfl (by kernel_rfl) (by kernel_rfl) (by kernel_rfl) (fun _ _ _ h => h) (Or.inl ⟨by rfl, ?_⟩) (by assumption) ?_
  case refine_2 => (intro w hSw; (try dsimp only at hSw); go_simp; (try with_reducible rfl))
  (try simp only [Act.put, List.getElem_toArray, List.getElem_cons_succ, List.getElem_cons_zero, List.setIfInBounds_toArray, List.set_cons_zero, List.set_cons_succ])
  refine wpAnyH_take (i := 12) (v := ?_) rfl (by kernel_rfl) (by kernel_rfl) (by kernel_rfl) (fun _ _ _ h => h) (Or.inl ⟨by rfl, ?_⟩) (by assumption) ?_
  case refine_2 => (intro w hSw; (try dsimp only at hSw); go_simp; (try with_reducible rfl))
  (try simp only [Act.put, List.getElem_toArray, List.getElem_cons_succ, List.getElem_cons_zero, List.setIfInBounds_toArray, List.set_cons_zero, List.set_cons_succ])
  refine wpAnyH_take (i := 13) (v := ?_) rfl (by kernel_rfl) (by kernel_rfl) (by kernel_rfl) (fun _ _ _ h => h) (Or.inl ⟨by rfl, ?_⟩) (by assumption) ?_
  case refine_2 => (intro w hSw; (try dsimp only at hSw); go_simp; (try with_reducible rfl))
  (try simp only [Act.put, List.getElem_toArray, List.getElem_cons_succ, List.getElem_cons_zero, List.setIfInBounds_toArray, List.set_cons_zero, List.set_cons_succ])
  refine wpAnyH_take (i := 14) (v := ?_) rfl (by kernel_rfl) (by kernel_rfl) (by kernel_rfl) (fun _ _ _ h => h) (Or.inl ⟨by rfl, ?_⟩) (by assumption) ?_
  case refine_2 => (intro w hSw; (try dsimp only at hSw); go_simp; (try with_reducible rfl))
  (try simp only [Act.put, List.getElem_toArray, List.getElem_cons_succ, List.getElem_cons_zero, List.setIfInBounds_toArray, List.set_cons_zero, List.set_cons_succ])
  refine wpAnyH_take (i := 15) (v := ?_) rfl (by kernel_rfl) (by kernel_rfl) (by kernel_rfl) (fun _ _ _ h => h) (Or.inl ⟨by rfl, ?_⟩) (by assumption) ?_
  case refine_2 => (intro w hSw; (try dsimp only at hSw); go_simp; (try with_reducible rfl))
  (try simp only [Act.put, List.getElem_toArray, List.getElem_cons_succ, List.getElem_cons_zero, List.setIfInBounds_toArray, List.set_cons_zero, List.set_cons_succ])
  refine wpAnyH_take (i := 16) (v := ?_) rfl (by kernel_rfl) (by kernel_rfl) (by kernel_rfl) (fun _ _ _ h => h) (Or.inl ⟨by rfl, ?_⟩) (by assumption) ?_
  case refine_2 => (intro w hSw; (try dsimp only at hSw); go_simp; (try with_reducible rfl))
  (try simp only [Act.put, List.getElem_toArray, List.getElem_cons_succ, List.getElem_cons_zero, List.setIfInBounds_toArray, List.set_cons_zero, List.set_cons_succ])
  refine wpAnyH_take (i := 17) (v := ?_) rfl (by kernel_rfl) (by kernel_rfl) (by kernel_rfl) (fun _ _ _ h => h) (Or.inl ⟨by rfl, ?_⟩) (by assumption) ?_
  case refine_2 => (intro w hSw; (try dsimp only at hSw); go_simp; (try with_reducible rfl))
  (try simp only [Act.put, List.getElem_toArray, List.getElem_cons_succ, List.getElem_cons_zero, List.setIfInBounds_toArray, List.set_cons_zero, List.set_cons_succ])
  refine wpAnyH_take (i := 18) (v := ?_) rfl (by kernel_rfl) (by kernel_rfl) (by kernel_rfl) (fun _ _ _ h => h) (Or.inl ⟨by rfl, ?_⟩) (by assumption) ?_
  case refine_2 => (intro w hSw; (try dsimp only at hSw); go_simp; (try with_reducible rfl))
  (try simp only [Act.put, List.getElem_toArray, List.getElem_cons_succ, List.getElem_cons_zero, List.setIfInBounds_toArray, List.set_cons_zero, List.set_cons_succ])
  refine wpAnyH_ready (rs := [5]) (by kernel_rfl) (by simp) ?_
  refine AllReadyH.cons rfl (fun K hK => ?_) AllReadyH.nil
  go_simp
  refine (hT _ _).mono ?_
  rintro e w1 ⟨rfl, h1⟩
  replace h1 := h1.symm
  subst h1
  refine hK.out _ _ ⟨c0, c1, c2, c3, c4, c5, c6, c7⟩ (fun hHeld => ?_)
  clear hK K
  refine wpAnyH_ready (rs := [8]) (by kernel_rfl) (by simp) ?_
  refine AllReadyH.cons rfl (fun K hK => ?_) AllReadyH.nil
  go_simp
  refine (hT _ _).mono ?_
  rintro e w1 ⟨rfl, h1⟩
  replace h1 := h1.symm
  subst h1
  refine hK.out _ _ ⟨c0, c1, c2, c3, c4, c5, c6, c7⟩ (fun hHeld => ?_)
  clear hK K
  refine wpAnyH_ready (rs := [19]) (by kernel_rfl) (by simp) ?_
  refine AllReadyH.cons rfl (fun K hK => ?_) AllReadyH.nil
  go_simp
  obtain ⟨wN, hwN⟩ : ∃ wN, wN = w0.alloc (.cells #[.int .i64 i0, .int .i64 (bitI i1), .int .i64 (bitI i2), .int .i64 i3, .int .i64 i4, .int .i64 i5, .int .i64 i6, .int .i64 i7] 3) := ⟨_, rfl⟩
  have bN : Below w0.heap.size w0 wN := by rw [hwN]; exact al _ _
  have hN : Ns wN w0.heap.size 3 [i0, bitI i1, bitI i2, i3, i4, i5, i6, i7] := by rw [hwN]; exact heap_alloc_new _ _
  have HI := hid hN.is
  rw [← hwN]
  have d0 := on b0 bN
  clear hwN hN
  refine hK.out _ _ ⟨keep bN c0, keep bN c1, keep bN c2, keep bN c3, keep bN c4, keep bN c5, keep bN c6, keep bN c7⟩ (fun hHeld => ?_)
  clear hK K
  refine wpAnyH_ready (rs := [20]) (by kernel_rfl) (by simp) ?_
  refine AllReadyH.cons rfl (fun K hK => ?_) AllReadyH.nil
  go_simp
  refine (hPt wN (some ⟨w0.heap.size, 0, none⟩) (HR.out.below d0) (Nat.le_trans HB.out d0.size) HI.out (fun a ha e => by
    injection ha with ha
    subst ha
    have := HLt.out _ e
    have := b0.size
    have e2 : (⟨w0.heap.size, 0, none⟩ : Addr).block = w0.heap.size := rfl
    omega)).mono ?_
  rintro e w2 ⟨R2, rfl, H2⟩
  have kT : ∀ (j : Nat) (u : Value), w0.cell? ⟨w.heap.size, j, none⟩ = some u → w2.cell? ⟨w.heap.size, j, none⟩ = some u := fun j u hu => (World.cell?_of_block (a := ⟨w.heap.size, j, none⟩) (H2.out.turns.block w.heap.size (cell_lt' (keep bN hu)) (fun e => by have := HLt.out _ e; omega))).trans (keep bN hu)
  refine hK.out _ _ ⟨kT _ _ c0, kT _ _ c1, kT _ _ c2, kT _ _ c3, kT _ _ c4, kT _ _ c5, kT _ _ c6, kT _ _ c7⟩ (fun hHeld => ?_)
  clear hK K
  refine wpAnyH_take (i := 21) (v := ?_) rfl (by kernel_rfl) (by kernel_rfl) (by kernel_rfl) (fun _ _ _ h => h) (Or.inl ⟨by rfl, ?_⟩) (by assumption) ?_
  case refine_2 => (intro w hSw; (try dsimp only at hSw); go_simp; (try with_reducible rfl))
  (try simp only [Act.put, List.getElem_toArray, List.getElem_cons_succ, List.getElem_cons_zero, List.setIfInBounds_toArray, List.set_cons_zero, List.set_cons_succ])
  refine wpAnyH_done (by kernel_rfl) ?_ _
  clear hHeld
  go_wp2_with fail
  go_ret
  exact ⟨_, rfl, H2.out.from d0⟩

set_option maxHeartbeats 3200000 in
theorem rencC_any (c : Ch) (w : World) : Calls Try.prog 27 #[vC c] w fun e w' => ∃ R, e = .returned (.tuple #[R, .int .i64 (errB (mayC c))]) ∧ Hid (OwnL w' w.heap.size R (if mayC c then wrB (numsC c) else []) ∧ Below w.heap.size w w') := by
  have hC := fun W => rmayChange_any c W
  cases hm : mayC c with
  | false =>
    rw [hm] at hC
    obtain ⟨ck, c0, c1, c2, c3, c4, c5, c6, c7⟩ := c
    unfold vC errB at *
    dsimp only at hC ⊢
    go_enter Try.func27, Try.ntmps27
    go_wp2_with (go_at_call 18; refine (hC _).mono ?_; rintro e w1 ⟨rfl, hb1⟩; clear hC)
    go_ret2
    exact ⟨_, rfl, OwnL.start _ _, on (al _ _) hb1⟩
  | true =>
    rw [hm] at hC
    obtain ⟨hk, hp⟩ := osd_of_kind hm
    have HK := hid (show ∀ v ∈ [c.kind], 0 ≤ v ∧ v ≤ 2147483647 from fun v hv => by simp at hv; omega)
    have HNC : Hid (wrB (numsC c) = [] ++ wrB [c.kind] ++ wrB (partsP c.osd)) := hid (by rw [List.nil_append, ← wrB_app]; rfl)
    have hLk : ([] ++ wrB [c.kind]).length ≤ 90000 := by
      have := wrB_len [c.kind] HK.out
      simp at this ⊢
      omega
    have hPo := fun (W : World) (B : Nat) (R : Value) (h1 : OwnL W B R ([] ++ wrB [c.kind])) (h2 : B ≤ W.heap.size) => putOsd_any c.osd h1 h2 hp hLk
    clear hm hk hp hLk
    generalize wrB (numsC c) = NC at *
    generalize partsP c.osd = PP at *
    obtain ⟨ck, c0, c1, c2, c3, c4, c5, c6, c7⟩ := c
    unfold vC errB at *
    unfold vO at hPo
    dsimp only at hC hPo HK HNC ⊢
    have b0 := al w (.cells #[.int .i64 ck, .int .i64 c0, .bool c1, .bool c2, .int .i64 c3, .int .i64 c4, .int .i64 c5, .int .i64 c6, .int .i64 c7] 30)
    have HX := hid (heap_alloc_new w (.cells #[.int .i64 ck, .int .i64 c0, .bool c1, .bool c2, .int .i64 c3, .int .i64 c4, .int .i64 c5, .int .i64 c6, .int .i64 c7] 30))
    go_enter Try.func27, Try.ntmps27
    go_wp2_with (go_at_call 18; refine (hC _).mono ?_; rintro e w1 ⟨rfl, hb1⟩; clear hC)
    have ek := (hb1.block _ (Array.getElem?_eq_some_iff.1 HX.out).1).trans HX.out
    obtain ⟨wD, hwD⟩ : ∃ wD, wD = w1.drew := ⟨_, rfl⟩
    have ekD : wD.heap[w.heap.size]? = some (.cells #[.int .i64 ck, .int .i64 c0, .bool c1, .bool c2, .int .i64 c3, .int .i64 c4, .int .i64 c5, .int .i64 c6, .int .i64 c7] 30 (0, 0)) := by rw [hwD]; exact ek
    have B1 : Below w.heap.size w wD := by rw [hwD]; exact (on b0 hb1).drew
    have k0 : wD.cell? ⟨w.heap.size, 0, none⟩ = some (.int .i64 ck) := cell_heap ekD rfl
    have k1 : wD.cell? ⟨w.heap.size, 1, none⟩ = some (.int .i64 c0) := cell_heap ekD rfl
    have k2 : wD.cell? ⟨w.heap.size, 2, none⟩ = some (.bool c1) := cell_heap ekD rfl
    have k3 : wD.cell? ⟨w.heap.size, 3, none⟩ = some (.bool c2) := cell_heap ekD rfl
    have k4 : wD.cell? ⟨w.heap.size, 4, none⟩ = some (.int .i64 c3) := cell_heap ekD rfl
    have k5 : wD.cell? ⟨w.heap.size, 5, none⟩ = some (.int .i64 c4) := cell_heap ekD rfl
    have k6 : wD.cell? ⟨w.heap.size, 6, none⟩ = some (.int .i64 c5) := cell_heap ekD rfl
    have k7 : wD.cell? ⟨w.heap.size, 7, none⟩ = some (.int .i64 c6) := cell_heap ekD rfl
    have k8 : wD.cell? ⟨w.heap.size, 8, none⟩ = some (.int .i64 c7) := cell_heap ekD rfl
    have HWD := hid hwD
    clear hwD ek ekD hb1 b0
    refine wp_region_held_drew (S := fun v => v.cell? ⟨w.heap.size, 0, none⟩ = some (.int .i64 ck) ∧ v.cell? ⟨w.heap.size, 1, none⟩ = some (.int .i64 c0) ∧ v.cell? ⟨w.heap.size, 2, none⟩ = some (.bool c1) ∧ v.cell? ⟨w.heap.size, 3, none⟩ = some (.bool c2) ∧ v.cell? ⟨w.heap.size, 4, none⟩ = some (.int .i64 c3) ∧ v.cell? ⟨w.heap.size, 5, none⟩ = some (.int .i64 c4) ∧ v.cell? ⟨w.heap.size, 6, none⟩ = some (.int .i64 c5) ∧ v.cell? ⟨w.heap.size, 7, none⟩ = some (.int .i64 c6) ∧ v.cell? ⟨w.heap.size, 8, none⟩ = some (.int .i64 c7)) (by kernel_rfl) (by rw [← HWD.out]; exact ⟨k0, k1, k2, k3, k4, k5, k6, k7, k8⟩) (fun hHeld => ?_)
    rw [← HWD.out] at hHeld ⊢
    refine wpAnyH_take (i := 0) (v := ?_) rfl (by kernel_rfl) (by kernel_rfl) (by kernel_rfl) (fun _ _ _ h => h) (Or.inl ⟨by rfl, ?_⟩) (by assumption) ?_
    case refine_2 => (intro w hSw; (try dsimp only at hSw); go_simp; (try with_reducible rfl))
    (try simp only [Act.put, List.getElem_toArray, List.getElem_cons_succ, List.getElem_cons_zero, List.setIfInBounds_toArray, List.set_cons_zero, List.set_cons_succ])
    refine wpAnyH_take (i := 1) (v := ?_) rfl (by kernel_rfl) (by kernel_rfl) (by kernel_rfl) (fun _ _ _ h => h) (Or.inl ⟨by rfl, ?_⟩) (by assumption) ?_
    case refine_2 => (intro w hSw; (try dsimp only at hSw); go_simp; (try with_reducible rfl))
    (try simp only [Act.put, List.getElem_toArray, List.getElem_cons_succ, List.getElem_cons_zero, List.setIfInBounds_toArray, List.set_cons_zero, List.set_cons_succ])
    refine wpAnyH_take (i := 4) (v := ?_) rfl (by kernel_rfl) (by kernel_rfl) (by kernel_rfl) (fun _ _ _ h => h) (Or.inl ⟨by rfl, ?_⟩) (by assumption) ?_
    case refine_2 => (intro w hSw; (try dsimp only at hSw); go_simp; (try with_reducible rfl))
    (try simp only [Act.put, List.getElem_toArray, List.getElem_cons_succ, List.getElem_cons_zero, List.setIfInBounds_toArray, List.set_cons_zero, List.set_cons_succ])
    refine wpAnyH_take (i := 5) (v := ?_) rfl (by kernel_rfl) (by kernel_rfl) (by kernel_rfl) (fun _ _ _ h => h) (Or.inl ⟨by rfl, ?_⟩) (by assumption) ?_
    case refine_2 => (intro w hSw; (try dsimp only at hSw); go_simp; (try with_reducible rfl))
    (try simp only [Act.put, List.getElem_toArray, List.getElem_cons_succ, List.getElem_cons_zero, List.setIfInBounds_toArray, List.set_cons_zero, List.set_cons_succ])
    refine wpAnyH_ready (rs := [2]) (by kernel_rfl) (by simp) ?_
    refine AllReadyH.cons rfl (fun K hK => ?_) AllReadyH.nil
    go_simp
    have bN := al wD (.cells #[.int .i64 ck] 3)
    refine hK.out _ _ ⟨keep bN k0, keep bN k1, keep bN k2, keep bN k3, keep bN k4, keep bN k5, keep bN k6, keep bN k7, keep bN k8⟩ (fun hHeld => ?_)
    clear hK K
    refine wpAnyH_ready (rs := [3]) (by kernel_rfl) (by simp) ?_
    refine AllReadyH.cons rfl (fun K hK => ?_) AllReadyH.nil
    go_simp
    refine (rput_any (OwnL.start _ wD.heap.size) bN.size (ns_one wD ck) HK.out (by omega) (by simp) (fun a ha e => by cases e)).mono ?_
    rintro e w2 ⟨R2, rfl, H2⟩
    have P2 := H2.out.from bN
    refine hK.out _ _ ⟨keep P2.nil k0, keep P2.nil k1, keep P2.nil k2, keep P2.nil k3, keep P2.nil k4, keep P2.nil k5, keep P2.nil k6, keep P2.nil k7, keep P2.nil k8⟩ (fun hHeld => ?_)
    clear hK K
    refine wpAnyH_ready (rs := [6]) (by kernel_rfl) (by simp) ?_
    refine AllReadyH.cons rfl (fun K hK => ?_) AllReadyH.nil
    go_simp
    refine (hPo w2 wD.heap.size R2 H2.out.own P2.nil.size).mono ?_
    rintro e w3 ⟨R3, rfl, H3⟩
    have P3 := P2.trans H3.out
    refine hK.out _ _ ⟨keep P3.nil k0, keep P3.nil k1, keep P3.nil k2, keep P3.nil k3, keep P3.nil k4, keep P3.nil k5, keep P3.nil k6, keep P3.nil k7, keep P3.nil k8⟩ (fun hHeld => ?_)
    clear hK K
    refine wpAnyH_take (i := 7) (v := ?_) rfl (by kernel_rfl) (by kernel_rfl) (by kernel_rfl) (fun _ _ _ h => h) (Or.inl ⟨by rfl, ?_⟩) (by assumption) ?_
    case refine_2 => (intro w hSw; (try dsimp only at hSw); go_simp; (try with_reducible rfl))
    (try simp only [Act.put, List.getElem_toArray, List.getElem_cons_succ, List.getElem_cons_zero, List.setIfInBounds_toArray, List.set_cons_zero, List.set_cons_succ])
    refine wpAnyH_take (i := 8) (v := ?_) rfl (by kernel_rfl) (by kernel_rfl) (by kernel_rfl) (fun _ _ _ h => h) (Or.inl ⟨by rfl, ?_⟩) (by assumption) ?_
    case refine_2 => (intro w hSw; (try dsimp only at hSw); go_simp; (try with_reducible rfl))
    (try simp only [Act.put, List.getElem_toArray, List.getElem_cons_succ, List.getElem_cons_zero, List.setIfInBounds_toArray, List.set_cons_zero, List.set_cons_succ])
    refine wpAnyH_done (by kernel_rfl) ?_ _
    clear hHeld
    go_wp2_with fail
    go_ret2
    exact ⟨_, rfl, by rw [HNC.out]; exact P3.own.mono B1.size, on B1 P3.nil⟩

set_option maxHeartbeats 3200000 in
theorem renc_any {w : World} {x : Option Addr} {n c : Nat} (m : Mp) (h : Os w x n c m.osds) :
    Calls Try.prog 25 #[vM m.ep m.pool x n c] w fun e w' => ∃ R, e = .returned (.tuple #[R, .int .i64 (errB (mayM m))]) ∧ Hid (OwnL w' w.heap.size R (if mayM m then wrB (numsM m) else []) ∧ Below w.heap.size w w') := by
  have HO := hid h
  have HL := hid h.len
  have b0 := al w (.cells #[.int .i64 m.ep, .int .i64 m.pool.k, .int .i64 m.pool.m, .int .i64 m.pool.pgs, .int .i64 m.pool.dom, .slice x n c] 26)
  have hC0 := rmay_any m (HO.out.below b0)
  have HB := hid b0
  clear h b0
  cases hm : mayM m with
  | false =>
    rw [hm] at hC0
    obtain ⟨ep, ⟨pk, pm, pg, pd⟩, L⟩ := m
    unfold vM at *
    unfold errB at *
    dsimp only at hC0 HB ⊢
    go_enter Try.func25, Try.ntmps25
    go_wp2_with (go_at_call 16; refine hC0.mono ?_; rintro e w1 ⟨rfl, hb1⟩; clear hC0)
    go_ret2
    exact ⟨_, rfl, OwnL.start _ _, on HB.out hb1⟩
  | true =>
    rw [hm] at hC0
    have HNo := hid (fun q => nums_ok hm q)
    have HHo := hid (head_ok hm)
    have HPo : Hid (∀ (q : Nat) (a : Osd), m.osds[q]? = some a → ∀ v ∈ partsP a, 0 ≤ v ∧ v ≤ 2147483647) := fun q a ha => parts_ok ((may_parts hm).2.2.2 q a ha).1
    have h64 : n ≤ 64 := by rw [← HL.out]; exact (may_parts hm).2.2.1
    have HNm : Hid (numsM m = headP m ++ (m.osds.take n).flatMap partsP) := hid (by unfold numsM; rw [← HL.out, List.take_length])
    have HHd : Hid (headP m = [m.ep, m.pool.k, m.pool.m, m.pool.pgs, m.pool.dom, (n : Int)]) := hid (by unfold headP; rw [HL.out])
    have HX := hid (fun W (hb : Below w.heap.size w W) => HO.out.below hb)
    have HK := hid (heap_alloc_new w (.cells #[.int .i64 m.ep, .int .i64 m.pool.k, .int .i64 m.pool.m, .int .i64 m.pool.pgs, .int .i64 m.pool.dom, .slice x n c] 26))
    clear hm
    generalize numsM m = NM at *
    generalize headP m = HD at *
    obtain ⟨ep, ⟨pk, pm, pg, pd⟩, L⟩ := m
    unfold vM at *
    unfold errB at *
    dsimp only at hC0 HB HHd HK HX HNo HNm HL HPo ⊢
    go_enter Try.func25, Try.ntmps25
    go_wp2_with (first
      | (
         go_at_call 16; refine hC0.mono ?_; rintro e w1 ⟨rfl, hb1⟩; clear hC0
         have ek := (hb1.block _ (Array.getElem?_eq_some_iff.1 HK.out).1).trans HK.out
         have k0 : w1.cell? ⟨w.heap.size, 0, none⟩ = some (.int .i64 ep) := cell_heap ek rfl
         have k1 : w1.cell? ⟨w.heap.size, 1, none⟩ = some (.int .i64 pk) := cell_heap ek rfl
         have k2 : w1.cell? ⟨w.heap.size, 2, none⟩ = some (.int .i64 pm) := cell_heap ek rfl
         have k3 : w1.cell? ⟨w.heap.size, 3, none⟩ = some (.int .i64 pg) := cell_heap ek rfl
         have k4 : w1.cell? ⟨w.heap.size, 4, none⟩ = some (.int .i64 pd) := cell_heap ek rfl
         have k5 : w1.cell? ⟨w.heap.size, 5, none⟩ = some (.slice x n c) := cell_heap ek rfl
         have B1 := on HB.out hb1
         have bN := al w1 (.cells #[.int .i64 ep, .int .i64 pk, .int .i64 pm, .int .i64 pg, .int .i64 pd, .int .i64 (n : Int)] 3)
         have hIs : Is (w1.alloc (.cells #[.int .i64 ep, .int .i64 pk, .int .i64 pm, .int .i64 pg, .int .i64 pd, .int .i64 (n : Int)] 3)) (some ⟨w1.heap.size, 0, none⟩) 6 6 [ep, pk, pm, pg, pd, (n : Int)] := (Ns.new w1 3 [ep, pk, pm, pg, pd, (n : Int)]).is
         have hPu := rput_any (OwnL.start _ w1.heap.size) bN.size hIs (by rw [← HHd.out]; exact HHo.out) (by omega) (by simp) (fun a ha e => by cases e)
         rw [← HHd.out] at hPu
         clear hb1 ek hIs)
      | (
         go_at_call 45; refine hPu.mono ?_; rintro e w2 ⟨R2, rfl, H2⟩; clear hPu))
    have hF0 := H2.out.from bN
    rw [List.nil_append] at hF0
    have HF0 : Hid (PutAt w1 w2 w1.heap.size (.slice none 0 0) R2 (wrB (HD ++ (L.take 0).flatMap partsP))) := hid (by simpa using hF0)
    have k5' := k5
    clear hF0 H2 bN k0 k1 k2 k3 k4
    go_loopw [5, 4] (fun i b wx => ∃ q : Nat, q ≤ n ∧ i = .int .i64 q ∧ Hid (PutAt w1 wx w1.heap.size (.slice none 0 0) b (wrB (HD ++ (L.take q).flatMap partsP)))) (fun i _ _ => n - (intOf i).toNat)
    case atStart => exact ⟨0, by omega, rfl, HF0.out⟩
    case round =>
      obtain ⟨q, hq, rfl, HR⟩ := hrel
      have hbw := HR.out.nil
      have r5 := keep hbw k5'
      have HBw := hid (on B1 hbw)
      by_cases hlt : q < n
      · have hqI : (q : Int) < (n : Int) := by omega
        obtain ⟨a, ha⟩ : ∃ a, L[q]? = some a := ⟨L[q]'(by have := HL.out; omega), List.getElem?_eq_getElem (by have := HL.out; omega)⟩
        rcases (HX.out wr HBw.out).row with h0 | ⟨b, o, rfl, hbl, hcell⟩
        · omega
        obtain ⟨u0, u1, u2, u3', u4, u5', u6, u7'⟩ := Os.at (n := n) (c := c) hcell ha
        have HS : Hid (wrB (HD ++ (L.take (q + 1)).flatMap partsP) = wrB (HD ++ (L.take q).flatMap partsP) ++ wrB (partsP a)) := hid (by rw [← wrB_app, List.take_add_one, ha]; simp)
        have hlen : (wrB (HD ++ (L.take q).flatMap partsP)).length ≤ 90000 := by
          have h1 := wrB_len _ (HNo.out q)
          have h2 : HD.length = 6 := by rw [HHd.out]; rfl
          rw [List.length_append, flat_parts_len, h2, List.length_take] at h1
          omega
        have hPo := putOsd_any a HR.out.own hbw.size (HPo.out q a ha) hlen
        rw [← HS.out] at hPo
        clear ha hcell hlen hbw
        obtain ⟨i0, i1, i2, i3, i4, i5, i6, i7⟩ := a
        unfold vO at hPo
        dsimp only at u0 u1 u2 u3' u4 u5' u6 u7' hPo
        go_wp2_with (
             go_at_call 46; refine hPo.mono ?_; rintro e w3 ⟨R3, rfl, H3⟩; clear hPo)
        go_roundw
        case rel => exact ⟨q + 1, by omega, by go_num, HR.out.trans H3.out⟩
        case measure => simp [intOf]; omega
      · obtain rfl : q = n := by omega
        have HR2 := hid HR.out
        rw [← HNm.out] at HR2
        clear hbw
        go_wp2_with fail
        go_ret2
        exact ⟨_, rfl, HR2.out.own.mono B1.size, on B1 HR2.out.nil⟩

end Go.Proofs.Ytnddhlkdemibgaa.At
