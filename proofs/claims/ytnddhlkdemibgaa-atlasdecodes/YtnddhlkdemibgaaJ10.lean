/-
  5 texts of this proof, one behind the other: AtEnc, AtEncC, AtSame, AtSame2, AtInj.
-/
import Derived.Test.YtnddhlkdemibgaaJ08
import Derived.Test.YtnddhlkdemibgaaJ09
import Derived.Test.YtnddhlkdemibgaaJ06
import Derived.Test.YtnddhlkdemibgaaJ04
import Derived.WideShapes
/-
  Package atlas: parts, Encode, EncodeChange.
  Conditions: lists lie in memory.
-/
namespace Go.Proofs.Ytnddhlkdemibgaa.At
open Go.RowKit By Fl Wi
set_option linter.unusedVariables false
set_option linter.unusedSimpArgs false
set_option maxRecDepth 100000

theorem parts_any (o : Osd) (w : World) : Calls Try.prog 43 #[vO o] w fun e w' => ∃ g, e = .returned (.slice (some ⟨g, 0, none⟩) 8 8) ∧ Hid (Below w.heap.size w w' ∧ Ns w' g 3 (partsP o) ∧ w.heap.size ≤ g) := by
  have hT := fun b W => truth_any b W
  obtain ⟨i0, i1, i2, i3, i4, i5, i6, i7⟩ := o
  unfold vO partsP
  dsimp only
  obtain ⟨w0, hw0⟩ : ∃ w0, w0 = (w.alloc (.cells #[.int .i64 i0, .bool i1, .bool i2, .int .i64 i3, .int .i64 i4, .int .i64 i5, .int .i64 i6, .int .i64 i7] 28)).drew := ⟨_, rfl⟩
  have b0 : Below w.heap.size w w0 := by rw [hw0]; exact (al _ _).drew
  have c0 : w0.cell? ⟨w.heap.size, 0, none⟩ = some (.int .i64 i0) := by rw [hw0]; go_simp
  have c1 : w0.cell? ⟨w.heap.size, 1, none⟩ = some (.bool i1) := by rw [hw0]; go_simp
  have c2 : w0.cell? ⟨w.heap.size, 2, none⟩ = some (.bool i2) := by rw [hw0]; go_simp
  have c3 : w0.cell? ⟨w.heap.size, 3, none⟩ = some (.int .i64 i3) := by rw [hw0]; go_simp
  have c4 : w0.cell? ⟨w.heap.size, 4, none⟩ = some (.int .i64 i4) := by rw [hw0]; go_simp
  have c5 : w0.cell? ⟨w.heap.size, 5, none⟩ = some (.int .i64 i5) := by rw [hw0]; go_simp
  have c6 : w0.cell? ⟨w.heap.size, 6, none⟩ = some (.int .i64 i6) := by rw [hw0]; go_simp
  have c7 : w0.cell? ⟨w.heap.size, 7, none⟩ = some (.int .i64 i7) := by rw [hw0]; go_simp
  have HW := hid hw0
  clear hw0
  go_enter Try.func43, Try.ntmps43
  go_wp2_with fail
  refine wp_region_held_drew (S := fun v => v.cell? ⟨w.heap.size, 0, none⟩ = some (.int .i64 i0) ∧ v.cell? ⟨w.heap.size, 1, none⟩ = some (.bool i1) ∧ v.cell? ⟨w.heap.size, 2, none⟩ = some (.bool i2) ∧ v.cell? ⟨w.heap.size, 3, none⟩ = some (.int .i64 i3) ∧ v.cell? ⟨w.heap.size, 4, none⟩ = some (.int .i64 i4) ∧ v.cell? ⟨w.heap.size, 5, none⟩ = some (.int .i64 i5) ∧ v.cell? ⟨w.heap.size, 6, none⟩ = some (.int .i64 i6) ∧ v.cell? ⟨w.heap.size, 7, none⟩ = some (.int .i64 i7)) (by kernel_rfl) (by rw [← HW.out]; exact ⟨c0, c1, c2, c3, c4, c5, c6, c7⟩) (fun hHeld => ?_)
  rw [← HW.out] at hHeld ⊢
  refine wpAnyH_take (i := 0) (v := ?_) rfl (by kernel_rfl) (by kernel_rfl) (by kernel_rfl) (fun _ _ _ h => h) (Or.inl ⟨by rfl, ?_⟩) (by assumption) ?_
  case refine_2 => (intro w hSw; (try dsimp only at hSw); go_simp; (try with_reducible rfl))
  (try simp only [Act.put, List.getElem_toArray, List.getElem_cons_succ, List.getElem_cons_zero, List.setIfInBounds_toArray, List.set_cons_zero, List.set_cons_succ])
  refine wpAnyH_take (i := 1) (v := ?_) rfl (by kernel_rfl) (by kernel_rfl) (by kernel_rfl) (fun _ _ _ h => h) (Or.inl ⟨by rfl, ?_⟩) (by assumption) ?_
  case refine_2 => (intro w hSw; (try dsimp only at hSw); go_simp; (try with_reducible rfl))
  (try simp only [Act.put, List.getElem_toArray, List.getElem_cons_succ, List.getElem_cons_zero, List.setIfInBounds_toArray, List.set_cons_zero, List.set_cons_succ])
  refine wpAnyH_take (i := 2) (v := ?_) rfl (by kernel_rfl) (by kernel_rfl) (by kernel_rfl) (fun _ _ _ h => h) (Or.inl ⟨by rfl, ?_⟩) (by assumption) ?_
  case refine_2 => (intro w hSw; (try dsimp only at hSw); go_simp; (try with_reducible rfl))
  (try simp only [Act.put, List.getElem_toArray, List.getElem_cons_succ, List.getElem_cons_zero, List.setIfInBounds_toArray, List.set_cons_zero, List.set_cons_succ])
  refine wpAnyH_take (i := 3) (v := ?_) rfl (by kernel_rfl) (by kernel_rfl) (by kernel_rfl) (fun _ _ _ h => h) (Or.inl ⟨by rfl, ?_⟩) (by assumption) ?_
  case refine_2 => (intro w hSw; (try dsimp only at hSw); go_simp; (try with_reducible rfl))
  (try simp only [Act.put, List.getElem_toArray, List.getElem_cons_succ, List.getElem_cons_zero, List.setIfInBounds_toArray, List.set_cons_zero, List.set_cons_succ])
  refine wpAnyH_take (i := 5) (v := ?_) rfl (by kernel_rfl) (by kernel_rfl) (by kernel_rfl) (fun _ _ _ h => h) (Or.inl ⟨by rfl, ?_⟩) (by assumption) ?_
  case refine_2 => (intro w hSw; (try dsimp only at hSw); go_simp; (try with_reducible rfl))
  (try simp only [Act.put, List.getElem_toArray, List.getElem_cons_succ, List.getElem_cons_zero, List.setIfInBounds_toArray, List.set_cons_zero, List.set_cons_succ])
  refine wpAnyH_take (i := 6) (v := ?_) rfl (by kernel_rfl) (by kernel_rfl) (by kernel_rfl) (fun _ _ _ h => h) (Or.inl ⟨by rfl, ?_⟩) (by assumption) ?_
  case refine_2 => (intro w hSw; (try dsimp only at hSw); go_simp; (try with_reducible rfl))
  (try simp only [Act.put, List.getElem_toArray, List.getElem_cons_succ, List.getElem_cons_zero, List.setIfInBounds_toArray, List.set_cons_zero, List.set_cons_succ])
  refine wpAnyH_take (i := 8) (v := ?_) rfl (by kernel_rfl) (by kernel_rfl) (by kernel_rfl) (fun _ _ _ h => h) (Or.inl ⟨by rfl, ?_⟩) (by assumption) ?_
  case refine_2 => (intro w hSw; (try dsimp only at hSw); go_simp; (try with_reducible rfl))
  (try simp only [Act.put, List.getElem_toArray, List.getElem_cons_succ, List.getElem_cons_zero, List.setIfInBounds_toArray, List.set_cons_zero, List.set_cons_succ])
  refine wpAnyH_take (i := 9) (v := ?_) rfl (by kernel_rfl) (by kernel_rfl) (by kernel_rfl) (fun _ _ _ h => h) (Or.inl ⟨by rfl, ?_⟩) (by assumption) ?_
  case refine_2 => (intro w hSw; (try dsimp only at hSw); go_simp; (try with_reducible rfl))
  (try simp only [Act.put, List.getElem_toArray, List.getElem_cons_succ, List.getElem_cons_zero, List.setIfInBounds_toArray, List.set_cons_zero, List.set_cons_succ])
  refine wpAnyH_take (i := 10) (v := ?_) rfl (by kernel_rfl) (by kernel_rfl) (by kernel_rfl) (fun _ _ _ h => h) (Or.inl ⟨by rfl, ?_⟩) (by assumption) ?_
  case refine_2 => (intro w hSw; (try dsimp only at hSw); go_simp; (try with_reducible rfl))
  (try simp only [Act.put, List.getElem_toArray, List.getElem_cons_succ, List.getElem_cons_zero, List.setIfInBounds_toArray, List.set_cons_zero, List.set_cons_succ])
  refine wpAnyH_take (i := 11) (v := ?_) rfl (by kernel_rfl) (by kernel_rfl) (by kernel_rfl) (fun _ _ _ h => h) (Or.inl ⟨by rfl, ?_⟩) (by assumption) ?_
  case refine_2 => (intro w hSw; (try dsimp only at hSw); go_simp; (try with_reducible rfl))
  (try simp only [Act.put, List.getElem_toArray, List.getElem_cons_succ, List.getElem_cons_zero, List.setIfInBounds_toArray, List.set_cons_zero, List.set_cons_succ])
  refine wpAnyH_take (i := 12) (v := ?_) rfl (by kernel_rfl) (by kernel_rfl) (by kernel_rfl) (fun _ _ _ h => h) (Or.inl ⟨by rfl, ?_⟩) (by assumption) ?_
  case refine_2 => (intro w hSw; (try dsimp only at hSw); go_simp; (try with_reducible rfl))
  (try simp only [Act.put, List.getElem_toArray, List.getElem_cons_succ, List.getElem_cons_zero, List.setIfInBounds_toArray, List.set_cons_zero, List.set_cons_succ])
  refine wpAnyH_take (i := 13) (v := ?_) rfl (by kernel_rfl) (by kernel_rfl) (by kernel_rfl) (fun _ _ _ h => h) (Or.inl ⟨by rfl, ?_⟩) (by assumption) ?_
  case refine_2 => (intro w hSw; (try dsimp only at hSw); go_simp; (try with_reducible rfl))
  (try simp only [Act.put, List.getElem_toArray, List.getElem_cons_succ, List.getElem_cons_zero, List.setIfInBounds_toArray, List.set_cons_zero, List.set_cons_succ])
  refine wpAnyH_take (i := 14) (v := ?_) rfl (by kernel_rfl) (by kernel_rfl) (by kernel_rfl) (fun _ _ _ h => h) (Or.inl ⟨by rfl, ?_⟩) (by assumption) ?_
  case refine_2 => (intro w hSw; (try dsimp only at hSw); go_simp; (try with_reducible rfl))
  (try simp only [Act.put, List.getElem_toArray, List.getElem_cons_succ, List.getElem_cons_zero, List.setIfInBounds_toArray, List.set_cons_zero, List.set_cons_succ])
  refine wpAnyH_take (i := 15) (v := ?_) rfl (by kernel_rfl) (by kernel_rfl) (by kernel_rfl) (fun _ _ _ h => h) (Or.inl ⟨by rfl, ?_⟩) (by assumption) ?_
  case refine_2 => (intro w hSw; (try dsimp only at hSw); go_simp; (try with_reducible rfl))
  (try simp only [Act.put, List.getElem_toArray, List.getElem_cons_succ, List.getElem_cons_zero, List.setIfInBounds_toArray, List.set_cons_zero, List.set_cons_succ])
  refine wpAnyH_take (i := 16) (v := ?_) rfl (by kernel_rfl) (by kernel_rfl) (by kernel_rfl) (fun _ _ _ h => h) (Or.inl ⟨by rfl, ?_⟩) (by assumption) ?_
  case refine_2 => (intro w hSw; (try dsimp only at hSw); go_simp; (try with_reducible rfl))
  (try simp only [Act.put, List.getElem_toArray, List.getElem_cons_succ, List.getElem_cons_zero, List.setIfInBounds_toArray, List.set_cons_zero, List.set_cons_succ])
  refine wpAnyH_take (i := 17) (v := ?_) rfl (by kernel_rfl) (by kernel_rfl) (by kernel_rfl) (fun _ _ _ h => h) (Or.inl ⟨by rfl, ?_⟩) (by assumption) ?_
  case refine_2 => (intro w hSw; (try dsimp only at hSw); go_simp; (try with_reducible rfl))
  (try simp only [Act.put, List.getElem_toArray, List.getElem_cons_succ, List.getElem_cons_zero, List.setIfInBounds_toArray, List.set_cons_zero, List.set_cons_succ])
  refine wpAnyH_ready (rs := [4]) (by kernel_rfl) (by simp) ?_
  refine AllReadyH.cons rfl (fun K hK => ?_) AllReadyH.nil
  go_simp
  refine (hT _ _).mono ?_
  rintro e w1 ⟨rfl, h1⟩
  replace h1 := h1.symm
  subst h1
  refine hK.out _ _ ⟨c0, c1, c2, c3, c4, c5, c6, c7⟩ (fun hHeld => ?_)
  clear hK K
  refine wpAnyH_ready (rs := [7]) (by kernel_rfl) (by simp) ?_
  refine AllReadyH.cons rfl (fun K hK => ?_) AllReadyH.nil
  go_simp
  refine (hT _ _).mono ?_
  rintro e w1 ⟨rfl, h1⟩
  replace h1 := h1.symm
  subst h1
  refine hK.out _ _ ⟨c0, c1, c2, c3, c4, c5, c6, c7⟩ (fun hHeld => ?_)
  clear hK K
  refine wpAnyH_ready (rs := [18]) (by kernel_rfl) (by simp) ?_
  refine AllReadyH.cons rfl (fun K hK => ?_) AllReadyH.nil
  go_simp
  have bN := al w0 (.cells #[.int .i64 i0, .int .i64 (bitI i1), .int .i64 (bitI i2), .int .i64 i3, .int .i64 i4, .int .i64 i5, .int .i64 i6, .int .i64 i7] 3)
  refine hK.out _ _ ⟨keep bN c0, keep bN c1, keep bN c2, keep bN c3, keep bN c4, keep bN c5, keep bN c6, keep bN c7⟩ (fun hHeld => ?_)
  clear hK K
  refine wpAnyH_take (i := 19) (v := ?_) rfl (by kernel_rfl) (by kernel_rfl) (by kernel_rfl) (fun _ _ _ h => h) (Or.inl ⟨by rfl, ?_⟩) (by assumption) ?_
  case refine_2 => (intro w hSw; (try dsimp only at hSw); go_simp; (try with_reducible rfl))
  (try simp only [Act.put, List.getElem_toArray, List.getElem_cons_succ, List.getElem_cons_zero, List.setIfInBounds_toArray, List.set_cons_zero, List.set_cons_succ])
  refine wpAnyH_done (by kernel_rfl) ?_ _
  clear hHeld
  go_wp2_with fail
  go_ret
  exact ⟨_, rfl, on b0 bN, heap_alloc_new _ _, b0.size⟩

theorem parts_ok {o : Osd} (h : osdB o = true) : ∀ v ∈ partsP o, 0 ≤ v ∧ v ≤ 2147483647 := by
  obtain ⟨p1, p2, p3, p4, p5, p6⟩ := osd_parts h
  have hl : 0 ≤ least o.up := by unfold least; split <;> omega
  have hb : ∀ b, 0 ≤ bitI b ∧ bitI b ≤ 1 := fun b => by unfold bitI; split <;> omega
  have h1 := hb o.up
  have h2 := hb o.inn
  intro v hv
  simp only [partsP, List.mem_cons, List.not_mem_nil, or_false] at hv
  rcases hv with rfl | rfl | rfl | rfl | rfl | rfl | rfl | rfl <;> omega

theorem pool_parts {p : Pool} (h : poolB p = true) : (1 ≤ p.k ∧ p.k ≤ 31) ∧ (1 ≤ p.m ∧ p.m ≤ 31) ∧ (1 ≤ p.pgs ∧ p.pgs ≤ 32) ∧ (0 ≤ p.dom ∧ p.dom ≤ 2) := by
  unfold poolB at h
  simp only [Bool.and_eq_true, wi_iff, decide_eq_true_eq] at h
  omega

theorem head_ok {m : Mp} (h : mayM m = true) : ∀ v ∈ headP m, 0 ≤ v ∧ v ≤ 2147483647 := by
  obtain ⟨p1, p2, p3, p4⟩ := may_parts h
  obtain ⟨q1, q2, q3, q4⟩ := pool_parts p2
  intro v hv
  simp only [headP, List.mem_cons, List.not_mem_nil, or_false] at hv
  rcases hv with rfl | rfl | rfl | rfl | rfl | rfl <;> omega

theorem nums_ok {m : Mp} (h : mayM m = true) (q : Nat) : ∀ v ∈ headP m ++ (m.osds.take q).flatMap partsP, 0 ≤ v ∧ v ≤ 2147483647 := by
  intro v hv
  rw [List.mem_append] at hv
  rcases hv with hv | hv
  · exact head_ok h v hv
  · rw [List.mem_flatMap] at hv
    obtain ⟨o, ho, hv⟩ := hv
    obtain ⟨k, hk⟩ := List.mem_iff_getElem?.1 (List.mem_of_mem_take ho)
    exact parts_ok ((may_parts h).2.2.2 k o hk).1 v hv

theorem flat_parts_len (L : List Osd) : (L.flatMap partsP).length = 8 * L.length := by
  induction L with
  | nil => rfl
  | cons a L ih =>
    rw [List.flatMap_cons, List.length_append, ih, List.length_cons]
    show 8 + _ = _
    omega

set_option maxHeartbeats 3200000 in
theorem encode_any {w : World} {x : Option Addr} {n c : Nat} (m : Mp) (h : Os w x n c m.osds) (hk : m.pool.k ≤ 9223372036854775807) :
    Calls Try.prog 24 #[vM m.ep m.pool x n c] w fun e w' => ∃ R, e = .returned (.tuple #[R, .int .i64 (errB (mayM m))]) ∧ Hid (OwnL w' w.heap.size R (if mayM m then wrB (numsM m) else []) ∧ Below w.heap.size w w') := by
  have hC := fun W (hW : Os W x n c m.osds) => check_any m hW hk
  have HO := hid h
  have HL := hid h.len
  have b0 := al w (.cells #[.int .i64 m.ep, .int .i64 m.pool.k, .int .i64 m.pool.m, .int .i64 m.pool.pgs, .int .i64 m.pool.dom, .slice x n c] 26)
  have hC0 := hC _ (HO.out.below b0)
  have HB := hid b0
  clear hC h hk b0
  cases hm : mayM m with
  | false =>
    rw [hm] at hC0
    obtain ⟨ep, ⟨pk, pm, pg, pd⟩, L⟩ := m
    unfold vM at *
    unfold errB at *
    dsimp only at hC0 HB ⊢
    go_enter Try.func24, Try.ntmps24
    go_wp2_with (go_at_call 15; refine hC0.mono ?_; rintro e w1 ⟨rfl, hb1⟩; clear hC0)
    go_ret2
    exact ⟨_, rfl, OwnL.start _ _, on HB.out hb1⟩
  | true =>
    rw [hm] at hC0
    have HNo := hid (fun q => nums_ok hm q)
    have h64 : n ≤ 64 := by rw [← HL.out]; exact (may_parts hm).2.2.1
    have HNm : Hid (numsM m = headP m ++ (m.osds.take n).flatMap partsP) := hid (by unfold numsM; rw [← HL.out, List.take_length])
    have HHd : Hid (headP m = [m.ep, m.pool.k, m.pool.m, m.pool.pgs, m.pool.dom, (n : Int)]) := hid (by unfold headP; rw [HL.out])
    have hX := fun W (hb : Below w.heap.size w W) => HO.out.below hb
    have HX := hid hX
    have HK := hid (heap_alloc_new w (.cells #[.int .i64 m.ep, .int .i64 m.pool.k, .int .i64 m.pool.m, .int .i64 m.pool.pgs, .int .i64 m.pool.dom, .slice x n c] 26))
    clear hm hX
    generalize numsM m = NM at *
    generalize headP m = HD at *
    obtain ⟨ep, ⟨pk, pm, pg, pd⟩, L⟩ := m
    unfold vM at *
    unfold errB at *
    dsimp only at hC0 HB HHd HK HX HNo HNm HL ⊢
    go_enter Try.func24, Try.ntmps24
    go_wp2_with (first
      | (
         go_at_call 15; refine hC0.mono ?_; rintro e w1 ⟨rfl, hb1⟩; clear hC0
         have ek := (hb1.block _ (Array.getElem?_eq_some_iff.1 HK.out).1).trans HK.out
         have k0 : w1.cell? ⟨w.heap.size, 0, none⟩ = some (.int .i64 ep) := cell_heap ek rfl
         have k1 : w1.cell? ⟨w.heap.size, 1, none⟩ = some (.int .i64 pk) := cell_heap ek rfl
         have k2 : w1.cell? ⟨w.heap.size, 2, none⟩ = some (.int .i64 pm) := cell_heap ek rfl
         have k3 : w1.cell? ⟨w.heap.size, 3, none⟩ = some (.int .i64 pg) := cell_heap ek rfl
         have k4 : w1.cell? ⟨w.heap.size, 4, none⟩ = some (.int .i64 pd) := cell_heap ek rfl
         have k5 : w1.cell? ⟨w.heap.size, 5, none⟩ = some (.slice x n c) := cell_heap ek rfl
         have l1 : w.heap.size < w1.heap.size := cell_lt' k0
         have B1 := on HB.out hb1
         clear hb1 ek))
    obtain ⟨W1, hW1⟩ : ∃ W1, W1 = w1.alloc (.cells #[.int .i64 ep, .int .i64 pk, .int .i64 pm, .int .i64 pg, .int .i64 pd, .int .i64 (n : Int)] 3) := ⟨_, rfl⟩
    have bW1 : Below w1.heap.size w1 W1 := by rw [hW1]; exact al _ _
    have ow1 : Own W1 w.heap.size 3 1 enI (.slice (some ⟨w1.heap.size, 0, none⟩) 6 6) (HD ++ (L.take 0).flatMap partsP) := by
      have e1 : HD ++ (L.take 0).flatMap partsP = HD := by simp
      have e2 : HD.length = 6 := by rw [HHd.out]; rfl
      rw [e1]
      have := Own.of_heap (w := W1) (g := w1.heap.size) (c := 6) (B := w.heap.size) (sz := 1) (enc := enI) (e := 3) (K := HD) (cur := #[.int .i64 ep, .int .i64 pk, .int .i64 pm, .int .i64 pg, .int .i64 pd, .int .i64 (n : Int)]) (by rw [hW1]; exact heap_alloc_new _ _) (by omega) (by omega) (by unfold maxLen; omega) rfl irow.len (by rw [HHd.out]; rfl)
      rw [e2] at this
      exact this
    have HF0 := hid (And.intro ow1 (on B1 bW1))
    rw [← hW1]
    clear hW1 bW1 ow1 k0 k1 k2 k3 k4 k5 B1
    go_loopw [34, 5, 7] (fun i v _ wx => ∃ q : Nat, q ≤ n ∧ i = .int .i64 q ∧ Hid (Own wx w.heap.size 3 1 enI v (HD ++ (L.take q).flatMap partsP) ∧ Below w.heap.size w wx)) (fun i _ _ _ => n - (intOf i).toNat)
    case atStart => exact ⟨0, by omega, rfl, HF0.out⟩
    case round =>
      obtain ⟨q, hq, rfl, HR⟩ := hrel
      have e2 : HD.length = 6 := by rw [HHd.out]; rfl
      have hlen : (HD ++ (L.take q).flatMap partsP).length = 6 + 8 * q := by rw [List.length_append, flat_parts_len, e2, List.length_take, HL.out, Nat.min_eq_left hq]
      have HLen := hid hlen
      obtain ⟨y, yc, hRe, _⟩ := HR.out.1.form
      rw [hlen] at hRe
      subst hRe
      clear hlen e2
      by_cases hlt : q < n
      · have hqI : (q : Int) < (n : Int) := by omega
        obtain ⟨a, ha⟩ : ∃ a, L[q]? = some a := ⟨L[q]'(by have := HL.out; omega), List.getElem?_eq_getElem (by have := HL.out; omega)⟩
        rcases (HX.out wr HR.out.2).row with h0 | ⟨b, o, rfl, hbl, hcell⟩
        · omega
        obtain ⟨u0, u1, u2, u3', u4, u5', u6, u7'⟩ := Os.at (n := n) (c := c) hcell ha
        have HS : Hid (HD ++ (L.take (q + 1)).flatMap partsP = HD ++ (L.take q).flatMap partsP ++ partsP a) := hid (by rw [List.take_add_one, ha]; simp)
        have bo := al wr (.cells #[.int .i64 a.id, .bool a.up, .bool a.inn, .int .i64 a.wt, .int .i64 a.life, .int .i64 a.boot, .int .i64 a.host, .int .i64 a.rack] 28)
        have hP := parts_any a (wr.alloc (.cells #[.int .i64 a.id, .bool a.up, .bool a.inn, .int .i64 a.wt, .int .i64 a.life, .int .i64 a.boot, .int .i64 a.host, .int .i64 a.rack] 28))
        have HP : Hid (∀ (W : World) (g : Nat), Below wr.heap.size wr W → Ns W g 3 (partsP a) → ∃ x' c' W', (Builtin.append_ #[76, 76] 76 #[.slice y (6 + 8 * q) yc, .slice (some ⟨g, 0, none⟩) 8 8]).run Try.prog W = .ok (.slice x' (6 + 8 * q + 8) c') W' ∧ Own W' w.heap.size 3 1 enI (.slice x' (6 + 8 * q + 8) c') (HD ++ (L.take (q + 1)).flatMap partsP) ∧ Below w.heap.size w W') := fun W g hb hn => by
          have ho := HR.out.1.below hb
          obtain ⟨x', c', W', hr, H⟩ := ho.push irow (Nat.le_trans HR.out.2.size hb.size) ⟨g, 0, none⟩ 8 8 (partsP a) rfl (fun j u hj => by
            rw [add_at, Nat.zero_add]
            have hjl := (List.getElem?_eq_some_iff.1 hj).1
            rw [flat_len irow.len] at hjl
            have hjl2 : j < (partsP a).length := by omega
            have := flat_get (enc := enI) (sz := 1) irow.len (partsP a) j _ (List.getElem?_eq_getElem hjl2) 0 (by omega)
            rw [Nat.mul_one, Nat.add_zero] at this
            rw [this] at hj
            rw [hn.cell (List.getElem?_eq_getElem hjl2)]
            exact hj) (by rw [HLen.out]; omega)
          rw [HLen.out] at hr H
          rw [HS.out]
          refine ⟨x', c', W', hr, H.out.1, (HR.out.2.trans (hb.mono HR.out.2.size)).trans (H.out.2.1.below (B := w.heap.size) (fun k hk => (World.ownsRow.lt ho k hk).1) (Nat.le_trans HR.out.2.size hb.size))⟩
        clear ha hcell
        obtain ⟨i0, i1, i2, i3, i4, i5, i6, i7⟩ := a
        unfold vO at hP
        dsimp only at u0 u1 u2 u3' u4 u5' u6 u7' bo hP
        go_wp2_with (first
          | (
             go_at_call 43; refine hP.mono ?_; rintro e w3 ⟨g, rfl, H3⟩; clear hP
             obtain ⟨x2, c2, w4, hr4, H4⟩ := HP.out w3 g (on bo H3.out.1) H3.out.2.1
             have HH4 := hid H4
             clear H4)
          | (at_builtin; refine Lib.wpList_append_run _ rfl _ _ _ _ rfl _ _ rfl rfl _ _ hr4 ?_))
        go_roundw
        case rel => exact ⟨q + 1, by omega, by go_num, HH4.out⟩
        case measure => simp [intOf]; omega
      · obtain rfl : q = n := by omega
        have hWr := write_any (own_is HR.out.1) (HNo.out q) (by omega)
        rw [← HNm.out] at hWr
        go_wp2_with (go_at_call 44; refine hWr.mono ?_; rintro e w5 ⟨R5, rfl, H5⟩; clear hWr)
        go_ret2
        exact ⟨_, rfl, H5.out.1.mono HR.out.2.size, on HR.out.2 H5.out.2⟩

end Go.Proofs.Ytnddhlkdemibgaa.At

/-
  Package atlas: EncodeChange.
  Conditions: none.
-/
namespace Go.Proofs.Ytnddhlkdemibgaa.At
open Go.RowKit By Fl Wi
set_option linter.unusedVariables false
set_option linter.unusedSimpArgs false
set_option maxRecDepth 100000

theorem osd_of_kind {c : Ch} (h : mayC c = true) : (1 ≤ c.kind ∧ c.kind ≤ 6) ∧ ∀ v ∈ partsP c.osd, 0 ≤ v ∧ v ≤ 2147483647 := by
  unfold mayC at h
  simp only [Bool.and_eq_true, wi_iff] at h
  refine ⟨h.1, ?_⟩
  have hm := h.2
  unfold mayK at hm
  have hb : ∀ b, 0 ≤ bitI b ∧ bitI b ≤ 1 := fun b => by unfold bitI; split <;> omega
  split at hm
  · exact parts_ok hm
  · split at hm
    · unfold upB at hm
      simp only [Bool.and_eq_true, wi_iff, eqO_iff] at hm
      obtain ⟨e, h2⟩ := hm
      intro v hv
      rw [e] at hv
      simp only [partsP, List.mem_cons, List.not_mem_nil, or_false] at hv
      have h3 := hb false
      rcases hv with rfl | rfl | rfl | rfl | rfl | rfl | rfl | rfl <;> omega
    · split at hm
      · unfold wtB at hm
        simp only [Bool.and_eq_true, wi_iff, eqO_iff] at hm
        obtain ⟨e, h2⟩ := hm
        intro v hv
        rw [e] at hv
        simp only [partsP, List.mem_cons, List.not_mem_nil, or_false] at hv
        have h3 := hb false
        rcases hv with rfl | rfl | rfl | rfl | rfl | rfl | rfl | rfl <;> omega
      · unfold idB noO at hm
        simp only [Bool.and_eq_true, wi_iff, eqO_iff] at hm
        obtain ⟨e, h2⟩ := hm
        intro v hv
        rw [e] at hv
        simp only [partsP, List.mem_cons, List.not_mem_nil, or_false] at hv
        have h3 := hb false
        rcases hv with rfl | rfl | rfl | rfl | rfl | rfl | rfl | rfl <;> omega

theorem ns_one (w : World) (k : Int) : Is (w.alloc (.cells #[.int .i64 k] 3)) (some ⟨w.heap.size, 0, none⟩) 1 1 [k] := Ns.is (Ns.new w 3 [k])

set_option maxHeartbeats 3200000 in
theorem encodeChange_any (c : Ch) (w : World) : Calls Try.prog 26 #[vC c] w fun e w' => ∃ R, e = .returned (.tuple #[R, .int .i64 (errB (mayC c))]) ∧ Hid (OwnL w' w.heap.size R (if mayC c then wrB (numsC c) else []) ∧ Below w.heap.size w w') := by
  have hC := fun W => checkChange_any c W
  cases hm : mayC c with
  | false =>
    rw [hm] at hC
    obtain ⟨ck, c0, c1, c2, c3, c4, c5, c6, c7⟩ := c
    unfold vC errB at *
    dsimp only at hC ⊢
    go_enter Try.func26, Try.ntmps26
    go_wp2_with (go_at_call 17; refine (hC _).mono ?_; rintro e w1 ⟨rfl, hb1⟩; clear hC)
    go_ret2
    exact ⟨_, rfl, OwnL.start _ _, on (al _ _) hb1⟩
  | true =>
    rw [hm] at hC
    obtain ⟨hk, hp⟩ := osd_of_kind hm
    have HK := hid (show ∀ v ∈ [c.kind], 0 ≤ v ∧ v ≤ 2147483647 from fun v hv => by simp at hv; omega)
    have HPk := hid hp
    have HNC : Hid (wrB (numsC c) = wrB [c.kind] ++ wrB (partsP c.osd)) := hid (by rw [← wrB_app]; rfl)
    have hPa := fun W => parts_any c.osd W
    have HWl : Hid ((wrB [c.kind]).length ≤ 10 ∧ (wrB (partsP c.osd)).length ≤ 80) := by
      have h1 := wrB_len [c.kind] HK.out
      have h2 := wrB_len (partsP c.osd) HPk.out
      exact ⟨by simpa using h1, by simpa [partsP] using h2⟩
    clear hm hk hp
    generalize wrB (numsC c) = NC at *
    obtain ⟨PP, hPP⟩ : ∃ P, P = partsP c.osd := ⟨_, rfl⟩
    have hPl : PP.length = 8 := by rw [hPP]; rfl
    have HPl := hid hPl
    rw [← hPP] at HPk HNC hPa HWl
    clear hPP hPl
    obtain ⟨ck, c0, c1, c2, c3, c4, c5, c6, c7⟩ := c
    unfold vC errB at *
    unfold vO at hPa
    dsimp only at hC hPa HK HNC HWl ⊢
    have b0 := al w (.cells #[.int .i64 ck, .int .i64 c0, .bool c1, .bool c2, .int .i64 c3, .int .i64 c4, .int .i64 c5, .int .i64 c6, .int .i64 c7] 30)
    have HX := hid (heap_alloc_new w (.cells #[.int .i64 ck, .int .i64 c0, .bool c1, .bool c2, .int .i64 c3, .int .i64 c4, .int .i64 c5, .int .i64 c6, .int .i64 c7] 30))
    go_enter Try.func26, Try.ntmps26
    go_wp2_with (go_at_call 17; refine (hC _).mono ?_; rintro e w1 ⟨rfl, hb1⟩; clear hC)
    have ek := (hb1.block _ (Array.getElem?_eq_some_iff.1 HX.out).1).trans HX.out
    obtain ⟨wD, hwD⟩ : ∃ wD, wD = w1.drew := ⟨_, rfl⟩
    have ekD : wD.heap[w.heap.size]? = some (.cells #[.int .i64 ck, .int .i64 c0, .bool c1, .bool c2, .int .i64 c3, .int .i64 c4, .int .i64 c5, .int .i64 c6, .int .i64 c7] 30) := by rw [hwD]; exact ek
    have B1 : Below w.heap.size w wD := by rw [hwD]; exact (on b0 hb1).drew
    have k0 : wD.cell? ⟨w.heap.size, 0, none⟩ = some (.int .i64 ck) := cell_heap ekD rfl
    have k1 : wD.cell? ⟨w.heap.size, 1, none⟩ = some (.int .i64 c0) := cell_heap ekD rfl
    have k2 : wD.cell? ⟨w.heap.size, 2, none⟩ = some (.bool c1) := cell_heap ekD rfl
    have k3 : wD.cell? ⟨w.heap.size, 3, none⟩ = some (.bool c2) := cell_heap ekD rfl
    have k4 : wD.cell? ⟨w.heap.size, 4, none⟩ = some (.int .i64 c3) := cell_heap ekD rfl
    have k5 : wD.cell? ⟨w.heap.size, 5, none⟩ = some (.int .i64 c4) := cell_heap ekD rfl
    have k6 : wD.cell? ⟨w.heap.size, 6, none⟩ = some (.int .i64 c5) := cell_heap ekD rfl
    have k7 : wD.cell? ⟨w.heap.size, 7, none⟩ = some (.int .i64 c6) := cell_heap ekD rfl
    have k8 : wD.cell? ⟨w.heap.size, 8, none⟩ = some (.int .i64 c7) := cell_heap ekD rfl
    have HWD := hid hwD
    clear hwD ek ekD hb1 b0
    refine wp_region_held_drew (S := fun v => v.cell? ⟨w.heap.size, 0, none⟩ = some (.int .i64 ck) ∧ v.cell? ⟨w.heap.size, 1, none⟩ = some (.int .i64 c0) ∧ v.cell? ⟨w.heap.size, 2, none⟩ = some (.bool c1) ∧ v.cell? ⟨w.heap.size, 3, none⟩ = some (.bool c2) ∧ v.cell? ⟨w.heap.size, 4, none⟩ = some (.int .i64 c3) ∧ v.cell? ⟨w.heap.size, 5, none⟩ = some (.int .i64 c4) ∧ v.cell? ⟨w.heap.size, 6, none⟩ = some (.int .i64 c5) ∧ v.cell? ⟨w.heap.size, 7, none⟩ = some (.int .i64 c6) ∧ v.cell? ⟨w.heap.size, 8, none⟩ = some (.int .i64 c7)) (by kernel_rfl) (by rw [← HWD.out]; exact ⟨k0, k1, k2, k3, k4, k5, k6, k7, k8⟩) (fun hHeld => ?_)
    rw [← HWD.out] at hHeld ⊢
    refine wpAnyH_take (i := 0) (v := ?_) rfl (by kernel_rfl) (by kernel_rfl) (by kernel_rfl) (fun _ _ _ h => h) (Or.inl ⟨by rfl, ?_⟩) (by assumption) ?_
    case refine_2 => (intro w hSw; (try dsimp only at hSw); go_simp; (try with_reducible rfl))
    (try simp only [Act.put, List.getElem_toArray, List.getElem_cons_succ, List.getElem_cons_zero, List.setIfInBounds_toArray, List.set_cons_zero, List.set_cons_succ])
    refine wpAnyH_take (i := 1) (v := ?_) rfl (by kernel_rfl) (by kernel_rfl) (by kernel_rfl) (fun _ _ _ h => h) (Or.inl ⟨by rfl, ?_⟩) (by assumption) ?_
    case refine_2 => (intro w hSw; (try dsimp only at hSw); go_simp; (try with_reducible rfl))
    (try simp only [Act.put, List.getElem_toArray, List.getElem_cons_succ, List.getElem_cons_zero, List.setIfInBounds_toArray, List.set_cons_zero, List.set_cons_succ])
    refine wpAnyH_take (i := 4) (v := ?_) rfl (by kernel_rfl) (by kernel_rfl) (by kernel_rfl) (fun _ _ _ h => h) (Or.inl ⟨by rfl, ?_⟩) (by assumption) ?_
    case refine_2 => (intro w hSw; (try dsimp only at hSw); go_simp; (try with_reducible rfl))
    (try simp only [Act.put, List.getElem_toArray, List.getElem_cons_succ, List.getElem_cons_zero, List.setIfInBounds_toArray, List.set_cons_zero, List.set_cons_succ])
    refine wpAnyH_take (i := 5) (v := ?_) rfl (by kernel_rfl) (by kernel_rfl) (by kernel_rfl) (fun _ _ _ h => h) (Or.inl ⟨by rfl, ?_⟩) (by assumption) ?_
    case refine_2 => (intro w hSw; (try dsimp only at hSw); go_simp; (try with_reducible rfl))
    (try simp only [Act.put, List.getElem_toArray, List.getElem_cons_succ, List.getElem_cons_zero, List.setIfInBounds_toArray, List.set_cons_zero, List.set_cons_succ])
    refine wpAnyH_ready (rs := [2]) (by kernel_rfl) (by simp) ?_
    refine AllReadyH.cons rfl (fun K hK => ?_) AllReadyH.nil
    go_simp
    have bN := al wD (.cells #[.int .i64 ck] 3)
    refine hK.out _ _ ⟨keep bN k0, keep bN k1, keep bN k2, keep bN k3, keep bN k4, keep bN k5, keep bN k6, keep bN k7, keep bN k8⟩ (fun hHeld => ?_)
    clear hK K
    refine wpAnyH_ready (rs := [3]) (by kernel_rfl) (by simp) ?_
    refine AllReadyH.cons rfl (fun K hK => ?_) AllReadyH.nil
    go_simp
    refine (write_any (ns_one wD ck) HK.out (by omega)).mono ?_
    rintro e w2 ⟨R2, rfl, H2⟩
    have b2 := on bN H2.out.2
    refine hK.out _ _ ⟨keep b2 k0, keep b2 k1, keep b2 k2, keep b2 k3, keep b2 k4, keep b2 k5, keep b2 k6, keep b2 k7, keep b2 k8⟩ (fun hHeld => ?_)
    clear hK K
    refine wpAnyH_ready (rs := [6]) (by kernel_rfl) (by simp) ?_
    refine AllReadyH.cons rfl (fun K hK => ?_) AllReadyH.nil
    go_simp
    refine (hPa w2).mono ?_
    rintro e w3 ⟨g3, rfl, H3⟩
    have b3 := on b2 H3.out.1
    have hI3 := H3.out.2.1.is
    rw [HPl.out] at hI3
    refine hK.out _ _ ⟨keep b3 k0, keep b3 k1, keep b3 k2, keep b3 k3, keep b3 k4, keep b3 k5, keep b3 k6, keep b3 k7, keep b3 k8⟩ (fun hHeld => ?_)
    clear hK K
    refine wpAnyH_ready (rs := [7]) (by kernel_rfl) (by simp) ?_
    refine AllReadyH.cons rfl (fun K hK => ?_) AllReadyH.nil
    go_simp
    refine (write_any hI3 HPk.out (by omega)).mono ?_
    rintro e w4 ⟨R4, rfl, H4⟩
    have b4 := on b3 H4.out.2
    obtain ⟨x4, d4, rfl, hs4, _⟩ := H4.out.1.sl (wrB_lt _)
    have ho4 := (H2.out.1.mono bN.size).below (on H3.out.1 H4.out.2)
    obtain ⟨R5, w5, hr5, ho5, hb5⟩ := push_list w4 wD wD.heap.size R2 _ ho4 b4.size b4 x4 _ d4 _ hs4 (by have := HWl.out; omega)
    refine hK.out _ _ ⟨keep b4 k0, keep b4 k1, keep b4 k2, keep b4 k3, keep b4 k4, keep b4 k5, keep b4 k6, keep b4 k7, keep b4 k8⟩ (fun hHeld => ?_)
    clear hK K
    refine wpAnyH_ready (rs := [8]) (by kernel_rfl) (by simp) ?_
    refine AllReadyH.cons rfl (fun K hK => ?_) AllReadyH.nil
    refine st_append rfl _ _ 52 rfl _ _ rfl rfl hr5 ?_
    (try simp only [Act.put, List.getElem_toArray, List.getElem_cons_succ, List.getElem_cons_zero, List.setIfInBounds_toArray, List.set_cons_zero, List.set_cons_succ])
    refine hK.out _ _ ⟨keep hb5 k0, keep hb5 k1, keep hb5 k2, keep hb5 k3, keep hb5 k4, keep hb5 k5, keep hb5 k6, keep hb5 k7, keep hb5 k8⟩ (fun hHeld => ?_)
    clear hK K
    refine wpAnyH_take (i := 9) (v := ?_) rfl (by kernel_rfl) (by kernel_rfl) (by kernel_rfl) (fun _ _ _ h => h) (Or.inl ⟨by rfl, ?_⟩) (by assumption) ?_
    case refine_2 => (intro w hSw; (try dsimp only at hSw); go_simp; (try with_reducible rfl))
    (try simp only [Act.put, List.getElem_toArray, List.getElem_cons_succ, List.getElem_cons_zero, List.setIfInBounds_toArray, List.set_cons_zero, List.set_cons_succ])
    refine wpAnyH_take (i := 10) (v := ?_) rfl (by kernel_rfl) (by kernel_rfl) (by kernel_rfl) (fun _ _ _ h => h) (Or.inl ⟨by rfl, ?_⟩) (by assumption) ?_
    case refine_2 => (intro w hSw; (try dsimp only at hSw); go_simp; (try with_reducible rfl))
    (try simp only [Act.put, List.getElem_toArray, List.getElem_cons_succ, List.getElem_cons_zero, List.setIfInBounds_toArray, List.set_cons_zero, List.set_cons_succ])
    refine wpAnyH_done (by kernel_rfl) ?_ _
    clear hHeld
    go_wp2_with fail
    go_ret2
    exact ⟨_, rfl, by rw [HNC.out]; exact ho5.mono B1.size, on B1 hb5⟩

end Go.Proofs.Ytnddhlkdemibgaa.At

/-
  Whether maps are alike: slices.Equal, atlas.Same, the document's Same.
  Conditions: lists lie in memory.
-/
namespace Go.Proofs.Ytnddhlkdemibgaa.At
open Go.RowKit By Fl
set_option linter.unusedVariables false
set_option linter.unusedSimpArgs false
set_option maxRecDepth 100000

theorem neq_osd (a b : Osd) (w : World) : (binOp .neq 28 (vO a) (vO b)).run Try.prog w = .ok (.bool (!eqO a b)) w := by
  obtain ⟨a0, a1, a2, a3, a4, a5, a6, a7⟩ := a
  obtain ⟨b0, b1, b2, b3, b4, b5, b6, b7⟩ := b
  unfold vO eqO
  dsimp only
  go_simp
  by_cases e0 : a0 = b0 <;> by_cases e1 : a1 = b1 <;> by_cases e2 : a2 = b2 <;> by_cases e3 : a3 = b3 <;> by_cases e4 : a4 = b4 <;> by_cases e5 : a5 = b5 <;> by_cases e6 : a6 = b6 <;> by_cases e7 : a7 = b7 <;> simp [e0, e1, e2, e3, e4, e5, e6, e7]

theorem eq_pool (a b : Pool) (w : World) : (binOp .eql 23 (vP a) (vP b)).run Try.prog w = .ok (.bool (eqP a b)) w := by
  obtain ⟨a0, a1, a2, a3⟩ := a
  obtain ⟨b0, b1, b2, b3⟩ := b
  unfold vP eqP
  dsimp only
  go_simp
  by_cases e0 : a0 = b0 <;> by_cases e1 : a1 = b1 <;> by_cases e2 : a2 = b2 <;> by_cases e3 : a3 = b3 <;> simp [e0, e1, e2, e3]

theorem neq_pool (a b : Pool) (w : World) : (binOp .neq 23 (vP a) (vP b)).run Try.prog w = .ok (.bool (!eqP a b)) w := by
  obtain ⟨a0, a1, a2, a3⟩ := a
  obtain ⟨b0, b1, b2, b3⟩ := b
  unfold vP eqP
  dsimp only
  go_simp
  by_cases e0 : a0 = b0 <;> by_cases e1 : a1 = b1 <;> by_cases e2 : a2 = b2 <;> by_cases e3 : a3 = b3 <;> simp [e0, e1, e2, e3]

theorem eqL_len {a b : List Osd} (h : a.length ≠ b.length) : eqL a b = false := by
  cases hq : eqL a b with
  | false => rfl
  | true => exact absurd (congrArg List.length ((eqL_iff a b).1 hq)) h

theorem eqL_bad {a b : List Osd} {k : Nat} {u v : Osd} (hu : a[k]? = some u) (hv : b[k]? = some v) (h : eqO u v = false) : eqL a b = false := by
  cases hq : eqL a b with
  | false => rfl
  | true =>
    have := (eqL_iff a b).1 hq
    subst this
    have := Option.some.inj (hu.symm.trans hv)
    subst this
    rw [(eqO_iff u u).2 rfl] at h
    cases h

def SameTo (a b : List Osd) (k : Nat) : Prop := ∀ (j : Nat) (u v : Osd), j < k → a[j]? = some u → b[j]? = some v → eqO u v = true

theorem SameTo.all {a b : List Osd} (h : SameTo a b a.length) (hl : a.length = b.length) : eqL a b = true := by
  rw [eqL_iff]
  apply List.ext_getElem?
  intro i
  by_cases hi : i < a.length
  · rw [List.getElem?_eq_getElem hi, List.getElem?_eq_getElem (by omega)]
    exact congrArg some ((eqO_iff _ _).1 (h i _ _ hi (List.getElem?_eq_getElem hi) (List.getElem?_eq_getElem (by omega))))
  · rw [List.getElem?_eq_none (by omega), List.getElem?_eq_none (by omega)]

theorem SameTo.step {a b : List Osd} {k : Nat} {u v : Osd} (h : SameTo a b k) (hu : a[k]? = some u) (hv : b[k]? = some v) (he : eqO u v = true) : SameTo a b (k + 1) := fun j u' v' hj hu' hv' => by
  by_cases e : j = k
  · subst e
    have h1 := Option.some.inj (hu.symm.trans hu')
    have h2 := Option.some.inj (hv.symm.trans hv')
    subst h1 h2
    exact he
  · exact h j u' v' (by omega) hu' hv'

set_option maxHeartbeats 1600000 in
theorem equal_any {w : World} {x y : Option Addr} {n c n' c' : Nat} {L M : List Osd} (h : Os w x n c L) (h' : Os w y n' c' M) :
    Calls Try.prog 42 #[.slice x n c, .slice y n' c'] w fun e w' => e = .returned (.bool (eqL L M)) ∧ Below w.heap.size w w' := by
  have hm := h.small
  have hm' := h'.small
  have HL := hid h.len
  have HM := hid h'.len
  by_cases hn : n = n'
  · subst hn
    have HO := hid h
    have HO' := hid h'
    clear h h'
    go_enter Try.func42, Try.ntmps42
    go_wp2_with fail
    go_loopw [13, 5] (fun i _ wr => ∃ q : Nat, q ≤ n ∧ i = .int .i64 q ∧ Hid (Below w.heap.size w wr ∧ SameTo L M q)) (fun i _ _ => n - (intOf i).toNat)
    case atStart => exact ⟨0, by omega, rfl, Below.refl _ _, fun j u v hj => by omega⟩
    case round =>
      obtain ⟨q, hq, rfl, HR⟩ := hrel
      by_cases hlt : q < n
      · have hqn : (q : Int) < (n : Int) := by omega
        obtain ⟨u, hu⟩ : ∃ a, L[q]? = some a := ⟨L[q]'(by have := HL.out; omega), List.getElem?_eq_getElem (by have := HL.out; omega)⟩
        obtain ⟨v, hv⟩ : ∃ a, M[q]? = some a := ⟨M[q]'(by have := HM.out; omega), List.getElem?_eq_getElem (by have := HM.out; omega)⟩
        have ho := HO.out.below HR.out.1
        have ho' := HO'.out.below HR.out.1
        rcases ho.row with h0 | ⟨b, o, rfl, hbl, hcell⟩
        · omega
        rcases ho'.row with h0 | ⟨b', o', rfl, hbl', hcell'⟩
        · omega
        obtain ⟨k0, k1, k2, k3, k4, k5, k6, k7⟩ := Os.at (n := n) (c := c) hcell hu
        obtain ⟨l0, l1, l2, l3, l4, l5, l6, l7⟩ := Os.at (n := n) (c := c) hcell' hv
        have hE := fun W => neq_osd u v W
        obtain ⟨t, ht⟩ : ∃ t, t = eqO u v := ⟨_, rfl⟩
        rw [← ht] at hE
        have HA := hid (show L[q]? = some u ∧ M[q]? = some v ∧ t = eqO u v from ⟨hu, hv, ht⟩)
        clear hcell hcell' hu hv ht ho ho'
        obtain ⟨u0, u1, u2, u3, u4, u5, u6, u7⟩ := u
        obtain ⟨v0, v1, v2, v3, v4, v5, v6, v7⟩ := v
        unfold vO at hE
        dsimp only at k0 k1 k2 k3 k4 k5 k6 k7 l0 l1 l2 l3 l4 l5 l6 l7 hE
        cases t with
        | true =>
          go_wp2_with fail
          go_quiet (fail)
          go_wp2_with fail
          go_roundw
          case rel => exact ⟨q + 1, by omega, by go_num, below_drewN' HR.out.1 _, HR.out.2.step HA.out.1 HA.out.2.1 HA.out.2.2.symm⟩
          case measure => simp [intOf]; omega
        | false =>
          go_wp2_with fail
          go_quiet (fail)
          go_wp2_with fail
          go_ret
          exact ⟨by rw [eqL_bad HA.out.1 HA.out.2.1 HA.out.2.2.symm]; rfl, below_drewN' HR.out.1 _⟩
      · have hq2 : q = n := by omega
        subst hq2
        go_wp2_with fail
        go_ret
        exact ⟨by rw [SameTo.all (by rw [HL.out]; exact HR.out.2) (by rw [HL.out, HM.out])]; rfl, HR.out.1⟩
  · have hne : (n : Int) ≠ (n' : Int) := by omega
    have HF : Hid (eqL L M = false) := eqL_len (by rw [h.len, h'.len]; exact hn)
    clear h h' hn
    go_enter Try.func42, Try.ntmps42
    go_wp2_with fail
    go_ret
    exact ⟨by rw [HF.out]; rfl, Below.refl _ _⟩

end Go.Proofs.Ytnddhlkdemibgaa.At

/-
  Whether maps are alike: atlas.Same, the document's Same.
  Conditions: lists lie in memory.
-/
namespace Go.Proofs.Ytnddhlkdemibgaa.At
open Go.RowKit By Fl
set_option linter.unusedVariables false
set_option linter.unusedSimpArgs false
set_option maxRecDepth 100000

set_option maxHeartbeats 1600000 in
theorem same_any {w : World} {x y : Option Addr} {n c n' c' : Nat} (a b : Mp) (h : Os w x n c a.osds) (h' : Os w y n' c' b.osds) :
    Calls Try.prog 22 #[vM a.ep a.pool x n c, vM b.ep b.pool y n' c'] w fun e w' => e = .returned (.bool (eqM a b)) ∧ Below w.heap.size w w' := by
  obtain ⟨ea, pa, L⟩ := a
  obtain ⟨eb, pb, M⟩ := b
  have hE := fun W => eq_pool pa pb W
  unfold eqM
  dsimp only at h h' ⊢
  have b0 := on (al w (.cells #[.int .i64 ea, .int .i64 pa.k, .int .i64 pa.m, .int .i64 pa.pgs, .int .i64 pa.dom, .slice x n c] 26)) (al _ (.cells #[.int .i64 eb, .int .i64 pb.k, .int .i64 pb.m, .int .i64 pb.pgs, .int .i64 pb.dom, .slice y n' c'] 26))
  have hQ := equal_any (h.below b0) (h'.below b0)
  generalize eqP pa pb = t1 at *
  generalize eqL L M = t2 at *
  obtain ⟨a1, a2, a3, a4⟩ := pa
  obtain ⟨b1, b2, b3, b4⟩ := pb
  unfold vM
  unfold vP at hE
  dsimp only at hE hQ b0 ⊢
  clear h h'
  by_cases e : ea = eb
  · subst e
    cases t1 with
    | false =>
      go_enter Try.func22, Try.ntmps22
      go_wp2_with fail
      go_ret
      exact ⟨by simp, b0⟩
    | true =>
      go_enter Try.func22, Try.ntmps22
      go_wp2_with (go_at_call 42; refine hQ.mono ?_; rintro e w2 ⟨rfl, hb2⟩; clear hQ)
      go_ret
      exact ⟨by simp, on b0 hb2⟩
  · have hne : ea ≠ eb := e
    go_enter Try.func22, Try.ntmps22
    go_wp2_with fail
    go_ret
    exact ⟨by simp [e], b0⟩

set_option maxHeartbeats 1600000 in
theorem rsame_any {w : World} {x y : Option Addr} {n c n' c' : Nat} (a b : Mp) (h : Os w x n c a.osds) (h' : Os w y n' c' b.osds) :
    Calls Try.prog 14 #[vM a.ep a.pool x n c, vM b.ep b.pool y n' c'] w fun e w' => e = .returned (.bool (eqM a b)) ∧ Below w.heap.size w w' := by
  obtain ⟨ea, pa, L⟩ := a
  obtain ⟨eb, pb, M⟩ := b
  have hE := fun W => neq_pool pa pb W
  unfold eqM
  dsimp only at h h' ⊢
  have hm := h.small
  have hm' := h'.small
  have b0 := on (al w (.cells #[.int .i64 ea, .int .i64 pa.k, .int .i64 pa.m, .int .i64 pa.pgs, .int .i64 pa.dom, .slice x n c] 26)) (al _ (.cells #[.int .i64 eb, .int .i64 pb.k, .int .i64 pb.m, .int .i64 pb.pgs, .int .i64 pb.dom, .slice y n' c'] 26))
  have HO := hid (h.below b0)
  have HO' := hid (h'.below b0)
  have HL := hid h.len
  have HM := hid h'.len
  have k5 : ((w.alloc (.cells #[.int .i64 ea, .int .i64 pa.k, .int .i64 pa.m, .int .i64 pa.pgs, .int .i64 pa.dom, .slice x n c] 26)).alloc (.cells #[.int .i64 eb, .int .i64 pb.k, .int .i64 pb.m, .int .i64 pb.pgs, .int .i64 pb.dom, .slice y n' c'] 26)).cell? ⟨w.heap.size, 5, none⟩ = some (.slice x n c) := by go_simp
  have l5 : ((w.alloc (.cells #[.int .i64 ea, .int .i64 pa.k, .int .i64 pa.m, .int .i64 pa.pgs, .int .i64 pa.dom, .slice x n c] 26)).alloc (.cells #[.int .i64 eb, .int .i64 pb.k, .int .i64 pb.m, .int .i64 pb.pgs, .int .i64 pb.dom, .slice y n' c'] 26)).cell? ⟨w.heap.size + 1, 5, none⟩ = some (.slice y n' c') := by go_simp
  have HK := hid (And.intro k5 l5)
  generalize eqP pa pb = t1 at *
  obtain ⟨a1, a2, a3, a4⟩ := pa
  obtain ⟨b1, b2, b3, b4⟩ := pb
  unfold vM
  unfold vP at hE
  have HB := hid b0
  dsimp only at hE HB HK HO HO' ⊢
  clear h h' k5 l5 b0
  by_cases e : ea = eb
  · subst e
    cases t1 with
    | false =>
      go_enter Try.func14, Try.ntmps14
      go_wp2_with fail
      go_ret
      exact ⟨by simp, HB.out⟩
    | true =>
      by_cases hn : n = n'
      · subst hn
        go_enter Try.func14, Try.ntmps14
        go_wp2_with fail
        generalize (w.alloc (.cells #[.int .i64 ea, .int .i64 a1, .int .i64 a2, .int .i64 a3, .int .i64 a4, .slice x n c] 26)).alloc (.cells #[.int .i64 ea, .int .i64 b1, .int .i64 b2, .int .i64 b3, .int .i64 b4, .slice y n c'] 26) = w0 at *
        go_loopw [5] (fun i wr => ∃ q : Nat, q ≤ n ∧ i = .int .i64 q ∧ Hid (Below w0.heap.size w0 wr ∧ SameTo L M q)) (fun i _ => n - (intOf i).toNat)
        case atStart => exact ⟨0, by omega, rfl, Below.refl _ _, fun j u v hj => by omega⟩
        case round =>
          obtain ⟨q, hq, rfl, HR⟩ := hrel
          have k5 := keep HR.out.1 HK.out.1
          have j5 := keep HR.out.1 HK.out.2
          by_cases hlt : q < n
          · have hqn : (q : Int) < (n : Int) := by omega
            obtain ⟨u, hu⟩ : ∃ a, L[q]? = some a := ⟨L[q]'(by have := HL.out; omega), List.getElem?_eq_getElem (by have := HL.out; omega)⟩
            obtain ⟨v, hv⟩ : ∃ a, M[q]? = some a := ⟨M[q]'(by have := HM.out; omega), List.getElem?_eq_getElem (by have := HM.out; omega)⟩
            have ho := HO.out.below HR.out.1
            have ho' := HO'.out.below HR.out.1
            rcases ho.row with h0 | ⟨b, o, rfl, hbl, hcell⟩
            · omega
            rcases ho'.row with h0 | ⟨b', o', rfl, hbl', hcell'⟩
            · omega
            obtain ⟨k0, k1, k2, k3, k4, k5', k6, k7⟩ := Os.at (n := n) (c := c) hcell hu
            obtain ⟨l0, l1, l2, l3, l4, l5', l6, l7⟩ := Os.at (n := n) (c := c) hcell' hv
            have hE2 := fun W => neq_osd u v W
            obtain ⟨t, ht⟩ : ∃ t, t = eqO u v := ⟨_, rfl⟩
            rw [← ht] at hE2
            have HA := hid (show L[q]? = some u ∧ M[q]? = some v ∧ t = eqO u v from ⟨hu, hv, ht⟩)
            clear hcell hcell' hu hv ht ho ho' hE
            obtain ⟨u0, u1, u2, u3, u4, u5, u6, u7⟩ := u
            obtain ⟨v0, v1, v2, v3, v4, v5, v6, v7⟩ := v
            unfold vO at hE2
            dsimp only at k0 k1 k2 k3 k4 k5' k6 k7 l0 l1 l2 l3 l4 l5' l6 l7 hE2
            cases t with
            | true =>
              go_wp2_with fail
              go_quiet (fail)
              go_wp2_with fail
              go_roundw
              case rel => exact ⟨q + 1, by omega, by go_num, below_drewN' HR.out.1 _, HR.out.2.step HA.out.1 HA.out.2.1 HA.out.2.2.symm⟩
              case measure => simp [intOf]; omega
            | false =>
              go_wp2_with fail
              go_quiet (fail)
              go_wp2_with fail
              go_ret
              exact ⟨by rw [eqL_bad HA.out.1 HA.out.2.1 HA.out.2.2.symm]; simp, on HB.out (below_drewN' HR.out.1 _)⟩
          · have hq2 : q = n := by omega
            subst hq2
            go_wp2_with fail
            go_ret
            exact ⟨by rw [SameTo.all (by rw [HL.out]; exact HR.out.2) (by rw [HL.out, HM.out])]; simp, on HB.out HR.out.1⟩
      · have hne : (n : Int) ≠ (n' : Int) := by omega
        have HF : Hid (eqL L M = false) := eqL_len (by rw [HL.out, HM.out]; exact hn)
        clear hn
        go_enter Try.func14, Try.ntmps14
        go_wp2_with fail
        go_ret
        exact ⟨by rw [HF.out]; simp, HB.out⟩
  · have hne : ea ≠ eb := e
    go_enter Try.func14, Try.ntmps14
    go_wp2_with fail
    go_ret
    exact ⟨by simp [e], HB.out⟩

end Go.Proofs.Ytnddhlkdemibgaa.At

/-
  Unlike maps, and unlike changes, have unlike bytes.
  Conditions: maps and changes that may be.
-/
namespace Go.Proofs.Ytnddhlkdemibgaa.At
open Go.RowKit By Fl Wi
set_option linter.unusedVariables false
set_option linter.unusedSimpArgs false
set_option maxRecDepth 100000

theorem uv_split {a b : Nat} {s t : List Nat} (ha : a < 18446744073709551616) (hb : b < 18446744073709551616) (h : uv a ++ s = uv b ++ t) : a = b ∧ s = t := by
  have h1 := lead_uv ha s
  rw [h, lead_uv hb t] at h1
  injection h1 with h1
  injection h1 with h1 h2
  subst h1
  exact ⟨rfl, List.append_cancel_left h⟩

def Okn (l : List Int) : Prop := ∀ v ∈ l, 0 ≤ v ∧ v ≤ 2147483647

theorem wrB_split : ∀ (l k : List Int) (s t : List Nat), Okn l → Okn k → l.length = k.length → wrB l ++ s = wrB k ++ t → l = k ∧ s = t
  | [], [], s, t, _, _, _, h => ⟨rfl, h⟩
  | [], b :: k, _, _, _, _, h, _ => by cases h
  | a :: l, [], _, _, _, _, h, _ => by cases h
  | a :: l, b :: k, s, t, hl, hk, hn, h => by
    have h' : uv a.toNat ++ (wrB l ++ s) = uv b.toNat ++ (wrB k ++ t) := by simpa [wrB, List.append_assoc] using h
    have ha := hl a List.mem_cons_self
    have hb := hk b List.mem_cons_self
    obtain ⟨e1, e2⟩ := uv_split (by omega) (by omega) h'
    obtain ⟨e3, e4⟩ := wrB_split l k s t (fun v hv => hl v (List.mem_cons_of_mem _ hv)) (fun v hv => hk v (List.mem_cons_of_mem _ hv)) (by simpa using hn) e2
    have : a = b := by omega
    subst this e3
    exact ⟨rfl, e4⟩

theorem bitI_inj {a b : Bool} (h : bitI a = bitI b) : a = b := by cases a <;> cases b <;> simp [bitI] at h <;> rfl

theorem partsP_inj {a b : Osd} (h : partsP a = partsP b) : a = b := by
  obtain ⟨a0, a1, a2, a3, a4, a5, a6, a7⟩ := a
  obtain ⟨b0, b1, b2, b3, b4, b5, b6, b7⟩ := b
  simp only [partsP, List.cons.injEq, and_true] at h
  obtain ⟨h0, h1, h2, h3, h4, h5, h6, h7⟩ := h
  rw [h0, bitI_inj h1, bitI_inj h2, h3, h4, h5, h6, h7]

theorem flatP_inj : ∀ (l k : List Osd), l.flatMap partsP = k.flatMap partsP → l.length = k.length → l = k
  | [], [], _, _ => rfl
  | [], b :: k, _, h => by cases h
  | a :: l, [], _, h => by cases h
  | a :: l, b :: k, h, hn => by
    rw [List.flatMap_cons, List.flatMap_cons] at h
    obtain ⟨e1, e2⟩ := List.append_inj h rfl
    rw [partsP_inj e1, flatP_inj l k e2 (by simpa using hn)]

theorem okn_all {m : Mp} (h : mayM m = true) : Okn (m.osds.flatMap partsP) := fun v hv => by
  have := nums_ok h m.osds.length
  rw [List.take_length] at this
  exact this v (List.mem_append_right _ hv)

theorem map_unlike {a b : Mp} (ha : mayM a = true) (hb : mayM b = true) (h : wrB (numsM a) = wrB (numsM b)) : a = b := by
  unfold numsM at h
  rw [wrB_app, wrB_app] at h
  obtain ⟨e1, e2⟩ := wrB_split (headP a) (headP b) _ _ (head_ok ha) (head_ok hb) rfl h
  simp only [headP, List.cons.injEq, and_true] at e1
  obtain ⟨h0, h1, h2, h3, h4, h5⟩ := e1
  have hn : a.osds.length = b.osds.length := by omega
  obtain ⟨e3, _⟩ := wrB_split (a.osds.flatMap partsP) (b.osds.flatMap partsP) [] [] (okn_all ha) (okn_all hb) (by rw [flat_parts_len, flat_parts_len, hn]) (by rw [List.append_nil, List.append_nil]; exact e2)
  have e4 := flatP_inj _ _ e3 hn
  obtain ⟨ea, ⟨a1, a2, a3, a4⟩, la⟩ := a
  obtain ⟨eb, ⟨b1, b2, b3, b4⟩, lb⟩ := b
  simp only at h0 h1 h2 h3 h4 e4
  rw [h0, h1, h2, h3, h4, e4]

theorem change_unlike {c d : Ch} (hc : mayC c = true) (hd : mayC d = true) (h : wrB (numsC c) = wrB (numsC d)) : c = d := by
  have oc := osd_of_kind hc
  have od := osd_of_kind hd
  obtain ⟨e1, _⟩ := wrB_split (numsC c) (numsC d) [] [] (fun v hv => by
    simp only [numsC, List.mem_cons] at hv
    rcases hv with rfl | hv
    · omega
    · exact oc.2 v hv) (fun v hv => by
    simp only [numsC, List.mem_cons] at hv
    rcases hv with rfl | hv
    · omega
    · exact od.2 v hv) rfl (by rw [h])
  simp only [numsC, List.cons.injEq] at e1
  have e2 := partsP_inj e1.2
  obtain ⟨ck, co⟩ := c
  obtain ⟨dk, do'⟩ := d
  simp only at e1 e2
  rw [e1.1, e2]

/- Their bytes as strings. -/
theorem map_text {a b : Mp} (ha : mayM a = true) (hb : mayM b = true) : decide (str (wrB (numsM a)) = str (wrB (numsM b))) = eqM a b := by
  by_cases e : a = b
  · subst e
    rw [(eqM_iff _ _).2 rfl]
    simp
  · have h1 : eqM a b = false := by
      cases h : eqM a b with
      | true => exact absurd ((eqM_iff _ _).1 h) e
      | false => rfl
    rw [h1]
    refine decide_eq_false fun h => e (map_unlike ha hb ?_)
    have := congrArg nat h
    rwa [nat_str (wrB_lt _), nat_str (wrB_lt _)] at this

theorem change_text {c d : Ch} (hc : mayC c = true) (hd : mayC d = true) : decide (str (wrB (numsC c)) = str (wrB (numsC d))) = eqC c d := by
  by_cases e : c = d
  · subst e
    rw [(eqC_iff _ _).2 rfl]
    simp
  · have h1 : eqC c d = false := by
      cases h : eqC c d with
      | true => exact absurd ((eqC_iff _ _).1 h) e
      | false => rfl
    rw [h1]
    refine decide_eq_false fun h => e (change_unlike hc hd ?_)
    have := congrArg nat h
    rwa [nat_str (wrB_lt _), nat_str (wrB_lt _)] at this

theorem eq_change (a b : Ch) (w : World) : (binOp .eql 30 (vC a) (vC b)).run Try.prog w = .ok (.bool (eqC a b)) w := by
  obtain ⟨ak, a0, a1, a2, a3, a4, a5, a6, a7⟩ := a
  obtain ⟨bk, b0, b1, b2, b3, b4, b5, b6, b7⟩ := b
  unfold vC eqC eqO
  dsimp only
  go_simp
  by_cases ek : ak = bk <;> by_cases e0 : a0 = b0 <;> by_cases e1 : a1 = b1 <;> by_cases e2 : a2 = b2 <;> by_cases e3 : a3 = b3 <;> by_cases e4 : a4 = b4 <;> by_cases e5 : a5 = b5 <;> by_cases e6 : a6 = b6 <;> by_cases e7 : a7 = b7 <;> simp [ek, e0, e1, e2, e3, e4, e5, e6, e7]

theorem beq_str (s t : ByteArray) : (s.toList == t.toList) = decide (s = t) := beq_nat _ _ _ ⟨fun h => decide_eq_true (nat_inj h), fun h => by rw [of_decide_eq_true h]⟩

theorem eq_str (s t : ByteArray) (w : World) : (binOp .eql 9 (.string s) (.string t)).run Try.prog w = .ok (.bool (decide (s = t))) w := by
  go_simp
  exact beq_nat _ _ _ ⟨fun h => decide_eq_true (nat_inj h), fun h => by rw [of_decide_eq_true h]⟩

theorem After.conv {w : World} {x : Option Addr} {n c : Nat} {l : List Nat} (h : Go.Proofs.Ytnddhlkdemibgaa.Sl w x n c l) (q : After w) : (convert 52 9 (.slice x n c)).run Try.prog q.W = .ok (.string (str l)) q.W := conv_sl ⟨h.len, h.le, h.nil, (h.below q.h).row, h.lt⟩

theorem okWide_array {P : Program} {w : World} {base : Nat} {t e : TypeId} {k : Nat} {v : Value} (ht : P.underlying t = some (.array k e)) (h : Value.okWide P w .any base t v) : ∃ cs, v = .agg cs ∧ cs.size = P.cellsOf t := by
  simp only [Value.okWide, ht] at h
  obtain ⟨cs, h1, h2, _⟩ := h
  exact ⟨cs, h1, h2⟩

/- The law's own blocks: two maps, two changes. -/
structure FU (w W : World) (pc pd : Nat) (A B C D : Array Value) : Prop where
  bel : Below w.heap.size w W
  a : W.heap[w.heap.size]? = some (.cells A 26 (0, 0))
  b : W.heap[w.heap.size + 1]? = some (.cells B 26 (0, 0))
  c : W.heap[pc]? = some (.cells C 30 (0, 0))
  d : W.heap[pd]? = some (.cells D 30 (0, 0))

theorem heap_keep {w v : World} {b : Nat} {o : Obj} (hb : Below w.heap.size w v) (h : w.heap[b]? = some o) : v.heap[b]? = some o :=
  (hb.block b (Array.getElem?_eq_some_iff.1 h).1).trans h

theorem FU.below {w W W' : World} {pc pd : Nat} {A B C D : Array Value} (h : FU w W pc pd A B C D) (hb : Below W.heap.size W W') : FU w W' pc pd A B C D :=
  ⟨on h.bel hb, heap_keep hb h.a, heap_keep hb h.b, heap_keep hb h.c, heap_keep hb h.d⟩

theorem FU.one (w : World) (A B C D : Array Value) (l : Obj) : FU w (((((w.alloc (.cells A 26)).alloc (.cells B 26)).alloc l).alloc (.cells C 30)).alloc (.cells D 30)).drew (w.heap.size + 1 + 1 + 1) (w.heap.size + 1 + 1 + 1 + 1) A B C D := by
  have a1 := al w (.cells A 26)
  have a2 := al (w.alloc (.cells A 26)) (.cells B 26)
  have h1 := heap_alloc_new w (.cells A 26)
  have h2 := heap_alloc_new (w.alloc (.cells A 26)) (.cells B 26)
  have e1 : (w.alloc (.cells A 26)).heap.size = w.heap.size + 1 := by simp
  generalize w.alloc (.cells A 26) = w1 at *
  have e2 : (w1.alloc (.cells B 26)).heap.size = w.heap.size + 1 + 1 := by simp [e1]
  generalize w1.alloc (.cells B 26) = w2 at *
  have a3 := al w2 l
  have e3 : (w2.alloc l).heap.size = w.heap.size + 1 + 1 + 1 := by simp [e2]
  generalize w2.alloc l = w3 at *
  have a4 := al w3 (.cells C 30)
  have h4 := heap_alloc_new w3 (.cells C 30)
  have e4 : (w3.alloc (.cells C 30)).heap.size = w.heap.size + 1 + 1 + 1 + 1 := by simp [e3]
  generalize w3.alloc (.cells C 30) = w4 at *
  have a5 := (al w4 (.cells D 30)).drew
  have h5 : (w4.alloc (.cells D 30)).drew.heap[w4.heap.size]? = some (.cells D 30 (0, 0)) := heap_alloc_new w4 (.cells D 30)
  generalize (w4.alloc (.cells D 30)).drew = w5 at *
  rw [e1] at h2
  rw [e3] at h4
  rw [e4] at h5
  exact ⟨on (on (on (on a1 a2) a3) a4) a5, heap_keep (on (on (on a2 a3) a4) a5) h1, heap_keep (on (on a3 a4) a5) h2, heap_keep a5 h4, h5⟩

theorem FU.two (w : World) (A B C D : Array Value) (l : Obj) : FU w (((((w.alloc (.cells A 26)).alloc (.cells B 26)).alloc l).alloc (.cells D 30)).alloc (.cells C 30)).drew (w.heap.size + 1 + 1 + 1 + 1) (w.heap.size + 1 + 1 + 1) A B C D :=
  let h := FU.one w A B D C l
  ⟨h.bel, h.a, h.b, h.d, h.c⟩

end Go.Proofs.Ytnddhlkdemibgaa.At
