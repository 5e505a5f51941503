/-
  The document's Up.
  Conditions: the map lies in memory.
-/
import Derived.Test.YtgfjmkjgagogpaaGreatByHk
import Derived.Test.YtgfjmkjgagogpaaGreatJPlUp
namespace Go.Proofs.YtgfjmkjgagogpaaGreat.Pl
open Go.RowKit By Fl At Cr
set_option linter.unusedVariables false
set_option linter.unusedSimpArgs false
set_option maxRecDepth 100000

set_option maxHeartbeats 1600000 in
theorem rup_no {w : World} {x : Option Addr} {n c : Nat} (m : Mp) (h : At.Os w x n c m.osds) (pg : Int) (hn : ¬ (mayM m = true ∧ 0 ≤ pg ∧ pg < m.pool.pgs)) :
    Calls Tryz.prog 12 #[vM m.ep m.pool x n c, .int .i64 pg] w fun e w' => e = .returned (.tuple #[.slice none 0 0, .int .i64 1]) ∧ Below w.heap.size w w' := by
  obtain ⟨w0, hw0⟩ : ∃ w0, w0 = w.alloc (.cells #[.int .i64 m.ep, .int .i64 m.pool.k, .int .i64 m.pool.m, .int .i64 m.pool.pgs, .int .i64 m.pool.dom, .slice x n c] 31) := ⟨_, rfl⟩
  have b0 : Below w.heap.size w w0 := by rw [hw0]; exact al _ _
  have q3 : w0.cell? ⟨w.heap.size, 3, none⟩ = some (.int .i64 m.pool.pgs) := by rw [hw0]; go_simp
  have cM := rmay_any m (h.below b0)
  have HB := hid b0
  have HW := hid hw0
  rw [hw0] at cM
  unfold vM at cM ⊢
  clear h b0 hw0
  cases hm : mayM m with
  | false =>
    rw [hm] at cM
    clear hm hn
    go_enter Tryz.func12, Tryz.ntmps12
    go_wp2_with (go_at_call 10; refine cM.mono ?_; rintro e w1 ⟨rfl, hb1⟩; clear cM; rw [← HW.out] at hb1; have p3 := keep hb1 q3)
    go_ret2
    exact ⟨rfl, on HB.out hb1⟩
  | true =>
    rw [hm] at cM
    by_cases h0 : pg < 0
    · clear hm hn
      go_enter Tryz.func12, Tryz.ntmps12
      go_wp2_with (go_at_call 10; refine cM.mono ?_; rintro e w1 ⟨rfl, hb1⟩; clear cM; rw [← HW.out] at hb1; have p3 := keep hb1 q3)
      go_ret2
      exact ⟨rfl, on HB.out hb1⟩
    · have h1 : m.pool.pgs ≤ pg := by
        by_cases h1 : pg < m.pool.pgs
        · exact absurd ⟨hm, by omega, h1⟩ hn
        · omega
      clear hm hn
      go_enter Tryz.func12, Tryz.ntmps12
      go_wp2_with (go_at_call 10; refine cM.mono ?_; rintro e w1 ⟨rfl, hb1⟩; clear cM; rw [← HW.out] at hb1; have p3 := keep hb1 q3)
      go_ret2
      exact ⟨rfl, on HB.out hb1⟩

set_option maxHeartbeats 3200000 in
theorem rup_yes {w : World} {x : Option Addr} {n c : Nat} (m : Mp) (h : At.Os w x n c m.osds) (pg : Int) (hm : mayM m = true) (h0 : ¬ pg < 0) (h1 : ¬ m.pool.pgs ≤ pg) :
    Calls Tryz.prog 12 #[vM m.ep m.pool x n c, .int .i64 pg] w fun e w' => ∃ (x' : Option Addr) (n' c' : Nat), e = .returned (.tuple #[.slice x' n' c', .int .i64 (chE m m.pool.dom (kmW m))]) ∧ Hid (Below w.heap.size w w' ∧ Own w' w.heap.size 3 1 enI (.slice x' n' c') (chL m m.pool.dom (kmW m) (Mi.h2 (pgN pg) 1886351212))) := by
  have hkm : IntKind.i64.wrap (m.pool.k + m.pool.m) = kmW m := rfl
  have hpg : IntKind.u32.wrap pg = (pgN pg : Int) := by unfold pgN; rw [IntKind.wrap_u32]; omega
  have hlt := pgN_lt pg
  have cH := fun W => Mi.rhash2_any (pgN pg) 1886351212 W hlt (by omega)
  have hH := Mi.h2_lt (pgN pg) 1886351212
  have HC : Hid (∀ W, Below w.heap.size w W → Calls Tryz.prog 28 #[vM m.ep m.pool x n c, .agg #[.int .i64 m.pool.dom, .int .i64 (kmW m)], .int .u32 (Mi.h2 (pgN pg) 1886351212 : Nat)] W fun e w' => ∃ (x' : Option Addr) (n' c' : Nat), e = .returned (.tuple #[.slice x' n' c', .int .i64 (chE m m.pool.dom (kmW m))]) ∧ Hid (Below W.heap.size W w' ∧ Own w' W.heap.size 3 1 enI (.slice x' n' c') (chL m m.pool.dom (kmW m) (Mi.h2 (pgN pg) 1886351212)))) := fun W hb => rcchoose_own m (h.below hb) m.pool.dom (kmW m) _ hH
  generalize chE m m.pool.dom (kmW m) = EE at *
  generalize chL m m.pool.dom (kmW m) (Mi.h2 (pgN pg) 1886351212) = LL at *
  generalize Mi.h2 (pgN pg) 1886351212 = HH at *
  generalize kmW m = KM at *
  generalize pgN pg = PG at *
  obtain ⟨w0, hw0⟩ : ∃ w0, w0 = w.alloc (.cells #[.int .i64 m.ep, .int .i64 m.pool.k, .int .i64 m.pool.m, .int .i64 m.pool.pgs, .int .i64 m.pool.dom, .slice x n c] 31) := ⟨_, rfl⟩
  have b0 : Below w.heap.size w w0 := by rw [hw0]; exact al _ _
  have q0 : w0.cell? ⟨w.heap.size, 0, none⟩ = some (.int .i64 m.ep) := by rw [hw0]; go_simp
  have q1 : w0.cell? ⟨w.heap.size, 1, none⟩ = some (.int .i64 m.pool.k) := by rw [hw0]; go_simp
  have q2 : w0.cell? ⟨w.heap.size, 2, none⟩ = some (.int .i64 m.pool.m) := by rw [hw0]; go_simp
  have q3 : w0.cell? ⟨w.heap.size, 3, none⟩ = some (.int .i64 m.pool.pgs) := by rw [hw0]; go_simp
  have q4 : w0.cell? ⟨w.heap.size, 4, none⟩ = some (.int .i64 m.pool.dom) := by rw [hw0]; go_simp
  have q5 : w0.cell? ⟨w.heap.size, 5, none⟩ = some (.slice x n c) := by rw [hw0]; go_simp
  have HQ : Hid (∀ W, Below w0.heap.size w0 W → W.cell? ⟨w.heap.size, 0, none⟩ = some (.int .i64 m.ep) ∧ W.cell? ⟨w.heap.size, 1, none⟩ = some (.int .i64 m.pool.k) ∧ W.cell? ⟨w.heap.size, 2, none⟩ = some (.int .i64 m.pool.m) ∧ W.cell? ⟨w.heap.size, 3, none⟩ = some (.int .i64 m.pool.pgs) ∧ W.cell? ⟨w.heap.size, 4, none⟩ = some (.int .i64 m.pool.dom) ∧ W.cell? ⟨w.heap.size, 5, none⟩ = some (.slice x n c)) := fun W hb => ⟨keep hb q0, keep hb q1, keep hb q2, keep hb q3, keep hb q4, keep hb q5⟩
  have cM := rmay_any m (h.below b0)
  have HB := hid b0
  have HW := hid hw0
  rw [hw0, hm] at cM
  unfold vM at cM HC ⊢
  clear h b0 hw0 q0 q1 q2 q4 q5 hm
  go_enter Tryz.func12, Tryz.ntmps12
  go_wp2_with (go_at_call 10; refine cM.mono ?_; rintro e w1 ⟨rfl, hb1⟩; clear cM; rw [← HW.out] at hb1; have p3 := keep hb1 q3)
  have bD : Below w1.heap.size w1 w1.drew := (Below.refl _ _).drew
  have s0 := HQ.out _ (on hb1 bD)
  have cC := HC.out w1.drew (on HB.out (on hb1 bD))
  have HD := hid (on hb1 bD)
  clear bD q3 p3 HC
  refine wp_region_held_drew (S := fun v => v.cell? ⟨w.heap.size, 0, none⟩ = some (.int .i64 m.ep) ∧ v.cell? ⟨w.heap.size, 1, none⟩ = some (.int .i64 m.pool.k) ∧ v.cell? ⟨w.heap.size, 2, none⟩ = some (.int .i64 m.pool.m) ∧ v.cell? ⟨w.heap.size, 3, none⟩ = some (.int .i64 m.pool.pgs) ∧ v.cell? ⟨w.heap.size, 4, none⟩ = some (.int .i64 m.pool.dom) ∧ v.cell? ⟨w.heap.size, 5, none⟩ = some (.slice x n c)) (by kernel_rfl) s0 (fun hHeld => ?_)
  generalize w1.drew = wD at *
  refine By.hk 0 ?_
  refine By.hk 1 ?_
  refine By.hk 2 ?_
  refine By.hk 3 ?_
  refine By.hk 4 ?_
  refine By.hk 5 ?_
  refine By.hk 6 ?_
  refine By.hk 7 ?_
  refine By.hk 8 ?_
  refine By.hk 9 ?_
  refine By.hk 10 ?_
  refine By.hk 11 ?_
  refine By.hk 12 ?_
  refine By.hk 13 ?_
  refine wpAnyH_ready (rs := [14]) (by kernel_rfl) (by simp) ?_
  refine AllReadyH.cons rfl (fun K hK => ?_) AllReadyH.nil
  go_simp
  refine (cH _).mono ?_
  rintro e w4 ⟨rfl, hw4⟩
  subst w4
  refine hK.out _ _ s0 (fun hHeld => ?_)
  clear hK K
  refine wpAnyH_ready (rs := [15]) (by kernel_rfl) (by simp) ?_
  refine AllReadyH.cons rfl (fun K hK => ?_) AllReadyH.nil
  go_simp
  refine cC.mono ?_
  rintro e w5 ⟨x5, n5, c5, rfl, H5⟩
  clear cC
  refine hK.out _ _ (HQ.out _ (on HD.out H5.out.1)) (fun hHeld => ?_)
  clear hK K
  refine By.hk 16 ?_
  refine By.hk 17 ?_
  refine By.hk 18 ?_
  refine By.hk 19 ?_
  refine wpAnyH_done (by kernel_rfl) ?_ _
  clear s0 hHeld
  go_wp2_with fail
  go_ret2
  have BB := on HB.out HD.out
  exact ⟨_, _, _, rfl, on BB H5.out.1, own_low H5.out.2 BB.size⟩

theorem rup_any {w : World} {x : Option Addr} {n c : Nat} (m : Mp) (h : At.Os w x n c m.osds) (pg : Int) :
    Calls Tryz.prog 12 #[vM m.ep m.pool x n c, .int .i64 pg] w fun e w' => UpSays w m pg (upL m pg) e w' := by
  unfold UpSays
  by_cases hf : mayM m = true ∧ 0 ≤ pg ∧ pg < m.pool.pgs
  · unfold upL upE inB
    rw [show (decide (0 ≤ pg) && decide (pg < m.pool.pgs)) = true by simp; omega]
    exact rup_yes m h pg hf.1 (by omega) (by omega)
  · obtain ⟨e1, e2⟩ := not_fine hf
    rw [e1, e2]
    exact (rup_no m h pg hf).mono fun e w' ⟨he, hb⟩ => ⟨none, 0, 0, he, hb, Own.nil _ _ _ _ _⟩

end Go.Proofs.YtgfjmkjgagogpaaGreat.Pl
