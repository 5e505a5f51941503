/-
  2 texts of this proof, one behind the other: PlUp, PlAct.
-/
import Derived.Test.YthlfmbijagpggaaByHk
import Derived.Test.YthlfmbijagpggaaJCrAwake
import Derived.Test.YthlfmbijagpggaaJAtTurn
/-
  Package place: Up.
  Conditions: the map lies in memory.
-/
namespace Go.Proofs.Ythlfmbijagpggaa.Pl
open Go.RowKit By Fl At Cr
set_option linter.unusedVariables false
set_option linter.unusedSimpArgs false
set_option maxRecDepth 100000

def UpSays (w : World) (m : Mp) (pg : Int) (l : List Int) (e : Ending) (w' : World) : Prop :=
  ∃ (x' : Option Addr) (n' c' : Nat), e = .returned (.tuple #[.slice x' n' c', .int .i64 (upE m pg)]) ∧ Hid (Below w.heap.size w w' ∧ Own w' w.heap.size 3 1 enI (.slice x' n' c') l)

set_option maxHeartbeats 1600000 in
theorem up_neg {w : World} {x : Option Addr} {n c : Nat} (m : Mp) (pg : Int) (h0 : pg < 0) :
    Calls Try.prog 31 #[vM m.ep m.pool x n c, .int .i64 pg] w fun e w' => e = .returned (.tuple #[.slice none 0 0, .int .i64 1]) ∧ Below w.heap.size w w' := by
  have b0 : Below w.heap.size w (w.alloc (.cells #[.int .i64 m.ep, .int .i64 m.pool.k, .int .i64 m.pool.m, .int .i64 m.pool.pgs, .int .i64 m.pool.dom, .slice x n c] 32)) := al _ _
  unfold vM
  go_enter Try.func31, Try.ntmps31
  go_wp2_with fail
  go_ret2
  exact ⟨rfl, b0⟩

set_option maxHeartbeats 1600000 in
theorem up_high {w : World} {x : Option Addr} {n c : Nat} (m : Mp) (pg : Int) (h0 : ¬ pg < 0) (h1 : m.pool.pgs ≤ pg) :
    Calls Try.prog 31 #[vM m.ep m.pool x n c, .int .i64 pg] w fun e w' => e = .returned (.tuple #[.slice none 0 0, .int .i64 1]) ∧ Below w.heap.size w w' := by
  have b0 : Below w.heap.size w (w.alloc (.cells #[.int .i64 m.ep, .int .i64 m.pool.k, .int .i64 m.pool.m, .int .i64 m.pool.pgs, .int .i64 m.pool.dom, .slice x n c] 32)) := al _ _
  unfold vM
  go_enter Try.func31, Try.ntmps31
  go_wp2_with fail
  go_ret2
  exact ⟨rfl, b0⟩

set_option maxHeartbeats 3200000 in
theorem up_yes {w : World} {x : Option Addr} {n c : Nat} (m : Mp) (h : At.Os w x n c m.osds) (hk : m.pool.k ≤ 9223372036854775807) (pg : Int) (h0 : ¬ pg < 0) (h1 : ¬ m.pool.pgs ≤ pg) :
    Calls Try.prog 31 #[vM m.ep m.pool x n c, .int .i64 pg] w fun e w' => ∃ (x' : Option Addr) (n' c' : Nat), e = .returned (.tuple #[.slice x' n' c', .int .i64 (chE m m.pool.dom (kmW m))]) ∧ Hid (Below w.heap.size w w' ∧ Own w' w.heap.size 3 1 enI (.slice x' n' c') (chL m m.pool.dom (kmW m) (Mi.h2 (pgN pg) 1886351212))) := by
  have hkm : IntKind.i64.wrap (m.pool.k + m.pool.m) = kmW m := rfl
  have hpg : IntKind.u32.wrap pg = (pgN pg : Int) := by unfold pgN; rw [IntKind.wrap_u32]; omega
  have hlt := pgN_lt pg
  have cH := fun W => Mi.hash2_any (pgN pg) 1886351212 W hlt (by omega)
  have hH := Mi.h2_lt (pgN pg) 1886351212
  have HC : Hid (∀ W, Below w.heap.size w W → Calls Try.prog 35 #[vM m.ep m.pool x n c, .agg #[.int .i64 m.pool.dom, .int .i64 (kmW m)], .int .u32 (Mi.h2 (pgN pg) 1886351212 : Nat)] W fun e w' => ∃ (x' : Option Addr) (n' c' : Nat), e = .returned (.tuple #[.slice x' n' c', .int .i64 (chE m m.pool.dom (kmW m))]) ∧ Hid (Below W.heap.size W w' ∧ Own w' W.heap.size 3 1 enI (.slice x' n' c') (chL m m.pool.dom (kmW m) (Mi.h2 (pgN pg) 1886351212)))) := fun W hb => cchoose_own m (h.below hb) hk m.pool.dom (kmW m) _ hH
  generalize chE m m.pool.dom (kmW m) = EE at *
  generalize chL m m.pool.dom (kmW m) (Mi.h2 (pgN pg) 1886351212) = LL at *
  generalize Mi.h2 (pgN pg) 1886351212 = HH at *
  generalize kmW m = KM at *
  generalize pgN pg = PG at *
  obtain ⟨wq, hwq⟩ : ∃ wq, wq = (w.alloc (.cells #[.int .i64 m.ep, .int .i64 m.pool.k, .int .i64 m.pool.m, .int .i64 m.pool.pgs, .int .i64 m.pool.dom, .slice x n c] 32)).alloc (.cells #[.int .i64 m.pool.dom, .int .i64 KM] 71) := ⟨_, rfl⟩
  have b0 : Below w.heap.size w wq := by rw [hwq]; exact on (al _ _) (al _ _)
  have q0 : wq.cell? ⟨w.heap.size, 0, none⟩ = some (.int .i64 m.ep) := by rw [hwq]; go_simp
  have q1 : wq.cell? ⟨w.heap.size, 1, none⟩ = some (.int .i64 m.pool.k) := by rw [hwq]; go_simp
  have q2 : wq.cell? ⟨w.heap.size, 2, none⟩ = some (.int .i64 m.pool.m) := by rw [hwq]; go_simp
  have q3 : wq.cell? ⟨w.heap.size, 3, none⟩ = some (.int .i64 m.pool.pgs) := by rw [hwq]; go_simp
  have q4 : wq.cell? ⟨w.heap.size, 4, none⟩ = some (.int .i64 m.pool.dom) := by rw [hwq]; go_simp
  have q5 : wq.cell? ⟨w.heap.size, 5, none⟩ = some (.slice x n c) := by rw [hwq]; go_simp
  have q6 : wq.cell? ⟨w.heap.size + 1, 0, none⟩ = some (.int .i64 m.pool.dom) := by rw [hwq]; go_simp
  have q7 : wq.cell? ⟨w.heap.size + 1, 1, none⟩ = some (.int .i64 KM) := by rw [hwq]; go_simp
  have HQ : Hid (∀ W, Below wq.heap.size wq W → W.cell? ⟨w.heap.size, 0, none⟩ = some (.int .i64 m.ep) ∧ W.cell? ⟨w.heap.size, 1, none⟩ = some (.int .i64 m.pool.k) ∧ W.cell? ⟨w.heap.size, 2, none⟩ = some (.int .i64 m.pool.m) ∧ W.cell? ⟨w.heap.size, 3, none⟩ = some (.int .i64 m.pool.pgs) ∧ W.cell? ⟨w.heap.size, 4, none⟩ = some (.int .i64 m.pool.dom) ∧ W.cell? ⟨w.heap.size, 5, none⟩ = some (.slice x n c) ∧ W.cell? ⟨w.heap.size + 1, 0, none⟩ = some (.int .i64 m.pool.dom) ∧ W.cell? ⟨w.heap.size + 1, 1, none⟩ = some (.int .i64 KM)) := fun W hb => ⟨keep hb q0, keep hb q1, keep hb q2, keep hb q3, keep hb q4, keep hb q5, keep hb q6, keep hb q7⟩
  have bD : Below wq.heap.size wq wq.drew := (Below.refl _ _).drew
  have s0 := HQ.out _ bD
  have cC := HC.out wq.drew (on b0 bD)
  have HB := hid (on b0 bD)
  have HD := hid bD
  have HW := hid hwq
  unfold vM at cC ⊢
  clear h b0 hwq q0 q1 q2 q3 q4 q5 q6 q7 HC bD hk
  go_enter Try.func31, Try.ntmps31
  go_wp2_with fail
  rw [← HW.out]
  refine wp_region_held_drew (S := fun v => v.cell? ⟨w.heap.size, 0, none⟩ = some (.int .i64 m.ep) ∧ v.cell? ⟨w.heap.size, 1, none⟩ = some (.int .i64 m.pool.k) ∧ v.cell? ⟨w.heap.size, 2, none⟩ = some (.int .i64 m.pool.m) ∧ v.cell? ⟨w.heap.size, 3, none⟩ = some (.int .i64 m.pool.pgs) ∧ v.cell? ⟨w.heap.size, 4, none⟩ = some (.int .i64 m.pool.dom) ∧ v.cell? ⟨w.heap.size, 5, none⟩ = some (.slice x n c) ∧ v.cell? ⟨w.heap.size + 1, 0, none⟩ = some (.int .i64 m.pool.dom) ∧ v.cell? ⟨w.heap.size + 1, 1, none⟩ = some (.int .i64 KM)) (by kernel_rfl) s0 (fun hHeld => ?_)
  generalize wq.drew = wD at *
  refine By.hk 0 ?_
  refine By.hk 1 ?_
  refine By.hk 2 ?_
  refine By.hk 3 ?_
  refine wpAnyH_ready (rs := [4]) (by kernel_rfl) (by simp) ?_
  refine AllReadyH.cons rfl (fun K hK => ?_) AllReadyH.nil
  go_simp
  refine (cH _).mono ?_
  rintro e w4 ⟨rfl, hw4⟩
  subst w4
  refine hK.out _ _ s0 (fun hHeld => ?_)
  clear hK K
  refine wpAnyH_ready (rs := [5]) (by kernel_rfl) (by simp) ?_
  refine AllReadyH.cons rfl (fun K hK => ?_) AllReadyH.nil
  go_simp
  refine cC.mono ?_
  rintro e w5 ⟨x5, n5, c5, rfl, H5⟩
  clear cC
  refine hK.out _ _ (HQ.out _ (on HD.out H5.out.1)) (fun hHeld => ?_)
  clear hK K
  refine By.hk 6 ?_
  refine By.hk 7 ?_
  refine By.hk 8 ?_
  refine By.hk 9 ?_
  refine wpAnyH_done (by kernel_rfl) ?_ _
  clear s0 hHeld
  go_wp2_with fail
  go_ret2
  exact ⟨_, _, _, rfl, on HB.out H5.out.1, own_low H5.out.2 HB.out.size⟩

theorem up_any {w : World} {x : Option Addr} {n c : Nat} (m : Mp) (h : At.Os w x n c m.osds) (hk : m.pool.k ≤ 9223372036854775807) (pg : Int) :
    Calls Try.prog 31 #[vM m.ep m.pool x n c, .int .i64 pg] w fun e w' => UpSays w m pg (upL m pg) e w' := by
  unfold UpSays upL upE inB
  by_cases h0 : pg < 0
  · rw [show (decide (0 ≤ pg) && decide (pg < m.pool.pgs)) = false by simp; omega]
    exact (up_neg m pg h0).mono fun e w' ⟨he, hb⟩ => ⟨none, 0, 0, he, hb, Own.nil _ _ _ _ _⟩
  · by_cases h1 : m.pool.pgs ≤ pg
    · rw [show (decide (0 ≤ pg) && decide (pg < m.pool.pgs)) = false by simp; omega]
      exact (up_high m pg h0 h1).mono fun e w' ⟨he, hb⟩ => ⟨none, 0, 0, he, hb, Own.nil _ _ _ _ _⟩
    · rw [show (decide (0 ≤ pg) && decide (pg < m.pool.pgs)) = true by simp; omega]
      exact up_yes m h hk pg h0 h1

end Go.Proofs.Ythlfmbijagpggaa.Pl

/-
  Package place: Acting.
  Conditions: the map lies in memory.
-/
namespace Go.Proofs.Ythlfmbijagpggaa.Pl
open Go.RowKit By Fl At Cr
set_option linter.unusedVariables false
set_option linter.unusedSimpArgs false
set_option maxRecDepth 100000

theorem cell_own {w : World} {B g n c : Nat} {l : List Int} (h : Own w B 3 1 enI (.slice (some ⟨g, 0, none⟩) n c) l) {k : Nat} {z : Int} (hk : l[k]? = some z) : w.cell? ⟨g, k, none⟩ = some (.int .i64 z) := by
  have := h.cell irow.len hk (j := 0) (v := .int .i64 z) rfl
  rwa [Nat.mul_one, Nat.add_zero] at this

theorem put8_heap {w : World} {g : Nat} {v0 v1 v2 v3 v4 v5 v6 v7 : Value} (h : w.heap[g]? = some (.cells #[v0, v1, v2, v3, v4, v5, v6, v7] 45 (0, 0))) (a : Osd) : (put8 w g 0 a).heap[g]? = some (.cells #[.int .i64 a.id, .bool a.up, .bool a.inn, .int .i64 a.wt, .int .i64 a.life, .int .i64 a.boot, .int .i64 a.host, .int .i64 a.rack] 45 (0, 0)) := by
  unfold put8
  refine (heap_set (heap_set (heap_set (heap_set (heap_set (heap_set (heap_set (heap_set h _) _) _) _) _) _) _) _).trans ?_
  simp

set_option maxHeartbeats 3200000 in
theorem acting_any {w : World} {x : Option Addr} {n c : Nat} (m : Mp) (h : At.Os w x n c m.osds) (hk : m.pool.k ≤ 9223372036854775807) (pg : Int) :
    Calls Try.prog 25 #[vM m.ep m.pool x n c, .int .i64 pg] w fun e w' => UpSays w m pg (actL m pg) e w' := by
  obtain ⟨w0, hw0⟩ : ∃ w0, w0 = w.alloc (.cells #[.int .i64 m.ep, .int .i64 m.pool.k, .int .i64 m.pool.m, .int .i64 m.pool.pgs, .int .i64 m.pool.dom, .slice x n c] 32) := ⟨_, rfl⟩
  have b0 : Below w.heap.size w w0 := by rw [hw0]; exact al _ _
  have q0 : w0.cell? ⟨w.heap.size, 0, none⟩ = some (.int .i64 m.ep) := by rw [hw0]; go_simp
  have q1 : w0.cell? ⟨w.heap.size, 1, none⟩ = some (.int .i64 m.pool.k) := by rw [hw0]; go_simp
  have q2 : w0.cell? ⟨w.heap.size, 2, none⟩ = some (.int .i64 m.pool.m) := by rw [hw0]; go_simp
  have q3 : w0.cell? ⟨w.heap.size, 3, none⟩ = some (.int .i64 m.pool.pgs) := by rw [hw0]; go_simp
  have q4 : w0.cell? ⟨w.heap.size, 4, none⟩ = some (.int .i64 m.pool.dom) := by rw [hw0]; go_simp
  have q5 : w0.cell? ⟨w.heap.size, 5, none⟩ = some (.slice x n c) := by rw [hw0]; go_simp
  have HQ : Hid (∀ W, Below w0.heap.size w0 W → W.cell? ⟨w.heap.size, 0, none⟩ = some (.int .i64 m.ep) ∧ W.cell? ⟨w.heap.size, 1, none⟩ = some (.int .i64 m.pool.k) ∧ W.cell? ⟨w.heap.size, 2, none⟩ = some (.int .i64 m.pool.m) ∧ W.cell? ⟨w.heap.size, 3, none⟩ = some (.int .i64 m.pool.pgs) ∧ W.cell? ⟨w.heap.size, 4, none⟩ = some (.int .i64 m.pool.dom) ∧ W.cell? ⟨w.heap.size, 5, none⟩ = some (.slice x n c)) := fun W hb => ⟨keep hb q0, keep hb q1, keep hb q2, keep hb q3, keep hb q4, keep hb q5⟩
  have cU := up_any m (h.below b0) hk pg
  have HF : Hid (∀ (id : Int) (W : World), Below w0.heap.size w0 W → Calls Try.prog 26 #[vM m.ep m.pool x n c, .int .i64 id] W fun e w' => e = .returned (.tuple #[vO (findP m.osds id).1, .bool (findP m.osds id).2]) ∧ Below W.heap.size W w') := fun id W hb => find_any m id (h.below (on b0 hb))
  have HB := hid b0
  have HW := hid hw0
  have hln := upL_len m pg
  unfold UpSays at cU ⊢
  rw [hw0] at cU
  unfold vM at cU HF ⊢
  clear h b0 hw0 q0 q1 q2 q3 q4 q5 hk
  unfold actL
  generalize upE m pg = EE at *
  generalize upL m pg = LL at *
  go_enter Try.func25, Try.ntmps25
  go_wp2_with (go_at_call 31; refine cU.mono ?_; rintro e w1 ⟨x1, n1, c1, rfl, H1⟩; clear cU; rw [← HW.out] at H1)
  have hn1 := form_slice H1.out.2
  have H0 := hid (And.intro H1.out.1 (show Own w1 w0.heap.size 3 1 enI (.slice x1 n1 c1) (mid m.osds LL 0) by rw [mid_zero]; exact H1.out.2))
  clear H1
  have hn32 : n1 ≤ 32 := by omega
  have HLn := hid hn1
  clear hn1 hln
  go_loopw [20] (fun i wr => ∃ k : Nat, k ≤ n1 ∧ i = .int .i64 k ∧ Hid (Below w0.heap.size w0 wr ∧ Own wr w0.heap.size 3 1 enI (.slice x1 n1 c1) (mid m.osds LL k))) (fun i _ => n1 - (intOf i).toNat)
  case atStart => exact ⟨0, by omega, rfl, H0.out⟩
  case round =>
    clear H0
    obtain ⟨k, hk, rfl, HR⟩ := hrel
    by_cases hlt : k < n1
    · have hkn : (k : Int) < (n1 : Int) := by omega
      obtain ⟨z, hz⟩ : ∃ z, LL[k]? = some z := ⟨LL[k]'(by have := HLn.out; omega), List.getElem?_eq_getElem (by have := HLn.out; omega)⟩
      obtain ⟨i1, i2⟩ := HR.out
      have hg := mid_get m.osds hz
      obtain ⟨g, c6, e6, _, _, hg1, hg2⟩ := i2.there (fun e => by rw [e] at hg; simp at hg)
      injection e6 with e61 e62 e63
      subst e61
      have d0 := cell_own i2 hg
      have f0 := i2.frozen (k := k)
      have cF := HF.out z wr i1
      obtain ⟨p0, p1, p2, p3, p4, p5⟩ := HQ.out wr i1
      have hgw : w.heap.size < w0.heap.size := by have := cell_lt' p0; have := HW.out; rw [this]; simp
      have HZ := hid hz
      have HI := hid (And.intro i1 i2)
      clear i1 i2 hg hz e62 e63 HR
      cases hu : upF m.osds z with
      | true =>
        have hu2 : (findP m.osds z).2 = true ∧ (findP m.osds z).1.up = true := by unfold upF at hu; simpa using hu
        rw [hu2.1] at cF
        generalize hfo : (findP m.osds z).1 = o at *
        obtain ⟨m0, m1, m2, m3, m4, m5, m6, m7⟩ := o
        have hm1 : m1 = true := hu2.2
        subst hm1
        have HU := hid hu
        clear hu hu2 hfo
        unfold vO at cF
        dsimp only at cF
        go_wp2_with (go_at_call 26; refine cF.mono ?_; rintro e w2 ⟨rfl, hb2⟩; clear cF)
        go_roundw
        case rel =>
          refine ⟨k + 1, by omega, by go_num, ?_⟩
          rw [mid_up HZ.out HU.out]
          exact ⟨on HI.out.1 (on hb2 (al _ _)), HI.out.2.below (on hb2 (al _ _))⟩
        case measure => simp [intOf]; omega
      | false =>
        obtain ⟨ok, hok⟩ : ∃ ok, (findP m.osds z).2 = ok := ⟨_, rfl⟩
        obtain ⟨o, ho⟩ : ∃ o, (findP m.osds z).1 = o := ⟨_, rfl⟩
        have hu2 : (ok && o.up) = false := by rw [← hok, ← ho]; exact hu
        rw [hok, ho] at cF
        obtain ⟨m0, m1, m2, m3, m4, m5, m6, m7⟩ := o
        dsimp only at hu2
        unfold vO at cF
        dsimp only at cF
        have HU := hid hu
        clear hu hok ho
        have HS : Hid (∀ W, Below wr.heap.size wr W → Below w0.heap.size w0 (W.setCell ⟨g, k, none⟩ (.int .i64 (-1))) ∧ Own (W.setCell ⟨g, k, none⟩ (.int .i64 (-1))) w0.heap.size 3 1 enI (.slice (some ⟨g, 0, none⟩) n1 c1) (mid m.osds LL (k + 1))) := fun W hb => by
          refine ⟨(on HI.out.1 hb).trans ((turns_put (Turns.refl _ W) k _).below (fun j e => by omega) (on HI.out.1 hb).size), ?_⟩
          rw [mid_no HZ.out HU.out]
          exact own_setI (HI.out.2.below hb) k (-1)
        cases ok with
        | false =>
          clear hu2
          go_wp2_with (go_at_call 26; refine cF.mono ?_; rintro e w2 ⟨rfl, hb2⟩; clear cF; have b3 := on hb2 (al w2 (.cells #[.int .i64 m0, .bool m1, .bool m2, .int .i64 m3, .int .i64 m4, .int .i64 m5, .int .i64 m6, .int .i64 m7] 45)); have d3 := keep b3 d0; have f3 := keepf b3 hg2 f0)
          go_roundw
          case rel => exact ⟨k + 1, by omega, by go_num, HS.out _ b3⟩
          case measure => simp [intOf]; omega
        | true =>
          have hm1 : m1 = false := by simpa using hu2
          subst hm1
          clear hu2
          go_wp2_with (go_at_call 26; refine cF.mono ?_; rintro e w2 ⟨rfl, hb2⟩; clear cF; have b3 := on hb2 (al w2 (.cells #[.int .i64 m0, .bool false, .bool m2, .int .i64 m3, .int .i64 m4, .int .i64 m5, .int .i64 m6, .int .i64 m7] 45)); have d3 := keep b3 d0; have f3 := keepf b3 hg2 f0)
          go_roundw
          case rel => exact ⟨k + 1, by omega, by go_num, HS.out _ b3⟩
          case measure => simp [intOf]; omega
    · have hk2 : k = n1 := by omega
      subst hk2
      go_wp2_with fail
      go_ret2
      have h2 := HR.out.2
      rw [mid_all _ _ (by have := HLn.out; omega)] at h2
      exact ⟨_, _, _, rfl, on HB.out HR.out.1, own_low h2 HB.out.size⟩

end Go.Proofs.Ythlfmbijagpggaa.Pl
