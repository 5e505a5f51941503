/-
  The document's Same.
  Conditions: the holders lie in memory.
-/
import Derived.Test.YtnfflmndejbepaaShRSame
import Derived.Test.YtnfflmndejbepaaShMay4
namespace Go.Proofs.Ytnfflmndejbepaa.Sh
set_option linter.unusedSectionVars false
variable [Inhabited DZ]
open Go.RowKit By Fl
set_option linter.unusedVariables false
set_option linter.unusedSimpArgs false
set_option maxRecDepth 100000

set_option maxHeartbeats 6400000 in
theorem rsame_any {w : World} {F G : Nat → Prop} {a b : HV} (ha : HAt w F a) (hb : HAt w G b) : Calls Try.prog 57 #[vH a, vH b] w fun e w' => e = .returned (.bool (bz (pH a = pH b))) ∧ Below w.heap.size w w' := by
  obtain ⟨t1, h1⟩ : ∃ t, (a.fe == b.fe) = t := ⟨_, rfl⟩
  have h1' : (a.fe != b.fe) = !t1 := by unfold bne; rw [h1]
  rw [pH_eq h1]
  obtain ⟨w0, hw0⟩ : ∃ w0, w0 = (w.alloc (.cells (HCells a) 29)).alloc (.cells (HCells b) 29) := ⟨_, rfl⟩
  have bb : Below w.heap.size w w0 := by rw [hw0]; exact on (al _ _) (al _ _)
  have hC1 := rsameShard_any (ha.s.below bb) (hb.s.below bb)
  have HP : Hid (∀ W, Below w0.heap.size w0 W → W.cell? ⟨w.heap.size, 6, none⟩ = some (.slice a.x a.n a.c) ∧ W.cell? ⟨w.heap.size + 1, 6, none⟩ = some (.slice b.x b.n b.c)) := fun W hW =>
    ⟨keep hW (by rw [hw0]; unfold HCells; go_simp), keep hW (by rw [hw0]; unfold HCells; go_simp)⟩
  have hla := ha.n.len
  have hlb := hb.n.len
  have hsm := ha.n.small
  have HT3 : Hid (a.N.map pS = b.N.map pS → bz (a.N.map pS = b.N.map pS) = true) := hid bz_true
  have HF3 : Hid (a.N.map pS ≠ b.N.map pS → bz (a.N.map pS = b.N.map pS) = false) := hid bz_false
  have HL := hid (And.intro hla hlb)
  generalize bz (pS a.now = pS b.now) = t2 at *
  generalize bz (a.N.map pS = b.N.map pS) = t3 at *
  have HB := hid bb
  have HA := hid ha.n
  have HBn := hid hb.n
  clear ha hb bb hla hlb h1
  obtain ⟨fe, ⟨pl, si, x1, n1, c1, I, x2, n2, c2, E, x3, n3, c3, U⟩, x, n, c, N⟩ := a
  obtain ⟨fe', ⟨pl', si', y1, m1, d1, I', y2, m2, d2, E', y3, m3, d3, U'⟩, y, m, d, N'⟩ := b
  unfold HCells at hw0
  unfold vH
  unfold vS at hC1
  dsimp only at *
  rw [hw0] at hC1
  have HW := hid hw0
  clear hw0
  cases t1
  · simp only [Bool.not_false] at h1'
    go_enter Try.func57, Try.ntmps57
    go_wp2_with fail
    go_ret
    exact ⟨by simp, by have := HB.out; rw [HW.out] at this; exact this⟩
  simp only [Bool.not_true] at h1'
  cases t2
  · go_enter Try.func57, Try.ntmps57
    go_wp2_with (go_at_call 18; refine hC1.mono ?_; rintro e w1 ⟨rfl, hb1⟩; rw [← HW.out] at hb1)
    go_ret
    exact ⟨by simp, on HB.out hb1⟩
  by_cases hnm : n = m
  rotate_left
  · have hq : ((n : Int) != (m : Int)) = true := by simp; omega
    have HN := hid hnm
    clear hnm
    go_enter Try.func57, Try.ntmps57
    go_wp2_with (go_at_call 18; refine hC1.mono ?_; rintro e w1 ⟨rfl, hb1⟩; rw [← HW.out] at hb1; clear hC1; obtain ⟨p1, p2⟩ := HP.out w1 hb1)
    go_ret
    exact ⟨by rw [HF3.out fun e => HN.out (by have := congrArg List.length e; simp at this; have := HL.out; omega)]; rfl, on HB.out hb1⟩
  subst hnm
  go_enter Try.func57, Try.ntmps57
  go_wp2_with (go_at_call 18; refine hC1.mono ?_; rintro e w1 ⟨rfl, hb1⟩; rw [← HW.out] at hb1; clear hC1; obtain ⟨p1, p2⟩ := HP.out w1 hb1)
  have HB1 := hid hb1
  clear p1 p2 hb1
  go_loopw [5] (fun i wr => ∃ k : Nat, k ≤ n ∧ i = .int .i64 k ∧ Hid (Below w0.heap.size w0 wr ∧ (N.take k).map pS = (N'.take k).map pS)) (fun i _ => n - (intOf i).toNat)
  case atStart => exact ⟨0, by omega, rfl, HB1.out, by simp⟩
  case round =>
    obtain ⟨k, hk, rfl, HR⟩ := hrel
    obtain ⟨pa, pb⟩ := HP.out wr HR.out.1
    by_cases hlt : k < n
    · have hkn : (k : Int) < (n : Int) := by omega
      obtain ⟨ea, ha1, hm1⟩ := Lis.some HA.out hlt
      obtain ⟨eb, ha2, hm2⟩ := Lis.some HBn.out hlt
      have A1 := hid (HA.out.each ea hm1)
      have A2 := hid (HBn.out.each eb hm2)
      rcases HA.out.row with h0 | ⟨bl1, o1, rfl, hb1, _, hc1⟩
      · omega
      rcases HBn.out.row with h0 | ⟨bl2, o2, rfl, hb2, _, hc2⟩
      · omega
      obtain ⟨k0, k1, k2, k3, k4⟩ := s_at hc1 ha1
      obtain ⟨l0, l1, l2, l3, l4⟩ := s_at hc2 ha2
      have HY := hid (And.intro ha1 ha2)
      have hbw := on HB.out HR.out.1
      have pa' := After.cell pa
      have pb' := After.cell pb
      have r0 := After.cell (keep hbw k0)
      have r1 := After.cell (keep hbw k1)
      have r2 := After.cell (keep hbw k2)
      have r3 := After.cell (keep hbw k3)
      have r4 := After.cell (keep hbw k4)
      have s0 := After.cell (keep hbw l0)
      have s1 := After.cell (keep hbw l1)
      have s2 := After.cell (keep hbw l2)
      have s3 := After.cell (keep hbw l3)
      have s4 := After.cell (keep hbw l4)
      have hC := fun (p : After wr) => rsameShard_any (SAt.below A1.out (on hbw p.h)) (SAt.below A2.out (on hbw p.h))
      obtain ⟨t, ht⟩ : ∃ t, t = bz (pS ea = pS eb) := ⟨_, rfl⟩
      rw [← ht] at hC
      have HT := hid ht
      have HBB := hid hbw
      clear hc1 hc2 ha1 ha2 hm1 hm2 hb1 hb2 hbw ht k0 k1 k2 k3 k4 l0 l1 l2 l3 l4
      obtain ⟨ql, qs, r1', u1, e1, qI, r2', u2, e2, qE, r3', u3, e3, qU⟩ := ea
      obtain ⟨ql', qs', z1, v1, g1, qI', z2, v2, g2, qE', z3, v3, g3, qU'⟩ := eb
      unfold vS at hC
      dsimp only at r0 r1 r2 r3 r4 s0 s1 s2 s3 s4 hC
      haveI := After.ne wr
      cases t with
      | true =>
        go_wp2_with fail
        refine wp_region_after (by kernel_rfl) (by kernel_rfl) ?_
        repeat (go_big_quiet_step ((go_at_call 18; refine Calls.after_of (hC _))))
        refine wpQuiet_nil ?_
        rintro _ ⟨q, rfl⟩
        go_wp2_with fail
        go_roundw
        case rel => exact ⟨k + 1, by omega, by go_num, on HR.out.1 q.h, take_map HY.out.1 HY.out.2 HR.out.2 (bz_of HT.out.symm)⟩
        case measure => simp [intOf]; omega
      | false =>
        go_wp2_with fail
        refine wp_region_after (by kernel_rfl) (by kernel_rfl) ?_
        repeat (go_big_quiet_step ((go_at_call 18; refine Calls.after_of (hC _))))
        refine wpQuiet_nil ?_
        rintro _ ⟨q, rfl⟩
        go_wp2_with fail
        go_ret
        exact ⟨by rw [HF3.out fun h => bz_not HT.out.symm (map_at HY.out.1 HY.out.2 h)]; rfl, on HBB.out q.h⟩
    · have hk2 : n = k := by omega
      subst hk2
      go_wp2_with fail
      go_ret
      exact ⟨by rw [HT3.out (take_all HL.out.1 HL.out.2 HR.out.2)]; rfl, on HB.out HR.out.1⟩

end Go.Proofs.Ytnfflmndejbepaa.Sh
