/-
  The law's own: does an info count for an interval?
  Conditions: the interval lies in memory.
-/
import Derived.Test.YtgcjecmgjncclaaPeRef1
namespace Go.Proofs.Ytgcjecmgjncclaa.Pe
open Go.RowKit By Fl Pz
set_option linter.unusedVariables false
set_option linter.unusedSimpArgs false
set_option maxRecDepth 100000
attribute [local go_sem] Oper.semAt_some

theorem cnt_drop {A V : List Int} {k : Nat} {a l o f : Int} (h : A[k]? = some a) (h2 : V[k]? = some l) : countsL (A.drop k) (V.drop k) o f = ((a != -1 && a == o && l == f) || countsL (A.drop (k + 1)) (V.drop (k + 1)) o f) := by
  rw [drop_at h, drop_at h2]
  rfl

set_option maxHeartbeats 6400000 in
theorem counts_any {w : World} {F : Nat → Prop} {v : JV} (u : FV) (h : JAt w F v) :
    Calls Try.prog 17 #[vJ v, vF u] w fun e w' => e = .returned (.bool (counts (pJ v) (pF u))) ∧ Below w.heap.size w w' := by
  obtain ⟨w1, hw1⟩ : ∃ w1, w1 = (w.alloc (.cells (JCells v) 24)).alloc (.cells (FCells u) 27) := ⟨_, rfl⟩
  obtain ⟨bb, hsz, g0, g1⟩ := two_boxes2 w (JCells v) (FCells u) 24 27
  rw [← hw1] at bb hsz g0 g1
  have HB := hid bb
  have HKj : Hid (∀ W, Below w1.heap.size w1 W → W.heap[w.heap.size]? = some (.cells (JCells v) 24 (0, 0))) := hid fun W hW => (hW.block _ (lt_heap g0)).trans g0
  have HKf : Hid (∀ W, Below w1.heap.size w1 W → W.heap[w.heap.size + 1]? = some (.cells (FCells u) 27 (0, 0))) := hid fun W hW => (hW.block _ (lt_heap g1)).trans g1
  have HA := hid h.a
  have HV := hid h.l
  have HLn : Hid (v.A.length = v.n1 ∧ v.V.length = v.n2) := hid ⟨h.a.len, h.l.len⟩
  have hs1 := h.a.small
  have hs2 := h.l.small
  obtain ⟨P, hP⟩ : ∃ P, P = counts (pJ v) (pF u) := ⟨_, rfl⟩
  have H0 : Hid (P = countsL (v.A.drop 0) (v.V.drop 0) u.os u.li) := hid hP
  rw [← hP]
  unfold JCells FCells at hw1
  unfold FCells at HKf
  unfold JCells at HKj
  unfold vJ vF
  clear h bb hsz g0 g1 hP
  obtain ⟨fr, to, x1, n1, c1, A, x2, n2, c2, V, x3, n3, c3, B, pr⟩ := v
  obtain ⟨os, li, no, he, x, n, c, L⟩ := u
  dsimp only at *
  go_enter Try.func17, Try.ntmps17
  go_upto_region 2 with (fail)
  rw [← hw1]
  clear hw1
  go_wp2_with fail
  go_loopw [5] (fun i wr => ∃ k : Nat, k ≤ n1 ∧ k ≤ n2 ∧ i = .int .i64 k ∧ Hid (Below w1.heap.size w1 wr ∧ P = countsL (A.drop k) (V.drop k) os li)) (fun i _ => n1 - (intOf i).toNat)
  case atStart => exact ⟨0, by omega, by omega, rfl, Below.refl _ _, H0.out⟩
  case round =>
    obtain ⟨k, hk1, hk2, rfl, HR⟩ := hrel
    have p2 := cell_heap (HKj.out wr HR.out.1) (j := 2) rfl
    have p3 := cell_heap (HKj.out wr HR.out.1) (j := 3) rfl
    by_cases hn1 : k < n1
    rotate_left
    · have e1 : n1 = k := by omega
      subst e1
      have HI : Hid (P = false) := hid (by rw [HR.out.2, List.drop_eq_nil_of_le (by have := HLn.out.1; omega)]; rfl)
      go_wp2_with fail
      go_ret
      exact ⟨by rw [HI.out]; rfl, on HB.out HR.out.1⟩
    by_cases hn2 : k < n2
    rotate_left
    · have e1 : n2 = k := by omega
      subst e1
      have hkn : (n2 : Int) < (n1 : Int) := by omega
      have HI : Hid (P = false) := hid (by
        have e : V.drop n2 = [] := List.drop_eq_nil_of_le (by have := HLn.out.2; omega)
        rw [HR.out.2, e]
        cases A.drop n2 <;> rfl)
      go_wp2_with fail
      go_ret
      exact ⟨by rw [HI.out]; rfl, on HB.out HR.out.1⟩
    have hkn1 : (k : Int) < (n1 : Int) := by omega
    have hkn2 : (k : Int) < (n2 : Int) := by omega
    obtain ⟨a, ha, hm⟩ := Lis.some HA.out hn1
    obtain ⟨l, hl, hm2⟩ := Lis.some HV.out hn2
    rcases HA.out.row with hr0 | ⟨bl, q, hx, hbl, _, hc⟩
    · omega
    rcases HV.out.row with hr0 | ⟨bl2, q2, hy, hbl2, _, hc2⟩
    · omega
    have k0 := n_at hc ha
    have k1 := n_at hc2 hl
    have hbw := on HB.out HR.out.1
    have q0 := cell_heap (HKf.out wr HR.out.1) (j := 0) rfl
    have q1 := cell_heap (HKf.out wr HR.out.1) (j := 1) rfl
    subst hx hy
    have s0 := After.cell (keep hbw k0)
    have s1 := After.cell (keep hbw k1)
    have s2 := After.cell p2
    have s3 := After.cell p3
    have s4 := After.cell q0
    have s5 := After.cell q1
    have HN := hid (cnt_drop (o := os) (f := li) ha hl)
    obtain ⟨t1, h1⟩ : ∃ t, (a != -1) = t := ⟨_, rfl⟩
    obtain ⟨t2, h2⟩ : ∃ t, (a == os) = t := ⟨_, rfl⟩
    obtain ⟨t3, h3⟩ : ∃ t, (l == li) = t := ⟨_, rfl⟩
    have HP : Hid (P = ((t1 && t2 && t3) || countsL (A.drop (k + 1)) (V.drop (k + 1)) os li)) := hid (by
      rw [HR.out.2, HN.out, h1, h2, h3])
    clear hc ha hm hbl hc2 hbl2 hl hm2 k0 k1 hbw q0 q1 HN
    haveI := After.ne wr
    cases t1 <;> cases t2 <;> cases t3
    all_goals
      go_wp2_with fail
      refine wp_region_after (by kernel_rfl) (by kernel_rfl) ?_
      repeat (go_big_quiet_step (simp only [h1, h2, h3]))
      refine wpQuiet_nil ?_
      rintro _ ⟨q, rfl⟩
      go_wp2_with fail
      first
        | (go_roundw
           case rel => exact ⟨k + 1, by omega, by omega, by go_num, on HR.out.1 q.h, HP.out⟩
           case measure => simp [intOf]; omega)
        | (go_ret
           exact ⟨by rw [HP.out]; rfl, on HB.out (on HR.out.1 q.h)⟩)

end Go.Proofs.Ytgcjecmgjncclaa.Pe
