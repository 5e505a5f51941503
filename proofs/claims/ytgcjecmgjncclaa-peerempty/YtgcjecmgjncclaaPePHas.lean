/-
  The program's Has and Lacks.
  Conditions: the interval and the info lie in memory.
-/
import Derived.Test.YtgcjecmgjncclaaPePlace
namespace Go.Proofs.Ytgcjecmgjncclaa.Pe
open Go.RowKit By Fl Pz
set_option linter.unusedVariables false
set_option linter.unusedSimpArgs false
set_option maxRecDepth 100000
attribute [local go_sem] Oper.semAt_some

set_option maxHeartbeats 6400000 in
theorem phas_any {w : World} {F G : Nat → Prop} {v : JV} {u : FV} (h : JAt w F v) (h2 : FAt w G u) :
    Calls Try.prog 8 #[vJ v, vF u] w fun e w' => e = .returned (.tuple #[.int .i64 ((hasI (pJ v) (pF u)).getD 0), .bool (hasI (pJ v) (pF u)).isSome]) ∧ Below w.heap.size w w' := by
  obtain ⟨w1, hw1⟩ : ∃ w1, w1 = (w.alloc (.cells (JCells v) 24)).alloc (.cells (FCells u) 27) := ⟨_, rfl⟩
  obtain ⟨bb, hsz, g0, g1⟩ := two_boxes2 w (JCells v) (FCells u) 24 27
  rw [← hw1] at bb hsz g0 g1
  have HB := hid bb
  have HKj : Hid (∀ W, Below w1.heap.size w1 W → W.heap[w.heap.size]? = some (.cells (JCells v) 24 (0, 0))) := hid fun W hW => (hW.block _ (lt_heap g0)).trans g0
  have HKf : Hid (∀ W, Below w1.heap.size w1 W → W.heap[w.heap.size + 1]? = some (.cells (FCells u) 27 (0, 0))) := hid fun W hW => (hW.block _ (lt_heap g1)).trans g1
  have cP := has_place (u := u) (h.below bb)
  have HA : Hid (Ts w G u.x u.n u.c u.L) := hid h2
  have HLn : Hid (u.L.length = u.n) := hid h2.len
  have hs1 := h2.small
  obtain ⟨R, hR⟩ : ∃ R, R = hasI (pJ v) (pF u) := ⟨_, rfl⟩
  obtain ⟨p, hp⟩ : ∃ p, p = counts (pJ v) (pF u) := ⟨_, rfl⟩
  have H1 : Hid (p = false → R = none) := hid fun q => by rw [hR]; exact hasI_no (hp.symm.trans q)
  have H2 : Hid (p = true → u.no = v.fr → R = some u.he) := hid fun q e => by rw [hR]; exact hasI_now (hp.symm.trans q) e
  have H3 : Hid (p = true → u.no ≠ v.fr → R = nextOf ((u.L.drop 0).map pT) v.fr) := hid fun q e => by rw [hR]; exact hasI_next (hp.symm.trans q) e
  rw [← hR]
  rw [← hp] at cP
  have c1 := jcells g0
  have c2 := fcells g1
  have HC := hid (And.intro c1 c2)
  unfold JCells FCells at hw1
  unfold vJ vF at cP
  unfold vJ vF
  clear h h2 bb hsz g0 g1 hR hp c1 c2
  obtain ⟨fr, to, x1, n1, c1, A, x2, n2, c2, V, x3, n3, c3, B, pr⟩ := v
  obtain ⟨os, li, no, he, x, n, c, L⟩ := u
  dsimp only at *
  go_enter Try.func8, Try.ntmps8
  go_upto_region 1 with (fail)
  rw [← hw1]
  clear hw1
  obtain ⟨⟨p0, p1, p2, p3, p4, p5⟩, q0, q1, q2, q3, q4⟩ := HC.out
  clear HC
  cases p with
  | false =>
    have HI := hid (H1.out rfl)
    go_wp2_with (go_at_call 19; refine cP.mono ?_; rintro e wa ⟨rfl, hb⟩; have HA1 := hid hb; clear hb cP)
    go_ret2
    exact ⟨by rw [HI.out]; rfl, on HB.out HA1.out⟩
  | true =>
  go_upto_region 3 with (go_at_call 19; refine cP.mono ?_; rintro e wa ⟨rfl, hb⟩; have HA1 := hid hb; clear hb cP)
  clear p0 p1 p2 p3 p4 p5 q0 q1 q2 q3 q4
  obtain ⟨p0, _, _, _, _, _⟩ := jcells (HKj.out wa HA1.out)
  obtain ⟨_, _, q2, q3, q4⟩ := fcells (HKf.out wa HA1.out)
  dsimp only at p0 q2 q3 q4
  obtain ⟨t1, h1⟩ : ∃ t, (no == fr) = t := ⟨_, rfl⟩
  cases t1 with
  | true =>
    have HI := hid (H2.out (by simp) (by simpa using h1))
    go_wp2_with fail
    go_ret2
    exact ⟨by rw [HI.out]; rfl, on HB.out HA1.out⟩
  | false =>
    have HI := hid (H3.out (by simp) (by simpa using h1))
    go_upto_region 6 with (fail)
    clear p0 q2 q3 q4 h1 H1 H2 H3
    obtain ⟨wz, hwz⟩ : ∃ wz, wz = wa := ⟨_, rfl⟩
    subst hwz
    go_loopw [22] (fun i wr => ∃ k : Nat, k ≤ n ∧ i = .int .i64 k ∧ Hid (Below w1.heap.size w1 wr ∧ R = nextOf ((L.drop k).map pT) fr)) (fun i _ => n - (intOf i).toNat)
    case atStart => exact ⟨0, by omega, rfl, HA1.out, HI.out⟩
    case round =>
      clear HI
      obtain ⟨k, hk, rfl, HR⟩ := hrel
      by_cases hn1 : k < n
      rotate_left
      · have e1 : n = k := by omega
        subst e1
        have HJ : Hid (R = none) := hid (by
          have e : L.drop n = [] := List.drop_eq_nil_of_le (by have := HLn.out; omega)
          rw [HR.out.2, e]
          rfl)
        go_wp2_with fail
        go_ret2
        exact ⟨by rw [HJ.out]; rfl, on HB.out HR.out.1⟩
      have hkn1 : (k : Int) < (n : Int) := by omega
      obtain ⟨a, ha, hm⟩ := Lis.some HA.out hn1
      rcases HA.out.row with hr0 | ⟨bl, q, hx, hbl, _, hc⟩
      · omega
      obtain ⟨k0, k1⟩ := t_at hc ha
      have hbw := on HB.out HR.out.1
      subst hx
      have r0 := keep hbw k0
      have r1 := keep hbw k1
      have HN := hid (next_drop (f := fr) ha)
      obtain ⟨a0, a1⟩ := a
      dsimp only at r0 r1
      clear hc ha hm hbl k0 k1 hbw
      go_upto_region 8 with (fail)
      clear r0 r1
      obtain ⟨wx, hwx⟩ : ∃ wx, wx = wr.alloc (.cells #[.int .i64 a0, .int .i64 a1] 48) := ⟨_, rfl⟩
      have bx : Below wr.heap.size wr wx := by rw [hwx]; exact al _ _
      have gx : wx.heap[wr.heap.size]? = some (.cells #[.int .i64 a0, .int .i64 a1] 48 (0, 0)) := by rw [hwx]; exact heap_alloc_new _ _
      rw [← hwx]
      have HBx := hid (on HR.out.1 bx)
      have s0 := cell_heap gx (j := 0) rfl
      have s1 := cell_heap gx (j := 1) rfl
      obtain ⟨p0, _, _, _, _, _⟩ := jcells (HKj.out wx HBx.out)
      dsimp only at p0
      clear hwx bx gx
      obtain ⟨t, ht⟩ : ∃ t, (a0 == fr) = t := ⟨_, rfl⟩
      cases t with
      | true =>
        have e := by simpa using ht
        have HJ : Hid (R = some a1) := hid (by rw [HR.out.2, HN.out]; exact if_pos e)
        go_wp2_with fail
        go_ret2
        exact ⟨by rw [HJ.out]; rfl, on HB.out HBx.out⟩
      | false =>
        have e : a0 ≠ fr := by simpa using ht
        have HJ : Hid (R = nextOf ((L.drop (k + 1)).map pT) fr) := hid (by rw [HR.out.2, HN.out]; exact if_neg e)
        go_wp2_with fail
        go_roundw
        case rel => exact ⟨k + 1, by omega, by go_num, HBx.out, HJ.out⟩
        case measure => simp [intOf]; omega

set_option maxHeartbeats 6400000 in
theorem placks_any {w : World} {F G : Nat → Prop} {v : JV} {u : FV} (h : JAt w F v) (h2 : FAt w G u) :
    Calls Try.prog 10 #[vJ v, vF u] w fun e w' => e = .returned (.bool (lacks (pJ v) (pF u))) ∧ Below w.heap.size w w' := by
  obtain ⟨w1, hw1⟩ : ∃ w1, w1 = (w.alloc (.cells (JCells v) 24)).alloc (.cells (FCells u) 27) := ⟨_, rfl⟩
  obtain ⟨bb, hsz, g0, g1⟩ := two_boxes2 w (JCells v) (FCells u) 24 27
  rw [← hw1] at bb hsz g0 g1
  have HB := hid bb
  have HKj : Hid (∀ W, Below w1.heap.size w1 W → W.heap[w.heap.size]? = some (.cells (JCells v) 24 (0, 0))) := hid fun W hW => (hW.block _ (lt_heap g0)).trans g0
  have HKf : Hid (∀ W, Below w1.heap.size w1 W → W.heap[w.heap.size + 1]? = some (.cells (FCells u) 27 (0, 0))) := hid fun W hW => (hW.block _ (lt_heap g1)).trans g1
  have cP := has_place (u := u) (h.below bb)
  have HH : Hid (∀ W, Below w1.heap.size w1 W → Calls Try.prog 8 #[vJ v, vF u] W fun e w' => e = .returned (.tuple #[.int .i64 ((hasI (pJ v) (pF u)).getD 0), .bool (hasI (pJ v) (pF u)).isSome]) ∧ Below W.heap.size W w') := hid fun W hW => phas_any ((h.below bb).below hW) ((FAt.below h2 bb).below hW)
  obtain ⟨D, hD⟩ : ∃ D, D = (hasI (pJ v) (pF u)).getD 0 := ⟨_, rfl⟩
  obtain ⟨s, hs⟩ : ∃ s, s = (hasI (pJ v) (pF u)).isSome := ⟨_, rfl⟩
  obtain ⟨t, ht⟩ : ∃ t, t = counts (pJ v) (pF u) := ⟨_, rfl⟩
  have HL : Hid (lacks (pJ v) (pF u) = (t && !s && decide (u.no < v.fr))) := hid (by unfold lacks; rw [hs, ht]; cases hasI (pJ v) (pF u) <;> rfl)
  rw [← hD, ← hs] at HH
  rw [← ht] at cP
  have c1 := jcells g0
  have c2 := fcells g1
  have HC := hid (And.intro c1 c2)
  generalize lacks (pJ v) (pF u) = LL at *
  unfold JCells FCells at hw1
  unfold vJ vF at cP HH
  unfold vJ vF
  clear h h2 bb hsz g0 g1 hD hs ht c1 c2
  obtain ⟨fr, to, x1, n1, c1, A, x2, n2, c2, V, x3, n3, c3, B, pr⟩ := v
  obtain ⟨os, li, no, he, x, n, c, L⟩ := u
  dsimp only at *
  go_enter Try.func10, Try.ntmps10
  go_upto_region 1 with (fail)
  rw [← hw1]
  clear hw1
  obtain ⟨⟨p0, p1, p2, p3, p4, p5⟩, q0, q1, q2, q3, q4⟩ := HC.out
  clear HC
  cases t with
  | false =>
    go_wp2_with (go_at_call 19; refine cP.mono ?_; rintro e wa ⟨rfl, hb⟩; have HA1 := hid hb; clear hb cP)
    go_ret
    exact ⟨by rw [HL.out]; rfl, on HB.out HA1.out⟩
  | true =>
  by_cases hlt : no < fr
  · have hge : ¬ fr ≤ no := by omega
    go_upto_region 3 with (go_at_call 19; refine cP.mono ?_; rintro e wa ⟨rfl, hb⟩; have HA1 := hid hb; obtain ⟨p0', _, _, _, _, _⟩ := jcells (HKj.out wa hb); obtain ⟨_, _, q2', _, _⟩ := fcells (HKf.out wa hb); dsimp only at p0' q2'; clear hb cP)
    clear p0 p1 p2 p3 p4 p5 q0 q1 q2 q3 q4 p0' q2'
    obtain ⟨p0, p1, p2, p3, p4, p5⟩ := jcells (HKj.out wa HA1.out)
    obtain ⟨q0, q1, q2, q3, q4⟩ := fcells (HKf.out wa HA1.out)
    dsimp only at p0 p1 p2 p3 p4 p5 q0 q1 q2 q3 q4
    have cH := HH.out wa HA1.out
    cases s with
    | true =>
      go_wp2_with (go_at_call 8; refine cH.mono ?_; rintro e wb ⟨rfl, hb⟩; have HA2 := hid (on HA1.out hb); clear hb cH)
      go_ret
      exact ⟨by rw [HL.out]; rfl, on HB.out HA2.out⟩
    | false =>
      go_wp2_with (go_at_call 8; refine cH.mono ?_; rintro e wb ⟨rfl, hb⟩; have HA2 := hid (on HA1.out hb); clear hb cH)
      go_ret
      exact ⟨by rw [HL.out, decide_eq_true (show no < fr by omega)]; rfl, on HB.out HA2.out⟩
  · have hge : fr ≤ no := by omega
    go_wp2_with (go_at_call 19; refine cP.mono ?_; rintro e wa ⟨rfl, hb⟩; have HA1 := hid hb; obtain ⟨p0', _, _, _, _, _⟩ := jcells (HKj.out wa hb); obtain ⟨_, _, q2', _, _⟩ := fcells (HKf.out wa hb); dsimp only at p0' q2'; clear hb cP)
    go_ret
    exact ⟨by rw [HL.out, decide_eq_false (show ¬ no < fr by omega), Bool.and_false]; rfl, on HB.out HA1.out⟩
end Go.Proofs.Ytgcjecmgjncclaa.Pe
