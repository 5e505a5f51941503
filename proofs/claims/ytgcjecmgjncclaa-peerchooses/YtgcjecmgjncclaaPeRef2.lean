/-
  The document's Has and Lacks.
  Conditions: the interval and the info lie in memory.
-/
import Derived.Test.YtgcjecmgjncclaaPeRef1
namespace Go.Proofs.Ytgcjecmgjncclaa.Pe
open Go.RowKit By Fl Pz
set_option linter.unusedVariables false
set_option linter.unusedSimpArgs false
set_option maxRecDepth 100000
attribute [local go_sem] Oper.semAt_some

theorem hasI_no {x : Itv} {i : Inf} (h : counts x i = false) : hasI x i = none := by unfold hasI; rw [h]; rfl
theorem hasI_now {x : Itv} {i : Inf} (h : counts x i = true) (e : i.no = x.fr) : hasI x i = some i.he := by unfold hasI; rw [if_pos h, if_pos e]
theorem hasI_next {x : Itv} {i : Inf} (h : counts x i = true) (e : i.no ≠ x.fr) : hasI x i = nextOf i.nx x.fr := by unfold hasI; rw [if_pos h, if_neg e]
theorem next_drop {L : List TV} {k : Nat} {a : TV} {f : Int} (h : L[k]? = some a) : nextOf ((L.drop k).map pT) f = if a.si = f then some a.hd else nextOf ((L.drop (k + 1)).map pT) f := by
  rw [drop_at h]
  rfl

set_option maxHeartbeats 6400000 in
theorem has_any {w : World} {F G : Nat → Prop} {v : JV} {u : FV} (h : JAt w F v) (h2 : FAt w G u) :
    Calls Try.prog 9 #[vJ v, vF u] w fun e w' => e = .returned (.tuple #[.int .i64 ((hasI (pJ v) (pF u)).getD 0), .bool (hasI (pJ v) (pF u)).isSome]) ∧ Below w.heap.size w w' := by
  obtain ⟨w1, hw1⟩ : ∃ w1, w1 = (w.alloc (.cells (JCells v) 24)).alloc (.cells (FCells u) 27) := ⟨_, rfl⟩
  obtain ⟨bb, hsz, g0, g1⟩ := two_boxes2 w (JCells v) (FCells u) 24 27
  rw [← hw1] at bb hsz g0 g1
  have HB := hid bb
  have HKj : Hid (∀ W, Below w1.heap.size w1 W → W.heap[w.heap.size]? = some (.cells (JCells v) 24 (0, 0))) := hid fun W hW => (hW.block _ (lt_heap g0)).trans g0
  have HKf : Hid (∀ W, Below w1.heap.size w1 W → W.heap[w.heap.size + 1]? = some (.cells (FCells u) 27 (0, 0))) := hid fun W hW => (hW.block _ (lt_heap g1)).trans g1
  have cP := place_any (h.below bb) u.os u.li
  have HA : Hid (Ts w G u.x u.n u.c u.L) := hid h2
  have HLn : Hid (u.L.length = u.n) := hid h2.len
  have hs1 := h2.small
  obtain ⟨R, hR⟩ : ∃ R, R = hasI (pJ v) (pF u) := ⟨_, rfl⟩
  obtain ⟨p, hp⟩ : ∃ p, p = plc v.A v.V u.os u.li 0 := ⟨_, rfl⟩
  have hc : p < 0 ↔ counts (pJ v) (pF u) = false := by rw [hp]; exact plc_neg v u.os u.li
  have H1 : Hid (p < 0 → R = none) := hid fun q => by rw [hR]; exact hasI_no (hc.1 q)
  have H2 : Hid (¬ p < 0 → u.no = v.fr → R = some u.he) := hid fun q e => by
    rw [hR]
    exact hasI_now (by cases hh : counts (pJ v) (pF u); exact absurd (hc.2 hh) q; rfl) e
  have H3 : Hid (¬ p < 0 → u.no ≠ v.fr → R = nextOf ((u.L.drop 0).map pT) v.fr) := hid fun q e => by
    rw [hR]
    exact hasI_next (by cases hh : counts (pJ v) (pF u); exact absurd (hc.2 hh) q; rfl) e
  rw [← hR]
  rw [← hp] at cP
  unfold JCells FCells at hw1
  unfold FCells at HKf
  unfold JCells at HKj
  unfold vJ at cP
  unfold vJ vF
  clear h h2 bb hsz g0 g1 hR hp hc
  obtain ⟨fr, to, x1, n1, c1, A, x2, n2, c2, V, x3, n3, c3, B, pr⟩ := v
  obtain ⟨os, li, no, he, x, n, c, L⟩ := u
  dsimp only at *
  have HW := hid hw1
  rw [hw1] at cP
  clear hw1
  by_cases hp : p < 0
  · have HI := hid (H1.out hp)
    go_enter Try.func9, Try.ntmps9
    go_wp2_with (go_at_call 20; refine cP.mono ?_; rintro e wa ⟨rfl, hb⟩; rw [← HW.out] at hb; have HA1 := hid hb; clear hb cP)
    go_ret2
    exact ⟨by rw [HI.out]; rfl, on HB.out HA1.out⟩
  obtain ⟨t1, h1⟩ : ∃ t, (no == fr) = t := ⟨_, rfl⟩
  cases t1 with
  | true =>
    have HI := hid (H2.out hp (by simpa using h1))
    go_enter Try.func9, Try.ntmps9
    go_wp2_with (go_at_call 20; refine cP.mono ?_; rintro e wa ⟨rfl, hb⟩; rw [← HW.out] at hb; have HA1 := hid hb; have p0 := cell_heap (HKj.out wa hb) (j := 0) rfl; have q2 := cell_heap (HKf.out wa hb) (j := 2) rfl; have q3 := cell_heap (HKf.out wa hb) (j := 3) rfl; clear hb cP)
    go_ret2
    exact ⟨by rw [HI.out]; rfl, on HB.out HA1.out⟩
  | false =>
    have HI := hid (H3.out hp (by simpa using h1))
    go_enter Try.func9, Try.ntmps9
    go_upto_region 5 with (go_at_call 20; refine cP.mono ?_; rintro e wa ⟨rfl, hb⟩; rw [← HW.out] at hb; have HA1 := hid hb; have p0 := cell_heap (HKj.out wa hb) (j := 0) rfl; have q2 := cell_heap (HKf.out wa hb) (j := 2) rfl; have q3 := cell_heap (HKf.out wa hb) (j := 3) rfl; clear hb cP)
    clear p0 q2 q3
    go_wp2_with fail
    go_loopw [6] (fun i wr => ∃ k : Nat, k ≤ n ∧ i = .int .i64 k ∧ Hid (Below w1.heap.size w1 wr ∧ R = nextOf ((L.drop k).map pT) fr)) (fun i _ => n - (intOf i).toNat)
    case atStart => exact ⟨0, by omega, rfl, HA1.out, HI.out⟩
    case round =>
      obtain ⟨k, hk, rfl, HR⟩ := hrel
      have p4 := cell_heap (HKf.out wr HR.out.1) (j := 4) rfl
      by_cases hn1 : k < n
      rotate_left
      · have e1 : n = k := by omega
        subst e1
        have HJ : Hid (R = none) := hid (by
          have e : L.drop n = [] := List.drop_eq_nil_of_le (by have := HLn.out; omega)
          rw [HR.out.2, e]
          rfl)
        go_wp2_with fail
        go_ret2
        exact ⟨by rw [HJ.out]; rfl, on HB.out HR.out.1⟩
      have p0 := cell_heap (HKj.out wr HR.out.1) (j := 0) rfl
      have hkn1 : (k : Int) < (n : Int) := by omega
      obtain ⟨a, ha, hm⟩ := Lis.some HA.out hn1
      rcases HA.out.row with hr0 | ⟨bl, q, hx, hbl, _, hc⟩
      · omega
      obtain ⟨k0, k1⟩ := t_at hc ha
      have hbw := on HB.out HR.out.1
      subst hx
      have r0 := keep hbw k0
      have r1 := keep hbw k1
      have s0 := After.cell r0
      have sp := After.cell p0
      have sq := After.cell p4
      have HN := hid (next_drop (f := fr) ha)
      obtain ⟨a0, a1⟩ := a
      dsimp only at r0 r1 s0
      obtain ⟨t, ht⟩ : ∃ t, (a0 == fr) = t := ⟨_, rfl⟩
      clear hc ha hm hbl k0 k1 hbw
      haveI := After.ne wr
      cases t with
      | true =>
        have e := by simpa using ht
        have HJ : Hid (R = some a1) := hid (by rw [HR.out.2, HN.out]; exact if_pos e)
        go_wp2_with fail
        refine wp_region_after (by kernel_rfl) (by kernel_rfl) ?_
        repeat (go_big_quiet_step (simp only []))
        refine wpQuiet_nil ?_
        rintro _ ⟨q, rfl⟩
        have r1' := keep q.h r1
        have p4' := sq q
        go_wp2_with fail
        go_ret2
        exact ⟨by rw [HJ.out]; rfl, on HB.out (on HR.out.1 q.h)⟩
      | false =>
        have e : a0 ≠ fr := by simpa using ht
        have HJ : Hid (R = nextOf ((L.drop (k + 1)).map pT) fr) := hid (by rw [HR.out.2, HN.out]; exact if_neg e)
        go_wp2_with fail
        refine wp_region_after (by kernel_rfl) (by kernel_rfl) ?_
        repeat (go_big_quiet_step (simp only []))
        refine wpQuiet_nil ?_
        rintro _ ⟨q, rfl⟩
        go_wp2_with fail
        go_roundw
        case rel => exact ⟨k + 1, by omega, by go_num, on HR.out.1 q.h, HJ.out⟩
        case measure => simp [intOf]; omega

set_option maxHeartbeats 6400000 in
theorem lacks_any {w : World} {F G : Nat → Prop} {v : JV} {u : FV} (h : JAt w F v) (h2 : FAt w G u) :
    Calls Try.prog 11 #[vJ v, vF u] w fun e w' => e = .returned (.bool (lacks (pJ v) (pF u))) ∧ Below w.heap.size w w' := by
  obtain ⟨w1, hw1⟩ : ∃ w1, w1 = (w.alloc (.cells (JCells v) 24)).alloc (.cells (FCells u) 27) := ⟨_, rfl⟩
  obtain ⟨bb, hsz, g0, g1⟩ := two_boxes2 w (JCells v) (FCells u) 24 27
  rw [← hw1] at bb hsz g0 g1
  have HB := hid bb
  have HKj : Hid (∀ W, Below w1.heap.size w1 W → W.heap[w.heap.size]? = some (.cells (JCells v) 24 (0, 0))) := hid fun W hW => (hW.block _ (lt_heap g0)).trans g0
  have HKf : Hid (∀ W, Below w1.heap.size w1 W → W.heap[w.heap.size + 1]? = some (.cells (FCells u) 27 (0, 0))) := hid fun W hW => (hW.block _ (lt_heap g1)).trans g1
  have cH := has_any (h.below bb) (FAt.below h2 bb)
  have HP : Hid (∀ W, Below w1.heap.size w1 W → Calls Try.prog 20 #[vJ v, .int .i64 u.os, .int .i64 u.li] W fun e w' => e = .returned (.int .i64 (plc v.A v.V u.os u.li 0)) ∧ Below W.heap.size W w') := hid fun W hW => place_any ((h.below bb).below hW) u.os u.li
  obtain ⟨R, hR⟩ : ∃ R, R = hasI (pJ v) (pF u) := ⟨_, rfl⟩
  obtain ⟨p, hp⟩ : ∃ p, p = plc v.A v.V u.os u.li 0 := ⟨_, rfl⟩
  have hc : p < 0 ↔ counts (pJ v) (pF u) = false := by rw [hp]; exact plc_neg v u.os u.li
  obtain ⟨D, hD⟩ : ∃ D, D = R.getD 0 := ⟨_, rfl⟩
  obtain ⟨s, hs⟩ : ∃ s, s = R.isSome := ⟨_, rfl⟩
  obtain ⟨t, ht⟩ : ∃ t, t = counts (pJ v) (pF u) := ⟨_, rfl⟩
  have HL : Hid (lacks (pJ v) (pF u) = (t && !s && decide (u.no < v.fr))) := hid (by unfold lacks; rw [← hR, hs, ht]; cases R <;> rfl)
  rw [← hR, ← hD, ← hs] at cH
  rw [← hp] at HP
  rw [← ht] at hc
  unfold JCells FCells at hw1
  unfold FCells at HKf
  unfold JCells at HKj
  generalize lacks (pJ v) (pF u) = LL at *
  unfold vJ at HP
  unfold vJ vF at cH
  unfold vJ vF
  clear h h2 bb hsz g0 g1 hR hp hD hs ht
  obtain ⟨fr, to, x1, n1, c1, A, x2, n2, c2, V, x3, n3, c3, B, pr⟩ := v
  obtain ⟨os, li, no, he, x, n, c, L⟩ := u
  dsimp only at *
  have HW := hid hw1
  rw [hw1] at cH
  clear hw1
  cases t with
  | false =>
    have hq : p < 0 := hc.2 rfl
    have hq2 : ¬ 0 ≤ p := by omega
    go_enter Try.func11, Try.ntmps11
    go_wp2_with (first
      | (go_at_call 9; refine cH.mono ?_; rintro e wa ⟨rfl, hb⟩; rw [← HW.out] at hb; have HA1 := hid hb; have gj := HKj.out wa hb; have gf := HKf.out wa hb; have p0 := cell_heap gj (j := 0) rfl; have p1 := cell_heap gj (j := 1) rfl; have p2 := cell_heap gj (j := 2) rfl; have p3 := cell_heap gj (j := 3) rfl; have p4 := cell_heap gj (j := 4) rfl; have p5 := cell_heap gj (j := 5) rfl; have q0 := cell_heap gf (j := 0) rfl; have q1 := cell_heap gf (j := 1) rfl; clear gj gf hb cH)
      | (go_at_call 20; refine (HP.out wa HA1.out).mono ?_; rintro e wb ⟨rfl, hb2⟩; have HA2 := hid (on HA1.out hb2); clear hb2))
    go_ret
    exact ⟨by rw [HL.out]; rfl, on HB.out HA2.out⟩
  | true =>
    have hq : 0 ≤ p := by
      by_cases q : p < 0
      · cases hc.1 q
      · omega
    cases s with
    | true =>
      go_enter Try.func11, Try.ntmps11
      go_wp2_with (first
        | (go_at_call 9; refine cH.mono ?_; rintro e wa ⟨rfl, hb⟩; rw [← HW.out] at hb; have HA1 := hid hb; have gj := HKj.out wa hb; have gf := HKf.out wa hb; have p0 := cell_heap gj (j := 0) rfl; have p1 := cell_heap gj (j := 1) rfl; have p2 := cell_heap gj (j := 2) rfl; have p3 := cell_heap gj (j := 3) rfl; have p4 := cell_heap gj (j := 4) rfl; have p5 := cell_heap gj (j := 5) rfl; have q0 := cell_heap gf (j := 0) rfl; have q1 := cell_heap gf (j := 1) rfl; clear gj gf hb cH)
        | (go_at_call 20; refine (HP.out wa HA1.out).mono ?_; rintro e wb ⟨rfl, hb2⟩; have HA2 := hid (on HA1.out hb2); clear hb2))
      go_ret
      exact ⟨by rw [HL.out]; rfl, on HB.out HA2.out⟩
    | false =>
      go_enter Try.func11, Try.ntmps11
      go_wp2_with (first
        | (go_at_call 9; refine cH.mono ?_; rintro e wa ⟨rfl, hb⟩; rw [← HW.out] at hb; have HA1 := hid hb; have gj := HKj.out wa hb; have gf := HKf.out wa hb; have p0 := cell_heap gj (j := 0) rfl; have p1 := cell_heap gj (j := 1) rfl; have p2 := cell_heap gj (j := 2) rfl; have p3 := cell_heap gj (j := 3) rfl; have p4 := cell_heap gj (j := 4) rfl; have p5 := cell_heap gj (j := 5) rfl; have q0 := cell_heap gf (j := 0) rfl; have q1 := cell_heap gf (j := 1) rfl; clear gj gf hb cH)
        | (go_at_call 20; refine (HP.out wa HA1.out).mono ?_; rintro e wb ⟨rfl, hb2⟩; have HA2 := hid (on HA1.out hb2); have p0 := cell_heap (HKj.out wb HA2.out) (j := 0) rfl; have q2 := cell_heap (HKf.out wb HA2.out) (j := 2) rfl; clear hb2))
      go_ret
      exact ⟨by rw [HL.out]; rfl, on HB.out HA2.out⟩

end Go.Proofs.Ytgcjecmgjncclaa.Pe
