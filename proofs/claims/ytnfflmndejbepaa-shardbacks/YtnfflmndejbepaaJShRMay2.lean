/-
  2 texts of this proof, one behind the other: ShRMay2, ShRAsk.
-/
import Derived.Test.YtnfflmndejbepaaShRMay1
import Derived.Test.YtnfflmndejbepaaShMay4
import Derived.Test.YtnfflmndejbepaaShAsk
/-
  The document's May.
  Conditions: the holder lies in memory.
-/
namespace Go.Proofs.Ytnfflmndejbepaa.Sh
set_option linter.unusedSectionVars false
variable [Inhabited DZ]
open Go.RowKit By Fl
set_option linter.unusedVariables false
set_option linter.unusedSimpArgs false
set_option maxRecDepth 100000

set_option maxHeartbeats 6400000 in
theorem rmay_any {w : World} {F : Nat → Prop} {v : HV} (h : HAt w F v) : Calls Try.prog 15 #[vH v] w fun e w' => e = .returned (.bool (bz (okH (pH v)))) ∧ Below w.heap.size w w' := by
  obtain ⟨w1, hw1⟩ : ∃ w1, w1 = w.alloc (.cells (HCells v) 29) := ⟨_, rfl⟩
  have bb : Below w.heap.size w w1 := by rw [hw1]; exact al _ _
  have hF : HFacts w1 w.heap.size v w1 := by rw [hw1]; exact HFacts.new w v
  obtain ⟨R, hR⟩ : ∃ R, R = bz (okH (pH v)) := ⟨_, rfl⟩
  rw [← hR]
  obtain ⟨tW, htW⟩ : ∃ t, t = decide ((0 : Int) ≤ v.fe ∧ v.fe ≤ 1048576) := ⟨_, rfl⟩
  obtain ⟨tS, htS⟩ : ∃ t, t = bz (okS (pS v.now)) := ⟨_, rfl⟩
  have HC := hid fun W => rwithin_any v.fe 0 1048576 W
  rw [← htW] at HC
  have hD := rshard_any (h.s.below bb)
  rw [← htS] at hD
  have hl := h.n.len
  have hsm := h.n.small
  have HT : Hid (R = (tW && tS && decide (v.now.si ≤ v.fe) && bz (v.n ≤ 64 ∧ Nexts v.now.si (v.N.map pS) v.fe))) := by
    refine hid ?_
    rw [hR, htW, htS]
    refine bz_eq ?_
    unfold okH pH
    simp only [Bool.and_eq_true, decide_eq_true_eq, List.length_map, hl]
    exact ⟨fun ⟨⟨⟨a, b⟩, c⟩, d⟩ => ⟨a, bz_of b, c, bz_of d⟩, fun ⟨a, b, c, d⟩ => ⟨⟨⟨a, bz_true b⟩, c⟩, bz_true d⟩⟩
  have HSi : Hid (tS = true → 0 ≤ v.now.si ∧ v.now.si ≤ 1048576) := fun h1 => okS_b (s := pS v.now) (by rw [htS] at h1; exact bz_of h1)
  have HB := hid bb
  have HA := hid h.n
  have HL := hid hl
  clear hR h bb htW htS hl
  obtain ⟨fe, ⟨pl, si, x1, n1, c1, I, x2, n2, c2, E, x3, n3, c3, U⟩, x, n, c, L⟩ := v
  unfold vH
  unfold vS at hD
  obtain ⟨_, f0, f1, f2, f3, f4, f5, f6⟩ := id hF
  unfold HCells at hw1
  dsimp only at *
  subst hw1
  cases tW with
  | false =>
    go_enter Try.func15, Try.ntmps15
    go_wp2_with (go_at_call 44; refine (HC.out _).mono ?_; rintro e w3 ⟨rfl, hw⟩; subst w3)
    go_ret
    exact ⟨by rw [HT.out]; rfl, HB.out⟩
  | true =>
    cases tS with
    | false =>
      go_enter Try.func15, Try.ntmps15
      go_wp2_with (first
        | (go_at_call 44; refine (HC.out _).mono ?_; rintro e w3 ⟨rfl, hw⟩; subst w3)
        | (go_at_call 17; refine hD.mono ?_; rintro e w3 ⟨rfl, hb3⟩))
      go_ret
      exact ⟨by rw [HT.out]; rfl, on HB.out hb3⟩
    | true =>
      by_cases hsf : si ≤ fe
      rotate_left
      · have hsf' : fe < si := by omega
        have HD : Hid (decide (si ≤ fe) = false) := hid (by simpa using hsf')
        go_enter Try.func15, Try.ntmps15
        go_wp2_with (first
          | (go_at_call 44; refine (HC.out _).mono ?_; rintro e w3 ⟨rfl, hw⟩; subst w3)
          | (go_at_call 17; refine hD.mono ?_; rintro e w3 ⟨rfl, hb3⟩; clear hD; obtain ⟨_, q0, q1, q2, q3, q4, q5, q6⟩ := hF.below hb3))
        go_ret
        exact ⟨by rw [HT.out, HD.out]; rfl, on HB.out hb3⟩
      have hsf' : ¬ fe < si := by omega
      have HD : Hid (decide (si ≤ fe) = true) := hid (by simpa using hsf)
      by_cases h64 : n ≤ 64
      rotate_left
      · have h64' : (64 : Int) < (n : Int) := by omega
        have h642 : 64 < n := by omega
        go_enter Try.func15, Try.ntmps15
        go_wp2_with (first
          | (go_at_call 44; refine (HC.out _).mono ?_; rintro e w3 ⟨rfl, hw⟩; subst w3)
          | (go_at_call 17; refine hD.mono ?_; rintro e w3 ⟨rfl, hb3⟩; clear hD; obtain ⟨_, q0, q1, q2, q3, q4, q5, q6⟩ := hF.below hb3))
        go_ret
        exact ⟨by rw [HT.out, HD.out, bz_false fun h => h64 h.1]; rfl, on HB.out hb3⟩
      have h64' : ¬ (64 : Int) < (n : Int) := by omega
      have h642 : ¬ 64 < n := by omega
      have HS := hid (HSi.out rfl)
      have HTT : Hid (Nexts si (L.map pS) fe → R = true) := fun hn => by rw [HT.out, HD.out, bz_true ⟨h64, hn⟩]; rfl
      have HF : Hid (¬ Nexts si (L.map pS) fe → R = false) := fun hn => by rw [HT.out, HD.out, bz_false fun h => hn h.2]; rfl
      clear HT HSi
      have HFF := hid hF
      clear hF
      go_enter Try.func15, Try.ntmps15
      go_wp2_with (first
        | (go_at_call 44; refine (HC.out _).mono ?_; rintro e w3 ⟨rfl, hw⟩; subst w3)
        | (go_at_call 17; refine hD.mono ?_; rintro e w3 ⟨rfl, hb3⟩; clear hD; obtain ⟨_, q0, q1, q2, q3, q4, q5, q6⟩ := HFF.out.below hb3))
      have HF3 := hid (HFF.out.below hb3)
      clear f0 f1 f2 f3 f4 f5 f6 q0 q1 q2 q3 q4 q5 q6
      go_loopw [4, 3] (fun i a wr => ∃ k : Nat, ∃ z : Int, k ≤ n ∧ i = .int .i64 k ∧ a = .int .i64 z ∧ Hid (HFacts (w.alloc (.cells #[.int .i64 fe, .int .i64 pl, .int .i64 si, .slice x1 n1 c1, .slice x2 n2 c2, .slice x3 n3 c3, .slice x n c] 29)) w.heap.size ⟨fe, ⟨pl, si, x1, n1, c1, I, x2, n2, c2, E, x3, n3, c3, U⟩, x, n, c, L⟩ wr ∧ z = nxt (L.map pS) si k ∧ Nexts si ((L.map pS).take k) fe)) (fun i _ _ => n - (intOf i).toNat)
      case atStart => exact ⟨0, si, by omega, rfl, rfl, HF3.out, rfl, trivial⟩
      case round =>
        clear HF3
        obtain ⟨k, z, hk, rfl, rfl, HR⟩ := hrel
        have pa := HR.out.1.c6
        have pf := HR.out.1.c0
        dsimp only at pa pf
        by_cases hlt : k < n
        · have hkn : (k : Int) < (n : Int) := by omega
          obtain ⟨ea, ha1, hm1⟩ := Lis.some HA.out hlt
          have A1 := hid (HA.out.each ea hm1)
          rcases HA.out.row with h0 | ⟨b1, o1, rfl, hb1, _, hc1⟩
          · omega
          obtain ⟨k0, k1, k2, k3, k4⟩ := s_at hc1 ha1
          have hbw := on HB.out HR.out.1.b
          have HY : Hid ((L.map pS)[k]? = some (pS ea)) := hid (map_get ha1)
          have pa' := After.cell pa
          have pf' := After.cell pf
          have r0 := After.cell (keep hbw k0)
          have r1 := After.cell (keep hbw k1)
          have r2 := After.cell (keep hbw k2)
          have r3 := After.cell (keep hbw k3)
          have r4 := After.cell (keep hbw k4)
          have hS := fun (p : After wr) => rshard_any (SAt.below A1.out (on hbw p.h))
          obtain ⟨tQ, htQ⟩ : ∃ t, t = bz (okS (pS ea)) := ⟨_, rfl⟩
          rw [← htQ] at hS
          have HE : Hid ((z < ea.si ∧ ea.si ≤ fe ∧ tQ = true) ↔ (nxt (L.map pS) si k < (pS ea).si ∧ (pS ea).si ≤ fe ∧ okS (pS ea))) := by
            refine hid ?_
            rw [← HR.out.2.1, htQ]
            exact ⟨fun ⟨a, b, c⟩ => ⟨a, b, bz_of c⟩, fun ⟨a, b, c⟩ => ⟨a, b, bz_true c⟩⟩
          have HN : Hid (nxt (L.map pS) si (k + 1) = ea.si) := hid (by rw [nxt_succ, HY.out]; rfl)
          have hbb := HR.out.1.b
          have HBB := hid hbw
          haveI := After.ne wr
          clear hc1 ha1 hm1 hb1 hbw htQ k0 k2 k3 k4 hbb
          have k1' := keep HBB.out k1
          clear k1
          obtain ⟨pl', si', y1, m1, d1, I', y2, m2, d2, E', y3, m3, d3, U'⟩ := ea
          unfold vS at hS
          (try dsimp only at hS)
          (try dsimp only at r0 r1 r2 r3 r4 k1')
          by_cases hz1 : z < si'
          rotate_left
          · have hz2 : si' ≤ z := by omega
            have hqa : decide (si' ≤ z) = true := by simp; omega
            go_wp2_with fail
            refine wp_region_after (by kernel_rfl) (by kernel_rfl) ?_
            repeat (go_big_quiet_step (fail))
            refine wpQuiet_nil ?_
            rintro _ ⟨q, rfl⟩
            go_wp2_with fail
            go_ret
            exact ⟨by rw [HF.out (nexts_no HY.out fun h => by have := (HE.out.2 h).1; omega)]; rfl, on HBB.out q.h⟩
          have hz2 : ¬ si' ≤ z := by omega
          have hqa : decide (si' ≤ z) = false := by simp; omega
          by_cases hz3 : si' ≤ fe
          rotate_left
          · have hz4 : fe < si' := by omega
            have hqb : decide (fe < si') = true := by simp; omega
            go_wp2_with fail
            refine wp_region_after (by kernel_rfl) (by kernel_rfl) ?_
            repeat (go_big_quiet_step (fail))
            refine wpQuiet_nil ?_
            rintro _ ⟨q, rfl⟩
            go_wp2_with fail
            go_ret
            exact ⟨by rw [HF.out (nexts_no HY.out fun h => by have := (HE.out.2 h).2.1; omega)]; rfl, on HBB.out q.h⟩
          have hz4 : ¬ fe < si' := by omega
          have hqb : decide (fe < si') = false := by simp; omega
          cases tQ with
          | false =>
            go_wp2_with fail
            refine wp_region_after (by kernel_rfl) (by kernel_rfl) ?_
            repeat (go_big_quiet_step ((go_at_call 17; refine Calls.after_of (hS _))))
            refine wpQuiet_nil ?_
            rintro _ ⟨q, rfl⟩
            go_wp2_with fail
            go_ret
            exact ⟨by rw [HF.out (nexts_no HY.out fun h => by have := (HE.out.2 h).2.2; cases this)]; rfl, on HBB.out q.h⟩
          | true =>
            go_wp2_with fail
            refine wp_region_after (by kernel_rfl) (by kernel_rfl) ?_
            repeat (go_big_quiet_step ((go_at_call 17; refine Calls.after_of (hS _))))
            refine wpQuiet_nil ?_
            rintro _ ⟨q, rfl⟩
            have pq := keep q.h pa
            have kq := keep q.h k1'
            go_wp2_with fail
            go_roundw
            case rel => exact ⟨k + 1, si', by omega, by go_num, rfl, HR.out.1.below q.h, HN.out.symm, (nexts_take HY.out).2 ⟨HR.out.2.2, HE.out.1 ⟨hz1, hz3, by trivial⟩⟩⟩
            case measure => simp [intOf]; omega
        · have hk2 : n = k := by omega
          subst hk2
          go_wp2_with fail
          go_ret
          exact ⟨by rw [HTT.out (by have := HR.out.2.2; rwa [List.take_of_length_le (by rw [List.length_map]; have := HL.out; omega)] at this)]; rfl, on HB.out HR.out.1.b⟩

end Go.Proofs.Ytnfflmndejbepaa.Sh

/-
  The document's Ask.
  Conditions: the holder lies in memory.
-/
namespace Go.Proofs.Ytnfflmndejbepaa.Sh
set_option linter.unusedSectionVars false
variable [Inhabited DZ]
open Go.RowKit By Fl
set_option linter.unusedVariables false
set_option linter.unusedSimpArgs false
set_option maxRecDepth 100000

theorem zHV_at (w : World) (F : Nat → Prop) : HAt w F zHV := ⟨zSV_at w F, Lis.empty w F⟩

/- A holder that a call of the document tells, with a number. -/
def RTells (w : World) (F : Nat → Prop) (H : Hld) (z : Int) (e : Ending) (w' : World) : Prop := ∃ v', e = .returned (.tuple #[vH v', .int .i64 z]) ∧ Hid (HAt w' (fun q => F q ∨ New w w' q) v' ∧ pH v' = H ∧ Below w.heap.size w w')

theorem HAt.fence {w : World} {F : Nat → Prop} {v : HV} (h : HAt w F v) (z : Int) : HAt w F { v with fe := z } := ⟨h.s, h.n⟩

set_option maxHeartbeats 12800000 in
theorem rask_any {w : World} {F : Nat → Prop} {v : HV} (since : Int) (h : HAt w F v) : Calls Try.prog 29 #[vH v, .int .i64 since] w fun e w' => RTells w F (askP (pH v) since).1 (askP (pH v) since).2 e w' := by
  obtain ⟨w1, hw1⟩ : ∃ w1, w1 = (w.alloc (.cells (HCells v) 29)).alloc (.cells zHBox 29) := ⟨_, rfl⟩
  obtain ⟨bb, hsz, g0, g1⟩ := two_boxes w (HCells v) zHBox 29
  rw [← hw1] at bb hsz g0 g1
  have hC1 := rmay_any (h.below bb)
  have HC3 := hid (fun W => rwithin_any since 1 1048576 W)
  obtain ⟨tK, htK⟩ : ∃ t, t = bz (okH (pH v)) := ⟨_, rfl⟩
  obtain ⟨tW, htW⟩ : ∃ t, t = decide ((1 : Int) ≤ since ∧ since ≤ 1048576) := ⟨_, rfl⟩
  have HP : Hid (askP (pH v) since = if tK then (if tW then (if since < v.fe then (pH v, 7) else (⟨since, (pH v).now, (pH v).nx⟩, 0)) else (pH v, 1)) else (zH, 1)) := hid (by rw [htK, htW]; rfl)
  rw [← htK] at hC1
  rw [← htW] at HC3
  have HB := hid bb
  have HSz := hid hsz
  have HG0 := hid g0
  have HG1 := hid g1
  have HVV := hid h
  generalize askP (pH v) since = PP at *
  clear h bb hsz g0 g1 htK htW
  obtain ⟨fe, ⟨pl, si, x1, n1, c1, I, x2, n2, c2, E, x3, n3, c3, U⟩, x, n, c, N⟩ := v
  unfold HCells zHBox at hw1
  unfold HCells at HG0
  unfold zHBox at HG1
  unfold vH at hC1
  show Calls Try.prog 29 #[.agg #[.int .i64 fe, .int .i64 pl, .int .i64 si, .slice x1 n1 c1, .slice x2 n2 c2, .slice x3 n3 c3, .slice x n c], .int .i64 since] w _
  dsimp only at *
  have HW := hid hw1
  rw [hw1] at hC1
  clear hw1
  have fin : ∀ (wa W : World) (u : HV) (H : Hld) (z : Int), Below w1.heap.size w1 wa → (∀ X, Below w.heap.size w X → HAt X F u) → pH u = H → Turns (fun k => k = w.heap.size ∨ k = w.heap.size + 1) wa W → PP = (H, z) → RTells w F PP.1 PP.2 (.returned (.tuple #[vH u, .int .i64 z])) W := fun wa W u H z h1 h2 h3 t hp => by
    have bw : Below w.heap.size w W := (on HB.out h1).trans (t.below (fun q e => by rcases e with e | e <;> omega) (by have := HSz.out; have := h1.size; omega))
    rw [hp]
    exact ⟨u, rfl, hid ⟨(h2 W bw).weak fun q hq => .inl hq, h3, bw⟩⟩
  have HFin := hid fin
  clear fin
  cases tK with
  | false =>
    go_enter Try.func29, Try.ntmps29
    go_wp2_with (go_at_call 15; refine hC1.mono ?_; rintro e wa ⟨rfl, H1⟩; rw [← HW.out] at H1; have HA := hid H1; have ga := (H1.block w.heap.size (by have := HSz.out; omega)).trans HG0.out; have gb := (H1.block (w.heap.size + 1) (by have := HSz.out; omega)).trans HG1.out; have a0 := cell_heap ga (j := 0) rfl; have b0 := cell_heap gb (j := 0) rfl; have fb0 := fr_heap gb 0; have a1 := cell_heap ga (j := 1) rfl; have b1 := cell_heap gb (j := 1) rfl; have fb1 := fr_heap gb 1; have a2 := cell_heap ga (j := 2) rfl; have b2 := cell_heap gb (j := 2) rfl; have fb2 := fr_heap gb 2; have a3 := cell_heap ga (j := 3) rfl; have b3 := cell_heap gb (j := 3) rfl; have fb3 := fr_heap gb 3; have a4 := cell_heap ga (j := 4) rfl; have b4 := cell_heap gb (j := 4) rfl; have fb4 := fr_heap gb 4; have a5 := cell_heap ga (j := 5) rfl; have b5 := cell_heap gb (j := 5) rfl; have fb5 := fr_heap gb 5; have a6 := cell_heap ga (j := 6) rfl; have b6 := cell_heap gb (j := 6) rfl; have fb6 := fr_heap gb 6; have fa0 := fr_heap ga 0; have HGa := hid ga; have HGb := hid gb; clear ga gb hC1)
    refine bodyPost_ret (v := .tuple #[vH zHV, .int .i64 1]) ?_ rfl ?_
    · rw [results_cell2 rfl]
      unfold vH zHV zSV
      go_simp
    · refine HFin.out wa _ zHV zH 1 HA.out (fun X _ => zHV_at X _) zHV_is ?_ (by rw [HP.out]; rfl)
      repeat (first | (with_reducible refine Turns.two ?_ (by first | exact .inl rfl | exact .inr rfl) _) | with_reducible exact Turns.refl _ _)
  | true =>
    cases tW with
    | false =>
      go_enter Try.func29, Try.ntmps29
      go_wp2_with (first
        | (go_at_call 15; refine hC1.mono ?_; rintro e wa ⟨rfl, H1⟩; rw [← HW.out] at H1; have HA := hid H1; have ga := (H1.block w.heap.size (by have := HSz.out; omega)).trans HG0.out; have gb := (H1.block (w.heap.size + 1) (by have := HSz.out; omega)).trans HG1.out; have a0 := cell_heap ga (j := 0) rfl; have b0 := cell_heap gb (j := 0) rfl; have fb0 := fr_heap gb 0; have a1 := cell_heap ga (j := 1) rfl; have b1 := cell_heap gb (j := 1) rfl; have fb1 := fr_heap gb 1; have a2 := cell_heap ga (j := 2) rfl; have b2 := cell_heap gb (j := 2) rfl; have fb2 := fr_heap gb 2; have a3 := cell_heap ga (j := 3) rfl; have b3 := cell_heap gb (j := 3) rfl; have fb3 := fr_heap gb 3; have a4 := cell_heap ga (j := 4) rfl; have b4 := cell_heap gb (j := 4) rfl; have fb4 := fr_heap gb 4; have a5 := cell_heap ga (j := 5) rfl; have b5 := cell_heap gb (j := 5) rfl; have fb5 := fr_heap gb 5; have a6 := cell_heap ga (j := 6) rfl; have b6 := cell_heap gb (j := 6) rfl; have fb6 := fr_heap gb 6; have fa0 := fr_heap ga 0; have HGa := hid ga; have HGb := hid gb; clear ga gb hC1)
        | (go_at_call 44; refine (HC3.out _).mono ?_; rintro e w3 ⟨rfl, hw⟩; subst w3))
      refine bodyPost_ret (v := .tuple #[vH ⟨fe, ⟨pl, si, x1, n1, c1, I, x2, n2, c2, E, x3, n3, c3, U⟩, x, n, c, N⟩, .int .i64 1]) ?_ rfl ?_
      · rw [results_cell2 rfl]
        unfold vH
        go_simp
      · refine HFin.out wa _ ⟨fe, ⟨pl, si, x1, n1, c1, I, x2, n2, c2, E, x3, n3, c3, U⟩, x, n, c, N⟩ _ 1 HA.out (fun X hX => HVV.out.below hX) rfl ?_ (by rw [HP.out]; rfl)
        repeat (first | (with_reducible refine Turns.two ?_ (by first | exact .inl rfl | exact .inr rfl) _) | with_reducible exact Turns.refl _ _)
    | true =>
      by_cases hlt : since < fe
      · go_enter Try.func29, Try.ntmps29
        go_wp2_with (first
          | (go_at_call 15; refine hC1.mono ?_; rintro e wa ⟨rfl, H1⟩; rw [← HW.out] at H1; have HA := hid H1; have ga := (H1.block w.heap.size (by have := HSz.out; omega)).trans HG0.out; have gb := (H1.block (w.heap.size + 1) (by have := HSz.out; omega)).trans HG1.out; have a0 := cell_heap ga (j := 0) rfl; have b0 := cell_heap gb (j := 0) rfl; have fb0 := fr_heap gb 0; have a1 := cell_heap ga (j := 1) rfl; have b1 := cell_heap gb (j := 1) rfl; have fb1 := fr_heap gb 1; have a2 := cell_heap ga (j := 2) rfl; have b2 := cell_heap gb (j := 2) rfl; have fb2 := fr_heap gb 2; have a3 := cell_heap ga (j := 3) rfl; have b3 := cell_heap gb (j := 3) rfl; have fb3 := fr_heap gb 3; have a4 := cell_heap ga (j := 4) rfl; have b4 := cell_heap gb (j := 4) rfl; have fb4 := fr_heap gb 4; have a5 := cell_heap ga (j := 5) rfl; have b5 := cell_heap gb (j := 5) rfl; have fb5 := fr_heap gb 5; have a6 := cell_heap ga (j := 6) rfl; have b6 := cell_heap gb (j := 6) rfl; have fb6 := fr_heap gb 6; have fa0 := fr_heap ga 0; have HGa := hid ga; have HGb := hid gb; clear ga gb hC1)
          | (go_at_call 44; refine (HC3.out _).mono ?_; rintro e w3 ⟨rfl, hw⟩; subst w3))
        refine bodyPost_ret (v := .tuple #[vH ⟨fe, ⟨pl, si, x1, n1, c1, I, x2, n2, c2, E, x3, n3, c3, U⟩, x, n, c, N⟩, .int .i64 7]) ?_ rfl ?_
        · rw [results_cell2 rfl]
          unfold vH
          go_simp
        · refine HFin.out wa _ ⟨fe, ⟨pl, si, x1, n1, c1, I, x2, n2, c2, E, x3, n3, c3, U⟩, x, n, c, N⟩ _ 7 HA.out (fun X hX => HVV.out.below hX) rfl ?_ (by rw [HP.out]; simp [hlt])
          repeat (first | (with_reducible refine Turns.two ?_ (by first | exact .inl rfl | exact .inr rfl) _) | with_reducible exact Turns.refl _ _)
      · have hlt' : ¬ since < fe := hlt
        go_enter Try.func29, Try.ntmps29
        go_upto_region 8 with (first
          | (go_at_call 15; refine hC1.mono ?_; rintro e wa ⟨rfl, H1⟩; rw [← HW.out] at H1; have HA := hid H1; have ga := (H1.block w.heap.size (by have := HSz.out; omega)).trans HG0.out; have gb := (H1.block (w.heap.size + 1) (by have := HSz.out; omega)).trans HG1.out; have a0 := cell_heap ga (j := 0) rfl; have b0 := cell_heap gb (j := 0) rfl; have fb0 := fr_heap gb 0; have a1 := cell_heap ga (j := 1) rfl; have b1 := cell_heap gb (j := 1) rfl; have fb1 := fr_heap gb 1; have a2 := cell_heap ga (j := 2) rfl; have b2 := cell_heap gb (j := 2) rfl; have fb2 := fr_heap gb 2; have a3 := cell_heap ga (j := 3) rfl; have b3 := cell_heap gb (j := 3) rfl; have fb3 := fr_heap gb 3; have a4 := cell_heap ga (j := 4) rfl; have b4 := cell_heap gb (j := 4) rfl; have fb4 := fr_heap gb 4; have a5 := cell_heap ga (j := 5) rfl; have b5 := cell_heap gb (j := 5) rfl; have fb5 := fr_heap gb 5; have a6 := cell_heap ga (j := 6) rfl; have b6 := cell_heap gb (j := 6) rfl; have fb6 := fr_heap gb 6; have fa0 := fr_heap ga 0; have HGa := hid ga; have HGb := hid gb; clear ga gb hC1)
          | (go_at_call 44; refine (HC3.out _).mono ?_; rintro e w3 ⟨rfl, hw⟩; subst w3))
        have hg3 := heap_set HGa.out (j := 0) (.int .i64 since)
        have t3 := Turns.two (q := w.heap.size + 1) (Turns.refl _ wa) (g := w.heap.size) (o := 0) (.inl rfl) (.int .i64 since)
        have hg4 := (put_block (g := w.heap.size) (k := 0) (v := .int .i64 since) (lt_heap HGb.out) (by omega)).trans HGb.out
        have HT2 := hid t3
        generalize wa.setCell ⟨w.heap.size, 0, none⟩ (.int .i64 since) = wT at *
        replace a0 := cell_heap hg3 (j := 0) rfl
        replace b0 := cell_heap hg4 (j := 0) rfl
        replace fb0 := fr_heap hg4 0
        replace a1 := cell_heap hg3 (j := 1) rfl
        replace b1 := cell_heap hg4 (j := 1) rfl
        replace fb1 := fr_heap hg4 1
        replace a2 := cell_heap hg3 (j := 2) rfl
        replace b2 := cell_heap hg4 (j := 2) rfl
        replace fb2 := fr_heap hg4 2
        replace a3 := cell_heap hg3 (j := 3) rfl
        replace b3 := cell_heap hg4 (j := 3) rfl
        replace fb3 := fr_heap hg4 3
        replace a4 := cell_heap hg3 (j := 4) rfl
        replace b4 := cell_heap hg4 (j := 4) rfl
        replace fb4 := fr_heap hg4 4
        replace a5 := cell_heap hg3 (j := 5) rfl
        replace b5 := cell_heap hg4 (j := 5) rfl
        replace fb5 := fr_heap hg4 5
        replace a6 := cell_heap hg3 (j := 6) rfl
        replace b6 := cell_heap hg4 (j := 6) rfl
        replace fb6 := fr_heap hg4 6
        (try simp at a0 a1 a2 a3 a4 a5 a6)
        clear hg3 hg4 t3 fa0
        go_wp2_with fail
        refine bodyPost_ret (v := .tuple #[vH ⟨since, ⟨pl, si, x1, n1, c1, I, x2, n2, c2, E, x3, n3, c3, U⟩, x, n, c, N⟩, .int .i64 0]) ?_ rfl ?_
        · rw [results_cell2 rfl]
          unfold vH
          go_simp
        · refine HFin.out wa _ ⟨since, ⟨pl, si, x1, n1, c1, I, x2, n2, c2, E, x3, n3, c3, U⟩, x, n, c, N⟩ _ 0 HA.out (fun X hX => (HVV.out.below hX).fence since) rfl (HT2.out.trans ?_) (by rw [HP.out]; simp; first | omega | (intro q; omega) | (split; omega; rfl) | skip)
          repeat (first | (with_reducible refine Turns.two ?_ (by first | exact .inl rfl | exact .inr rfl) _) | with_reducible exact Turns.refl _ _)

end Go.Proofs.Ytnfflmndejbepaa.Sh
