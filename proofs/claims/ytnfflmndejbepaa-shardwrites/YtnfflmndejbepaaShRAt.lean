/-
  The document's At.
  Conditions: the holder lies in memory.
-/
import Derived.Test.YtnfflmndejbepaaShAt
namespace Go.Proofs.Ytnfflmndejbepaa.Sh
set_option linter.unusedSectionVars false
variable [Inhabited DZ]
open Go.RowKit By Fl
set_option linter.unusedVariables false
set_option linter.unusedSimpArgs false
set_option maxRecDepth 100000

/- The shard of an interval, as the document's At tells it. -/
def RAts (w : World) (F : Nat → Prop) (o : Option Shd) (e : Ending) (w' : World) : Prop := ∃ s, e = .returned (.tuple #[vS s, .bool o.isSome]) ∧ Hid (SAt w' F s ∧ pS s = o.getD zS ∧ Below w.heap.size w w')

set_option maxHeartbeats 6400000 in
theorem rat_any {w : World} {F : Nat → Prop} {v : HV} (since : Int) (h : HAt w F v) : Calls Try.prog 10 #[vH v, .int .i64 since] w fun e w' => RAts w F (atH (pH v) since) e w' := by
  obtain ⟨w1, hw1⟩ : ∃ w1, w1 = (w.alloc (.cells (HCells v) 29)).alloc (.cells zBox 26) := ⟨_, rfl⟩
  obtain ⟨bb, hsz, g0, g1⟩ := two_boxes2 w (HCells v) zBox 29 26
  rw [← hw1] at bb hsz g0 g1
  have HB := hid bb
  have HSz := hid hsz
  have HG0 := hid g0
  have HG1 := hid g1
  have HVV := hid h
  have HA := hid h.n
  have hsm := h.n.small
  have HL := hid h.n.len
  obtain ⟨O, hO⟩ : ∃ O, O = atH (pH v) since := ⟨_, rfl⟩
  have HO0 : Hid (since ≤ 0 → O = none) := hid (fun h0 => by rw [hO]; unfold atH; rw [if_pos h0])
  have HO1 : Hid (¬ since ≤ 0 → v.now.si = since → O = some (pS v.now)) := hid (fun h0 h1 => by rw [hO]; unfold atH; rw [if_neg h0]; unfold atL; rw [if_pos (show (pH v).now.si = since from h1)]; rfl)
  have HO2 : Hid (¬ since ≤ 0 → v.now.si ≠ since → (∀ s ∈ v.N, s.si ≠ since) → O = none) := hid (fun h0 h1 h2 => by
    rw [hO]
    unfold atH
    rw [if_neg h0]
    refine atL_none fun s hs => ?_
    rcases List.mem_cons.1 hs with e | e
    · rw [e]; exact h1
    · obtain ⟨t, ht, rfl⟩ := List.mem_map.1 e
      exact h2 t ht)
  have HO3 : Hid (¬ since ≤ 0 → v.now.si ≠ since → ∀ (k : Nat) (s : SV), v.N[k]? = some s → s.si = since → (∀ (j : Nat) (t : SV), j < k → v.N[j]? = some t → t.si ≠ since) → O = some (pS s)) := hid (fun h0 h1 k s hs hsi hn => by
    rw [hO]
    unfold atH
    rw [if_neg h0]
    unfold atL
    rw [if_neg (show ¬ (pH v).now.si = since from h1)]
    refine atL_some (k := k) (drop_ok hs) hsi fun j t hj ht => ?_
    have ht' : (v.N.map pS)[j]? = some t := ht
    rw [List.getElem?_map] at ht'
    obtain ⟨u, hu, rfl⟩ := Option.map_eq_some_iff.1 ht'
    exact hn j u hj hu)
  rw [← hO]
  clear h bb hsz g0 g1 hO
  obtain ⟨fe, ⟨pl, si, x1, n1, c1, I, x2, n2, c2, E, x3, n3, c3, U⟩, x, n, c, N⟩ := v
  unfold HCells zBox at hw1
  unfold HCells at HG0
  unfold zBox at HG1
  unfold vH
  dsimp only at *
  have fin : ∀ (wc W : World) (s : SV), SAt w F s → Below w1.heap.size w1 wc → Turns (fun k => k = w.heap.size ∨ k = w.heap.size + 1) wc W → pS s = O.getD zS → ∀ t, t = O.isSome → RAts w F O (.returned (.tuple #[vS s, .bool t])) W := fun wc W s h2 h3 t hp b hb => by
    have bw : Below w.heap.size w W := (on HB.out h3).trans (t.below (fun q e => by rcases e with e | e <;> omega) (by have := HSz.out; have := h3.size; omega))
    rw [hb]
    exact ⟨s, rfl, hid ⟨h2.below bw, hp, bw⟩⟩
  have HFin := hid fin
  clear fin
  have HW := hid hw1
  have a1 := cell_heap HG0.out (j := 1) rfl
  have a2 := cell_heap HG0.out (j := 2) rfl
  have a3 := cell_heap HG0.out (j := 3) rfl
  have a4 := cell_heap HG0.out (j := 4) rfl
  have a5 := cell_heap HG0.out (j := 5) rfl
  have a6 := cell_heap HG0.out (j := 6) rfl
  have HP6 := hid a6
  rw [hw1] at a1 a2 a3 a4 a5 a6
  clear hw1
  by_cases h0 : since ≤ 0
  · have HO := hid (HO0.out h0)
    have h0' : ¬ 0 < since := by omega
    go_enter Try.func10, Try.ntmps10
    go_wp2_with fail
    rw [← HW.out] at *
    clear a1 a2 a3 a4 a5
    go_loopw [6] (fun i wr => i = .int .i64 0 ∧ wr = w1) (fun i _ => 0)
    case atStart => exact ⟨rfl, rfl⟩
    case round =>
      obtain ⟨rfl, hwr⟩ := hrel
      subst hwr
      by_cases hn : n = 0
      · subst hn
        have gb := HG1.out
        have b0 := cell_heap gb (j := 0) rfl
        have fb0 := fr_heap gb 0
        have b1 := cell_heap gb (j := 1) rfl
        have fb1 := fr_heap gb 1
        have b2 := cell_heap gb (j := 2) rfl
        have fb2 := fr_heap gb 2
        have b3 := cell_heap gb (j := 3) rfl
        have fb3 := fr_heap gb 3
        have b4 := cell_heap gb (j := 4) rfl
        have fb4 := fr_heap gb 4
        clear gb
        go_wp2_with fail
        refine bodyPost_ret (v := .tuple #[vS zSV, .bool false]) ?_ rfl ?_
        · rw [results_cell2 rfl]
          unfold vS zSV
          go_simp
        · refine HFin.out wr _ zSV (zSV_at w _) (Below.refl _ _) ?_ (by rw [HO.out]; rfl) false (by rw [HO.out]; rfl)
          repeat (first | (with_reducible refine Turns.two ?_ (by first | exact .inl rfl | exact .inr rfl) _) | with_reducible exact Turns.refl _ _)
      · have hn0 : 0 < n := by omega
        have hn1 : (0 : Int) < (n : Int) := by omega
        have gb := HG1.out
        have b0 := cell_heap gb (j := 0) rfl
        have fb0 := fr_heap gb 0
        have b1 := cell_heap gb (j := 1) rfl
        have fb1 := fr_heap gb 1
        have b2 := cell_heap gb (j := 2) rfl
        have fb2 := fr_heap gb 2
        have b3 := cell_heap gb (j := 3) rfl
        have fb3 := fr_heap gb 3
        have b4 := cell_heap gb (j := 4) rfl
        have fb4 := fr_heap gb 4
        clear gb
        go_wp2_with fail
        refine bodyPost_ret (v := .tuple #[vS zSV, .bool false]) ?_ rfl ?_
        · rw [results_cell2 rfl]
          unfold vS zSV
          go_simp
        · refine HFin.out wr _ zSV (zSV_at w _) (Below.refl _ _) ?_ (by rw [HO.out]; rfl) false (by rw [HO.out]; rfl)
          repeat (first | (with_reducible refine Turns.two ?_ (by first | exact .inl rfl | exact .inr rfl) _) | with_reducible exact Turns.refl _ _)
  have h0' : 0 < since := by omega
  by_cases h1 : si = since
  · have hb : (si == since) = true := by simp [h1]
    have HO := hid (HO1.out h0 h1)
    clear h1
    go_enter Try.func10, Try.ntmps10
    go_wp2_with fail
    refine bodyPost_ret (v := .tuple #[vS ⟨pl, si, x1, n1, c1, I, x2, n2, c2, E, x3, n3, c3, U⟩, .bool true]) ?_ rfl ?_
    · rw [results_cell2 rfl]
      unfold vS
      go_simp
    · rw [HO.out]
      exact ⟨⟨pl, si, x1, n1, c1, I, x2, n2, c2, E, x3, n3, c3, U⟩, rfl, hid ⟨HVV.out.s.below (on (al _ _) (al _ _)), rfl, on (al _ _) (al _ _)⟩⟩
  · have hb : (si == since) = false := by simp [h1]
    have H1 := hid h1
    clear h1
    go_enter Try.func10, Try.ntmps10
    go_wp2_with fail
    rw [← HW.out]
    clear a1 a2 a3 a4 a5 a6
    go_loopw [6] (fun i wr => ∃ k : Nat, k ≤ n ∧ i = .int .i64 k ∧ Hid (Below w1.heap.size w1 wr ∧ ∀ (j : Nat) (z : SV), j < k → N[j]? = some z → z.si ≠ since)) (fun i _ => n - (intOf i).toNat)
    case atStart => exact ⟨0, by omega, rfl, Below.refl _ _, fun j z hj => by omega⟩
    case round =>
      obtain ⟨k, hk, rfl, HR⟩ := hrel
      have pa := keep HR.out.1 HP6.out
      (try dsimp only at pa)
      by_cases hlt : k < n
      · have hkn : (k : Int) < (n : Int) := by omega
        obtain ⟨a, ha, hm⟩ := Lis.some HA.out hlt
        have A1 := hid (HA.out.each a hm)
        rcases HA.out.row with hr0 | ⟨bl, o, rfl, hbl, _, hc⟩
        · omega
        obtain ⟨k0, k1, k2, k3, k4⟩ := s_at hc ha
        have hbw := on HB.out HR.out.1
        replace k0 := keep hbw k0
        replace k1 := keep hbw k1
        replace k2 := keep hbw k2
        replace k3 := keep hbw k3
        replace k4 := keep hbw k4
        obtain ⟨t, ht⟩ : ∃ t, (a.si == since) = t := ⟨_, rfl⟩
        have HT : Hid (t = true ↔ a.si = since) := hid (by rw [← ht]; simp)
        have HM := hid ha
        clear hc ha hm hbl hbw
        obtain ⟨ql, qs, r1, m1, d1, qI, r2, m2, d2, qE, r3, m3, d3, qU⟩ := a
        dsimp only at k0 k1 k2 k3 k4 ht
        cases t with
        | false =>
          go_wp2_with fail
          go_roundw
          case rel =>
            refine ⟨k + 1, by omega, by go_num, HR.out.1, fun j z hj hz => ?_⟩
            by_cases e : j = k
            · subst e
              have := Option.some.inj (HM.out.symm.trans hz)
              rw [← this]
              exact fun q => by have := HT.out.2 q; cases this
            · exact HR.out.2 j z (by omega) hz
          case measure => simp [intOf]; omega
        | true =>
          have HO := hid (HO3.out h0 H1.out k _ HM.out (HT.out.1 rfl) HR.out.2)
          have gb := (HR.out.1.block (w.heap.size + 1) (by have := HSz.out; omega)).trans HG1.out
          have b0 := cell_heap gb (j := 0) rfl
          have fb0 := fr_heap gb 0
          have b1 := cell_heap gb (j := 1) rfl
          have fb1 := fr_heap gb 1
          have b2 := cell_heap gb (j := 2) rfl
          have fb2 := fr_heap gb 2
          have b3 := cell_heap gb (j := 3) rfl
          have fb3 := fr_heap gb 3
          have b4 := cell_heap gb (j := 4) rfl
          have fb4 := fr_heap gb 4
          clear gb
          go_wp2_with fail
          refine bodyPost_ret (v := .tuple #[vS ⟨ql, qs, r1, m1, d1, qI, r2, m2, d2, qE, r3, m3, d3, qU⟩, .bool true]) ?_ rfl ?_
          · rw [results_cell2 rfl]
            unfold vS
            go_simp
          · refine HFin.out wr _ ⟨ql, qs, r1, m1, d1, qI, r2, m2, d2, qE, r3, m3, d3, qU⟩ A1.out HR.out.1 ?_ (by rw [HO.out]; rfl) true (by rw [HO.out]; rfl)
            repeat (first | (with_reducible refine Turns.two ?_ (by first | exact .inl rfl | exact .inr rfl) _) | with_reducible exact Turns.refl _ _)
      · have hk2 : n = k := by omega
        subst hk2
        have HO := hid (HO2.out h0 H1.out fun s hs => by
          obtain ⟨j, hj⟩ := List.mem_iff_getElem?.1 hs
          exact HR.out.2 j s (by have := (List.getElem?_eq_some_iff.1 hj).1; have := HL.out; omega) hj)
        have gb := (HR.out.1.block (w.heap.size + 1) (by have := HSz.out; omega)).trans HG1.out
        have b0 := cell_heap gb (j := 0) rfl
        have fb0 := fr_heap gb 0
        have b1 := cell_heap gb (j := 1) rfl
        have fb1 := fr_heap gb 1
        have b2 := cell_heap gb (j := 2) rfl
        have fb2 := fr_heap gb 2
        have b3 := cell_heap gb (j := 3) rfl
        have fb3 := fr_heap gb 3
        have b4 := cell_heap gb (j := 4) rfl
        have fb4 := fr_heap gb 4
        clear gb
        go_wp2_with fail
        refine bodyPost_ret (v := .tuple #[vS zSV, .bool false]) ?_ rfl ?_
        · rw [results_cell2 rfl]
          unfold vS zSV
          go_simp
        · refine HFin.out wr _ zSV (zSV_at w _) HR.out.1 ?_ (by rw [HO.out]; rfl) false (by rw [HO.out]; rfl)
          repeat (first | (with_reducible refine Turns.two ?_ (by first | exact .inl rfl | exact .inr rfl) _) | with_reducible exact Turns.refl _ _)

end Go.Proofs.Ytnfflmndejbepaa.Sh
