/-
  At.
  Conditions: the holder lies in memory.
-/
import Derived.Test.YtnfflmndejbepaaShGet
import Derived.Test.YtnfflmndejbepaaJShSeat
namespace Go.Proofs.Ytnfflmndejbepaa.Sh
set_option linter.unusedSectionVars false
variable [Inhabited DZ]
open Go.RowKit By Fl
set_option linter.unusedVariables false
set_option linter.unusedSimpArgs false
set_option maxRecDepth 100000

/- The shard of an interval, as At tells it. -/
def Ats (w : World) (o : Option Shd) (e : Ending) (w' : World) : Prop := ∃ s, e = .returned (.tuple #[vS s, .bool o.isSome]) ∧ Hid (SAt w' (fun _ => True) s ∧ pS s = o.getD zS ∧ Below w.heap.size w w')

set_option maxHeartbeats 6400000 in
theorem at_any {w : World} {F : Nat → Prop} {v : HV} (since : Int) (h : HAt w F v) : Calls Try.prog 9 #[vH v, .int .i64 since] w fun e w' => Ats w (atH (pH v) since) e w' := by
  obtain ⟨w1, hw1⟩ : ∃ w1, w1 = (w.alloc (.cells (HCells v) 29)).alloc (.cells zBox 26) := ⟨_, rfl⟩
  obtain ⟨bb, hsz, g0, g1⟩ := two_boxes2 w (HCells v) zBox 29 26
  rw [← hw1] at bb hsz g0 g1
  have HB := hid bb
  have HSz := hid hsz
  have HG0 := hid g0
  have HG1 := hid g1
  have HVV := hid h
  have hS := seat_any since (Ss.below h.n bb)
  have HC := hid (fun W (hW : Below w1.heap.size w1 W) (s : SV) (hs : SAt w F s) => copiedShard_any (hs.below (on bb hW)))
  obtain ⟨O, hO⟩ : ∃ O, O = atH (pH v) since := ⟨_, rfl⟩
  have HO0 : Hid (since ≤ 0 → O = none) := hid (fun h0 => by rw [hO]; unfold atH; rw [if_pos h0])
  have HO1 : Hid (¬ since ≤ 0 → v.now.si = since → O = some (pS v.now)) := hid (fun h0 h1 => by rw [hO]; unfold atH; rw [if_neg h0]; unfold atL; rw [if_pos (show (pH v).now.si = since from h1)]; rfl)
  have HO2 : Hid (¬ since ≤ 0 → v.now.si ≠ since → (∀ s ∈ v.N, s.si ≠ since) → O = none) := hid (fun h0 h1 h2 => by
    rw [hO]
    unfold atH
    rw [if_neg h0]
    refine atL_none fun s hs => ?_
    rcases List.mem_cons.1 hs with e | e
    · rw [e]; exact h1
    · obtain ⟨t, ht, rfl⟩ := List.mem_map.1 e
      exact h2 t ht)
  have HO3 : Hid (¬ since ≤ 0 → v.now.si ≠ since → ∀ (k : Nat) (s : SV), v.N[k]? = some s → s.si = since → (∀ (j : Nat) (t : SV), j < k → v.N[j]? = some t → t.si ≠ since) → O = some (pS s)) := hid (fun h0 h1 k s hs hsi hn => by
    rw [hO]
    unfold atH
    rw [if_neg h0]
    unfold atL
    rw [if_neg (show ¬ (pH v).now.si = since from h1)]
    refine atL_some (k := k) (drop_ok hs) hsi fun j t hj ht => ?_
    have ht' : (v.N.map pS)[j]? = some t := ht
    rw [List.getElem?_map] at ht'
    obtain ⟨u, hu, rfl⟩ := Option.map_eq_some_iff.1 ht'
    exact hn j u hj hu)
  rw [← hO]
  clear h bb hsz g0 g1 hO
  obtain ⟨fe, ⟨pl, si, x1, n1, c1, I, x2, n2, c2, E, x3, n3, c3, U⟩, x, n, c, N⟩ := v
  unfold HCells zBox at hw1
  unfold HCells at HG0
  unfold zBox at HG1
  unfold vS at HC
  unfold vH
  dsimp only at *
  have fin : ∀ (wc W : World) (s : SV), SAt wc (fun q => w.heap.size + 2 ≤ q) s → Below w1.heap.size w1 wc → Turns (fun k => k = w.heap.size ∨ k = w.heap.size + 1) wc W → pS s = O.getD zS → ∀ t, t = O.isSome → Ats w O (.returned (.tuple #[vS s, .bool t])) W := fun wc W s h2 h3 t hp b hb => by
    have bw : Below w.heap.size w W := (on HB.out h3).trans (t.below (fun q e => by rcases e with e | e <;> omega) (by have := HSz.out; have := h3.size; omega))
    rw [hb]
    exact ⟨s, rfl, hid ⟨(h2.keeps (.turns t fun q hq e => by rcases e with e | e <;> omega)).weak (fun _ _ => trivial), hp, bw⟩⟩
  have HFin := hid fin
  clear fin
  have p2 : w1.cell? ⟨w.heap.size, 2, none⟩ = some (.int .i64 si) := cell_heap HG0.out rfl
  have HW := hid hw1
  rw [hw1] at p2 hS
  clear hw1
  by_cases h0 : since ≤ 0
  · have HO := hid (HO0.out h0)
    go_enter Try.func9, Try.ntmps9
    go_wp2_with fail
    refine bodyPost_ret (v := .tuple #[vS zSV, .bool false]) ?_ rfl ?_
    · rw [results_cell2 rfl]
      unfold vS zSV
      go_simp
    · refine HFin.out w1 _ zSV (zSV_at w1 _) (Below.refl _ _) ?_ (by rw [HO.out]; rfl) false (by rw [HO.out]; rfl)
      rw [HW.out]
      repeat (first | (with_reducible refine Turns.two ?_ (by first | exact .inl rfl | exact .inr rfl) _) | with_reducible exact Turns.refl _ _)
  have h0' : 0 < since := by omega
  by_cases h1 : si = since
  · have hb : (si == since) = true := by simp [h1]
    have HO := hid (HO1.out h0 h1)
    clear h1
    have HSS := hid (HC.out w1 (Below.refl _ _) ⟨pl, si, x1, n1, c1, I, x2, n2, c2, E, x3, n3, c3, U⟩ HVV.out.s)
    dsimp only at HSS
    rw [HW.out] at HSS
    have a1 := cell_heap HG0.out (j := 1) rfl
    have a2 := cell_heap HG0.out (j := 2) rfl
    have a3 := cell_heap HG0.out (j := 3) rfl
    have a4 := cell_heap HG0.out (j := 4) rfl
    have a5 := cell_heap HG0.out (j := 5) rfl
    rw [HW.out] at a1 a2 a3 a4 a5
    go_enter Try.func9, Try.ntmps9
    go_wp2_with (go_at_call 39; refine HSS.out.mono ?_; rintro e w3 ⟨s', rfl, H3⟩; rw [← HW.out] at H3; have HB3 := hid H3.out.2.2; have gb := (HB3.out.block (w.heap.size + 1) (by have := HSz.out; omega)).trans HG1.out; have b0 := cell_heap gb (j := 0) rfl; have fb0 := fr_heap gb 0; have b1 := cell_heap gb (j := 1) rfl; have fb1 := fr_heap gb 1; have b2 := cell_heap gb (j := 2) rfl; have fb2 := fr_heap gb 2; have b3 := cell_heap gb (j := 3) rfl; have fb3 := fr_heap gb 3; have b4 := cell_heap gb (j := 4) rfl; have fb4 := fr_heap gb 4; obtain ⟨tl, ts, t1, j1, l1, tI, t2, j2, l2, tE, t3, j3, l3, tU⟩ := s'; dsimp only; clear gb)
    refine bodyPost_ret (v := .tuple #[vS ⟨tl, ts, t1, j1, l1, tI, t2, j2, l2, tE, t3, j3, l3, tU⟩, .bool true]) ?_ rfl ?_
    · rw [results_cell2 rfl]
      unfold vS
      go_simp
    · refine HFin.out w3 _ ⟨tl, ts, t1, j1, l1, tI, t2, j2, l2, tE, t3, j3, l3, tU⟩ (SAt.weak H3.out.1.toS fun q hq => by have := hq.1; have := HSz.out; omega) HB3.out ?_ (by rw [HO.out]; exact H3.out.2.1) true (by rw [HO.out]; rfl)
      repeat (first | (with_reducible refine Turns.two ?_ (by first | exact .inl rfl | exact .inr rfl) _) | with_reducible exact Turns.refl _ _)
  · have hb : (si == since) = false := by simp [h1]
    have a6 := cell_heap HG0.out (j := 6) rfl
    rw [HW.out] at a6
    go_enter Try.func9, Try.ntmps9
    go_upto_region 6 with (go_at_call 40; refine hS.mono ?_; rintro e w2 ⟨r, rfl, H2⟩; rw [← HW.out] at H2)
    have bz2 := H2.out.2
    have HB2 := hid bz2
    have ga := (bz2.block w.heap.size (by have := HSz.out; omega)).trans HG0.out
    have gb := (bz2.block (w.heap.size + 1) (by have := HSz.out; omega)).trans HG1.out
    replace a6 := cell_heap ga (j := 6) rfl
    (try dsimp only at a6)
    clear p2 hS bz2
    rcases H2.out.1 with ⟨rfl, hno⟩ | ⟨k, s, rfl, hk, hks, hkn⟩
    · have HO := hid (HO2.out h0 h1 hno)
      have b0 := cell_heap gb (j := 0) rfl
      have fb0 := fr_heap gb 0
      have b1 := cell_heap gb (j := 1) rfl
      have fb1 := fr_heap gb 1
      have b2 := cell_heap gb (j := 2) rfl
      have fb2 := fr_heap gb 2
      have b3 := cell_heap gb (j := 3) rfl
      have fb3 := fr_heap gb 3
      have b4 := cell_heap gb (j := 4) rfl
      have fb4 := fr_heap gb 4
      clear ga gb H2 hno
      go_wp2_with fail
      refine bodyPost_ret (v := .tuple #[vS zSV, .bool false]) ?_ rfl ?_
      · rw [results_cell2 rfl]
        unfold vS zSV
        go_simp
      · refine HFin.out w2 _ zSV (zSV_at w2 _) HB2.out ?_ (by rw [HO.out]; rfl) false (by rw [HO.out]; rfl)
        repeat (first | (with_reducible refine Turns.two ?_ (by first | exact .inl rfl | exact .inr rfl) _) | with_reducible exact Turns.refl _ _)
    · have HO := hid (HO3.out h0 h1 k s hk hks hkn)
      have hkl : k < N.length := (List.getElem?_eq_some_iff.1 hk).1
      have hln := HVV.out.n.len
      have hsm := HVV.out.n.small
      dsimp only at hln hsm
      have hlt : (k : Int) < (n : Int) := by omega
      have hk0 : ¬ ((k : Int) < 0) := by omega
      have hk1 : (0 : Int) ≤ (k : Int) := by omega
      have A1 := hid (HVV.out.n.each s (List.mem_of_getElem? hk))
      have rr := HVV.out.n.row
      dsimp only at rr
      rcases rr with hr0 | ⟨bl, o, rfl, hbl, _, hc⟩
      · omega
      obtain ⟨s0, s1, s2, s3, s4⟩ := s_at hc hk
      have hbw := on HB.out HB2.out
      replace s0 := keep hbw s0
      replace s1 := keep hbw s1
      replace s2 := keep hbw s2
      replace s3 := keep hbw s3
      replace s4 := keep hbw s4
      have HSS := hid (HC.out w2 HB2.out s A1.out)
      clear ga gb H2 hkl hln hc hk hbw hks hkn hbl
      obtain ⟨ql, qs, r1, m1, d1, qI, r2, m2, d2, qE, r3, m3, d3, qU⟩ := s
      dsimp only at s0 s1 s2 s3 s4 HSS
      go_wp2_with (go_at_call 39; refine HSS.out.mono ?_; rintro e w3 ⟨s', rfl, H3⟩; have HB3 := hid (on HB2.out H3.out.2.2); have gb := (HB3.out.block (w.heap.size + 1) (by have := HSz.out; omega)).trans HG1.out; have b0 := cell_heap gb (j := 0) rfl; have fb0 := fr_heap gb 0; have b1 := cell_heap gb (j := 1) rfl; have fb1 := fr_heap gb 1; have b2 := cell_heap gb (j := 2) rfl; have fb2 := fr_heap gb 2; have b3 := cell_heap gb (j := 3) rfl; have fb3 := fr_heap gb 3; have b4 := cell_heap gb (j := 4) rfl; have fb4 := fr_heap gb 4; obtain ⟨tl, ts, t1, j1, l1, tI, t2, j2, l2, tE, t3, j3, l3, tU⟩ := s'; dsimp only; clear gb)
      refine bodyPost_ret (v := .tuple #[vS ⟨tl, ts, t1, j1, l1, tI, t2, j2, l2, tE, t3, j3, l3, tU⟩, .bool true]) ?_ rfl ?_
      · rw [results_cell2 rfl]
        unfold vS
        go_simp
      · refine HFin.out w3 _ ⟨tl, ts, t1, j1, l1, tI, t2, j2, l2, tE, t3, j3, l3, tU⟩ (SAt.weak H3.out.1.toS fun q hq => by have := hq.1; have := HSz.out; have := HB2.out.size; omega) HB3.out ?_ (by rw [HO.out]; exact H3.out.2.1) true (by rw [HO.out]; rfl)
        repeat (first | (with_reducible refine Turns.two ?_ (by first | exact .inl rfl | exact .inr rfl) _) | with_reducible exact Turns.refl _ _)

end Go.Proofs.Ytnfflmndejbepaa.Sh
