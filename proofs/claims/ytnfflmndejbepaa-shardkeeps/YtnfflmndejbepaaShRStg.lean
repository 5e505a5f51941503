/-
  The document's Stage.
  Conditions: the holder and the shard lie in memory.
-/
import Derived.Test.YtnfflmndejbepaaJShStgP
import Derived.Test.YtnfflmndejbepaaJShFil
namespace Go.Proofs.Ytnfflmndejbepaa.Sh
set_option linter.unusedSectionVars false
variable [Inhabited DZ]
open Go.RowKit By Fl
set_option linter.unusedVariables false
set_option linter.unusedSimpArgs false
set_option maxRecDepth 100000

set_option maxHeartbeats 12800000 in
theorem rstage_any {w : World} {F G : Nat → Prop} {v : HV} {s : SV} (h : HAt w F v) (hs : SAt w G s) :
    Calls Try.prog 31 #[vH v, vS s] w fun r w' => RTells w (fun q => F q ∨ G q) (stageP (pH v) (pS s)).1 (stageP (pH v) (pS s)).2 r w' := by
  obtain ⟨w1, hw1, bb, hsz, g0, g1, g2⟩ := three_boxes w #[.int .i64 v.fe, .int .i64 v.now.pl, .int .i64 v.now.si, .slice v.now.x1 v.now.n1 v.now.c1, .slice v.now.x2 v.now.n2 v.now.c2, .slice v.now.x3 v.now.n3 v.now.c3, .slice v.x v.n v.c] #[.int .i64 s.pl, .int .i64 s.si, .slice s.x1 s.n1 s.c1, .slice s.x2 s.n2 s.c2, .slice s.x3 s.n3 s.c3] #[.int .i64 0, .int .i64 0, .int .i64 0, .slice none 0 0, .slice none 0 0, .slice none 0 0, .slice none 0 0] 29 26 29
  have hC1 := rmay_any (h.below bb)
  have HCs := hid (fun W (hW : Below w.heap.size w W) => rshard_any (hs.below hW))
  obtain ⟨tK, htK⟩ : ∃ t, t = bz (okH (pH v)) := ⟨_, rfl⟩
  obtain ⟨tS, htS⟩ : ∃ t, t = bz (okS (pS s)) := ⟨_, rfl⟩
  have HW1 : Hid (tK = false → stageP (pH v) (pS s) = (zH, 1)) := hid fun k => by unfold stageP; rw [← htK, k]; rfl
  have HW2 : Hid (tK = true → (s.si = 0 ∨ tS = false) → stageP (pH v) (pS s) = (pH v, 1)) := hid fun k q => by
    unfold stageP
    rw [← htK, k, bz_false (p := (pS s).si ≠ 0 ∧ okS (pS s)) (fun hh => by
      rcases q with q | q
      · exact hh.1 q
      · rw [htS] at q; exact bz_not q hh.2)]
    rfl
  have HW3 : Hid (tK = true → s.si ≠ 0 → tS = true → (s.si < v.fe ∨ s.si ≤ v.now.si) → stageP (pH v) (pS s) = (pH v, 7)) := hid fun k q1 q2 q3 => by
    unfold stageP
    rw [← htK, k, bz_true (p := (pS s).si ≠ 0 ∧ okS (pS s)) ⟨q1, bz_of (by rw [← htS]; exact q2)⟩]
    simp only [if_true]
    rw [if_pos (show (pS s).si < (pH v).fe ∨ (pS s).si ≤ (pH v).now.si from q3)]
  have HW4 : Hid (tK = true → s.si ≠ 0 → tS = true → ¬ (s.si < v.fe ∨ s.si ≤ v.now.si) → stageP (pH v) (pS s) = if ((v.N.filter fun x => decide (x.si < s.si)).length < 64) then (⟨s.si, pS v.now, (v.N.filter fun x => decide (x.si < s.si)).map pS ++ [pS s]⟩, 0) else (pH v, 2)) := hid fun k q1 q2 q3 => by
    unfold stageP
    rw [← htK, k, bz_true (p := (pS s).si ≠ 0 ∧ okS (pS s)) ⟨q1, bz_of (by rw [← htS]; exact q2)⟩]
    simp only [if_true]
    rw [if_neg (show ¬ ((pS s).si < (pH v).fe ∨ (pS s).si ≤ (pH v).now.si) from q3)]
    have ef : ((pH v).nx.filter fun x => decide (x.si < (pS s).si)) = (v.N.filter fun x => decide (x.si < s.si)).map pS := by
      show ((v.N.map pS).filter fun x => decide (x.si < (pS s).si)) = _
      rw [List.filter_map]
      rfl
    unfold stageL
    rw [ef, List.length_map]
    rfl
  rw [← htK] at hC1
  rw [← htS] at HCs
  have HOkN : Hid (tK = true → v.n ≤ 64) := hid fun k => by
    have hok : okH (pH v) := bz_of (by rw [← htK]; exact k)
    have h64 : (v.N.map pS).length ≤ 64 := hok.2.2.2.1
    rw [List.length_map, h.n.len] at h64
    exact h64
  generalize stageP (pH v) (pS s) = PP at *
  have HB := hid bb
  have HSz := hid hsz
  have HHv := hid (And.intro h hs)
  have HKs : Hid (∀ W, Below w1.heap.size w1 W → W.cell? ⟨w.heap.size + 1, 0, none⟩ = some (.int .i64 s.pl) ∧ W.cell? ⟨w.heap.size + 1, 1, none⟩ = some (.int .i64 s.si) ∧ W.cell? ⟨w.heap.size + 1, 2, none⟩ = some (.slice s.x1 s.n1 s.c1) ∧ W.cell? ⟨w.heap.size + 1, 3, none⟩ = some (.slice s.x2 s.n2 s.c2) ∧ W.cell? ⟨w.heap.size + 1, 4, none⟩ = some (.slice s.x3 s.n3 s.c3)) := hid fun W hW => ⟨keep hW (cell_heap g1 rfl), keep hW (cell_heap g1 rfl), keep hW (cell_heap g1 rfl), keep hW (cell_heap g1 rfl), keep hW (cell_heap g1 rfl)⟩
  have HKa : Hid (∀ W, Below w1.heap.size w1 W → W.cell? ⟨w.heap.size, 0, none⟩ = some (.int .i64 v.fe) ∧ W.cell? ⟨w.heap.size, 1, none⟩ = some (.int .i64 v.now.pl) ∧ W.cell? ⟨w.heap.size, 2, none⟩ = some (.int .i64 v.now.si) ∧ W.cell? ⟨w.heap.size, 3, none⟩ = some (.slice v.now.x1 v.now.n1 v.now.c1) ∧ W.cell? ⟨w.heap.size, 4, none⟩ = some (.slice v.now.x2 v.now.n2 v.now.c2) ∧ W.cell? ⟨w.heap.size, 5, none⟩ = some (.slice v.now.x3 v.now.n3 v.now.c3) ∧ W.cell? ⟨w.heap.size, 6, none⟩ = some (.slice v.x v.n v.c)) := hid fun W hW => ⟨keep hW (cell_heap g0 rfl), keep hW (cell_heap g0 rfl), keep hW (cell_heap g0 rfl), keep hW (cell_heap g0 rfl), keep hW (cell_heap g0 rfl), keep hW (cell_heap g0 rfl), keep hW (cell_heap g0 rfl)⟩
  have HKr : Hid (∀ W, Below w1.heap.size w1 W → W.heap[w.heap.size + 2]? = some (.cells #[.int .i64 0, .int .i64 0, .int .i64 0, .slice none 0 0, .slice none 0 0, .slice none 0 0, .slice none 0 0] 29 (0, 0))) := hid fun W hW => (hW.block _ (by omega)).trans g2
  clear h hs bb hsz g0 g1 g2 htK htS
  unfold vH at hC1 ⊢
  unfold vS at HCs ⊢
  have HW := hid hw1
  obtain ⟨a0, a1, a2, a3, a4, a5, a6⟩ := HKa.out w1 (Below.refl _ _)
  rw [hw1] at hC1 a0 a1 a2 a3 a4 a5 a6
  clear hw1
  have fin : ∀ (wc W : World) (u : HV) (z : Int), Below w1.heap.size w1 wc → HAt w F u → Turns (fun k => k = w.heap.size + 2) wc W → PP = (pH u, z) → RTells w (fun q => F q ∨ G q) PP.1 PP.2 (.returned (.tuple #[vH u, .int .i64 z])) W := fun wc W u z hb hu t hpp => by
    have b := on HB.out hb
    have bw : Below w.heap.size w W := b.trans (t.below (fun q e => by omega) b.size)
    rw [hpp]
    exact ⟨u, rfl, hid ⟨(hu.below bw).weak fun q hq => .inl (.inl hq), rfl, bw⟩⟩
  have HFin := hid fin
  clear fin
  cases tK with
  | false =>
    have HPP := hid (HW1.out rfl)
    go_enter Try.func31, Try.ntmps31
    go_wp2_with (go_at_call 15; refine hC1.mono ?_; rintro r wa ⟨rfl, H1⟩; rw [← HW.out] at H1; have HBa := hid H1; have gr := HKr.out wa H1; have b0 := cell_heap gr (j := 0) rfl; have fb0 := fr_heap gr 0; have b1 := cell_heap gr (j := 1) rfl; have fb1 := fr_heap gr 1; have b2 := cell_heap gr (j := 2) rfl; have fb2 := fr_heap gr 2; have b3 := cell_heap gr (j := 3) rfl; have fb3 := fr_heap gr 3; have b4 := cell_heap gr (j := 4) rfl; have fb4 := fr_heap gr 4; have b5 := cell_heap gr (j := 5) rfl; have fb5 := fr_heap gr 5; have b6 := cell_heap gr (j := 6) rfl; have fb6 := fr_heap gr 6; clear gr; clear H1 hC1 a0 a1 a2 a3 a4 a5 a6)
    refine bodyPost_ret (v := .tuple #[vH zHV, .int .i64 1]) ?_ rfl ?_
    · rw [results_cell2 rfl]
      unfold vH zHV zSV
      go_simp
    · refine HFin.out wa _ zHV 1 HBa.out (zHV_at w F) ?_ (HPP.out)
      repeat (first | with_reducible exact Turns.refl _ _ | with_reducible refine turns_put ?_ _ _)
  | true =>
  replace HW2 := hid (HW2.out rfl)
  replace HW3 := hid (HW3.out rfl)
  replace HW4 := hid (HW4.out rfl)
  replace HOkN := hid (HOkN.out rfl)
  clear HW1
  go_enter Try.func31, Try.ntmps31
  go_upto_region 3 with (go_at_call 15; refine hC1.mono ?_; rintro r wa ⟨rfl, H1⟩; rw [← HW.out] at H1; have HBa := hid H1; clear H1 hC1 a0 a1 a2 a3 a4 a5 a6)
  obtain ⟨e0, e1, e2, e3, e4⟩ := HKs.out wa HBa.out
  cases tS with
  | false =>
    have HPP := hid (HW2.out (.inr rfl))
    go_upto_region 4 with (go_at_call 17; refine (HCs.out _ (on HB.out HBa.out)).mono ?_; rintro r wb ⟨rfl, H2⟩; have HBb := hid (on HBa.out H2); clear H2 e0 e1 e2 e3 e4)
    obtain ⟨a0, a1, a2, a3, a4, a5, a6⟩ := HKa.out wb HBb.out
    have gr := HKr.out wb HBb.out
    have b0 := cell_heap gr (j := 0) rfl
    have fb0 := fr_heap gr 0
    have b1 := cell_heap gr (j := 1) rfl
    have fb1 := fr_heap gr 1
    have b2 := cell_heap gr (j := 2) rfl
    have fb2 := fr_heap gr 2
    have b3 := cell_heap gr (j := 3) rfl
    have fb3 := fr_heap gr 3
    have b4 := cell_heap gr (j := 4) rfl
    have fb4 := fr_heap gr 4
    have b5 := cell_heap gr (j := 5) rfl
    have fb5 := fr_heap gr 5
    have b6 := cell_heap gr (j := 6) rfl
    have fb6 := fr_heap gr 6
    clear gr
    go_wp2_with fail
    refine bodyPost_ret (v := .tuple #[vH v, .int .i64 1]) ?_ rfl ?_
    · rw [results_cell2 rfl]
      unfold vH
      go_simp
    · refine HFin.out wb _ v 1 HBb.out HHv.out.1 ?_ (HPP.out)
      repeat (first | with_reducible exact Turns.refl _ _ | with_reducible refine turns_put ?_ _ _)
  | true =>
  by_cases hz : s.si = 0
  · have hzb : (s.si == 0) = true := by simp [hz]
    have HPP := hid (HW2.out (.inl hz))
    clear hz
    go_upto_region 4 with (go_at_call 17; refine (HCs.out _ (on HB.out HBa.out)).mono ?_; rintro r wb ⟨rfl, H2⟩; have HBb := hid (on HBa.out H2); clear H2 e0 e1 e2 e3 e4; obtain ⟨e0, e1, e2, e3, e4⟩ := HKs.out wb HBb.out)
    obtain ⟨a0, a1, a2, a3, a4, a5, a6⟩ := HKa.out wb HBb.out
    have gr := HKr.out wb HBb.out
    have b0 := cell_heap gr (j := 0) rfl
    have fb0 := fr_heap gr 0
    have b1 := cell_heap gr (j := 1) rfl
    have fb1 := fr_heap gr 1
    have b2 := cell_heap gr (j := 2) rfl
    have fb2 := fr_heap gr 2
    have b3 := cell_heap gr (j := 3) rfl
    have fb3 := fr_heap gr 3
    have b4 := cell_heap gr (j := 4) rfl
    have fb4 := fr_heap gr 4
    have b5 := cell_heap gr (j := 5) rfl
    have fb5 := fr_heap gr 5
    have b6 := cell_heap gr (j := 6) rfl
    have fb6 := fr_heap gr 6
    clear gr
    go_wp2_with fail
    refine bodyPost_ret (v := .tuple #[vH v, .int .i64 1]) ?_ rfl ?_
    · rw [results_cell2 rfl]
      unfold vH
      go_simp
    · refine HFin.out wb _ v 1 HBb.out HHv.out.1 ?_ (HPP.out)
      repeat (first | with_reducible exact Turns.refl _ _ | with_reducible refine turns_put ?_ _ _)
  have hzb : (s.si == 0) = false := by simp [hz]
  replace HW3 := hid (HW3.out hz rfl)
  replace HW4 := hid (HW4.out hz rfl)
  clear hz HW2
  go_upto_region 5 with (go_at_call 17; refine (HCs.out _ (on HB.out HBa.out)).mono ?_; rintro r wb ⟨rfl, H2⟩; have HBb := hid (on HBa.out H2); clear H2 e0 e1 e2 e3 e4; obtain ⟨e0, e1, e2, e3, e4⟩ := HKs.out wb HBb.out)
  obtain ⟨a0, a1, a2, a3, a4, a5, a6⟩ := HKa.out wb HBb.out
  by_cases hlt : s.si < v.fe
  · have HPP := hid (HW3.out (.inl hlt))
    have gr := HKr.out wb HBb.out
    have b0 := cell_heap gr (j := 0) rfl
    have fb0 := fr_heap gr 0
    have b1 := cell_heap gr (j := 1) rfl
    have fb1 := fr_heap gr 1
    have b2 := cell_heap gr (j := 2) rfl
    have fb2 := fr_heap gr 2
    have b3 := cell_heap gr (j := 3) rfl
    have fb3 := fr_heap gr 3
    have b4 := cell_heap gr (j := 4) rfl
    have fb4 := fr_heap gr 4
    have b5 := cell_heap gr (j := 5) rfl
    have fb5 := fr_heap gr 5
    have b6 := cell_heap gr (j := 6) rfl
    have fb6 := fr_heap gr 6
    clear gr
    go_wp2_with fail
    refine bodyPost_ret (v := .tuple #[vH v, .int .i64 7]) ?_ rfl ?_
    · rw [results_cell2 rfl]
      unfold vH
      go_simp
    · refine HFin.out wb _ v 7 HBb.out HHv.out.1 ?_ (HPP.out)
      repeat (first | with_reducible exact Turns.refl _ _ | with_reducible refine turns_put ?_ _ _)
  by_cases hle : s.si ≤ v.now.si
  · have HPP := hid (HW3.out (.inr hle))
    have gr := HKr.out wb HBb.out
    have b0 := cell_heap gr (j := 0) rfl
    have fb0 := fr_heap gr 0
    have b1 := cell_heap gr (j := 1) rfl
    have fb1 := fr_heap gr 1
    have b2 := cell_heap gr (j := 2) rfl
    have fb2 := fr_heap gr 2
    have b3 := cell_heap gr (j := 3) rfl
    have fb3 := fr_heap gr 3
    have b4 := cell_heap gr (j := 4) rfl
    have fb4 := fr_heap gr 4
    have b5 := cell_heap gr (j := 5) rfl
    have fb5 := fr_heap gr 5
    have b6 := cell_heap gr (j := 6) rfl
    have fb6 := fr_heap gr 6
    clear gr
    go_wp2_with fail
    refine bodyPost_ret (v := .tuple #[vH v, .int .i64 7]) ?_ rfl ?_
    · rw [results_cell2 rfl]
      unfold vH
      go_simp
    · refine HFin.out wb _ v 7 HBb.out HHv.out.1 ?_ (HPP.out)
      repeat (first | with_reducible exact Turns.refl _ _ | with_reducible refine turns_put ?_ _ _)
  replace HW4 := hid (HW4.out fun h => h.elim hlt hle)
  go_upto_region 7 with (fail)
  clear hlt hle HW3 hzb e0 e1 e2 e3 e4 a0 a1 a2 a3 a4 a5 a6
  obtain ⟨w3, hw3⟩ : ∃ w3, w3 = wb.alloc (.cells #[] 26) := ⟨_, rfl⟩
  have b3 : Below wb.heap.size wb w3 := by rw [hw3]; exact al _ _
  have HO3 : Hid (FilSt 26 5 enS wb.heap.size w3 v.N (fun x => decide (x.si < s.si)) 0 (.slice (some ⟨wb.heap.size, 0, none⟩) 0 0)) := hid (by
    rw [hw3]
    exact Own.empty wb (Nat.le_refl _) _ _ _)
  have HB3 := hid (on HBb.out b3)
  have hn : v.N.length = v.n := HHv.out.1.n.len
  have hnm : v.n ≤ 100000000 := HHv.out.1.n.small
  have h64 : v.n < 99999990 := by have := HOkN.out; omega
  have HN := hid hn
  have HG := hid HBb.out.size
  have HS3 := hid b3.size
  go_upto_region 8 with (fail)
  rw [← hw3]
  clear b3 hw3 hn
  go_wp2_with fail
  go_loopw [6, 7] (fun r i wr => ∃ k : Nat, k ≤ v.n ∧ i = .int .i64 k ∧ (∃ y m cy, r = .slice y m cy) ∧ Hid (FilSt 26 5 enS wb.heap.size wr v.N (fun x => decide (x.si < s.si)) k r ∧ Below w1.heap.size w1 wr ∧ wb.heap.size ≤ wr.heap.size)) (fun _ i _ => v.n - (intOf i).toNat)
  case atStart => exact ⟨0, Nat.zero_le _, rfl, ⟨_, _, _, rfl⟩, HO3.out, HB3.out, HS3.out⟩
  case round =>
    clear HO3 HB3 HS3
    obtain ⟨k, hk, rfl, ⟨y, m, cy, rfl⟩, HR⟩ := hrel
    have hbr := HR.out.2.1
    have a6 := (HKa.out wr hbr).2.2.2.2.2.2
    have e1 := (HKs.out wr hbr).2.1
    by_cases hlt : k < v.n
    · have hkn : (k : Int) < (v.n : Int) := by omega
      obtain ⟨x, hLx, hmx⟩ := Lis.some HHv.out.1.n hlt
      rcases HHv.out.1.n.row with h0 | ⟨b, o, hx, hbl, hF, hcell⟩
      · omega
      obtain ⟨r0, r1, r2, r3, r4⟩ := s_at hcell hLx
      have hbw := on HB.out hbr
      have HK : Hid (∀ W, Below wr.heap.size wr W → W.cell? ⟨b, o + k * 5, none⟩ = some (.int .i64 x.pl) ∧ W.cell? ⟨b, o + k * 5 + 1, none⟩ = some (.int .i64 x.si) ∧ W.cell? ⟨b, o + k * 5 + 2, none⟩ = some (.slice x.x1 x.n1 x.c1) ∧ W.cell? ⟨b, o + k * 5 + 3, none⟩ = some (.slice x.x2 x.n2 x.c2) ∧ W.cell? ⟨b, o + k * 5 + 4, none⟩ = some (.slice x.x3 x.n3 x.c3)) := hid fun W hW => ⟨keep (on hbw hW) r0, keep (on hbw hW) r1, keep (on hbw hW) r2, keep (on hbw hW) r3, keep (on hbw hW) r4⟩
      rw [hx] at a6
      have HX := hid (And.intro hx hLx)
      have a6' := After.cell a6
      have e1' := After.cell e1
      have r1' := After.cell (keep hbw r1)
      clear hcell hmx hLx r0 r1 r2 r3 r4 hF hbl hbw hx
      by_cases hd : x.si < s.si
      · haveI := After.ne wr
        go_upto_region 11 with (fail)
        refine wp_region_after (by kernel_rfl) (by kernel_rfl) ?_
        repeat (go_big_quiet_step (fail))
        refine wpQuiet_nil ?_
        rintro _ ⟨Z, rfl⟩
        obtain ⟨r0, r1, r2, r3, r4⟩ := HK.out Z.W Z.h
        replace a6 := keep Z.h a6
        obtain ⟨x', n', c', w4, hap, H4⟩ := FilSt.push (A := #[.int .i64 x.pl, .int .i64 x.si, .slice x.x1 x.n1 x.c1, .slice x.x2 x.n2 x.c2, .slice x.x3 x.n3 x.c3]) (Own.below HR.out.1 Z.h) HX.out.2 (by simp [hd]) rfl srow (Nat.le_trans HR.out.2.2 Z.h.size) (by omega)
        clear a6' e1' r1' e1
        go_wp2_with (at_builtin; refine Lib.wpList_append_run _ rfl _ _ _ _ rfl _ _ rfl rfl _ _ hap ?_)
        go_roundw
        case rel =>
          have hz := HR.out.2.1
          have h1 := on hz Z.h
          exact ⟨k + 1, by omega, by go_num, ⟨_, _, _, rfl⟩, H4.out.1, h1.trans (H4.out.2.1.mono HG.out), Nat.le_trans (Nat.le_trans HR.out.2.2 Z.h.size) H4.out.2.1.size⟩
        case measure => simp [intOf]; try omega
      · haveI := After.ne wr
        go_upto_region 11 with (fail)
        refine wp_region_after (by kernel_rfl) (by kernel_rfl) ?_
        repeat (go_big_quiet_step (fail))
        refine wpQuiet_nil ?_
        rintro _ ⟨Z, rfl⟩
        clear a6' e1' r1' e1 a6
        go_wp2_with fail
        go_roundw
        case rel => exact ⟨k + 1, by omega, by go_num, ⟨_, _, _, rfl⟩, FilSt.skip (Own.below HR.out.1 Z.h) HX.out.2 (by simp [hd]), on HR.out.2.1 Z.h, Nat.le_trans HR.out.2.2 Z.h.size⟩
        case measure => simp [intOf]; try omega
    · have hk2 : v.n = k := by omega
      have hO := FilSt.all HR.out.1 (hk2.symm.trans HN.out.symm)
      obtain ⟨y', c'', hform, _⟩ := hO.form
      injection hform with q1 q2 q3
      subst q1 q3
      have HM := hid q2
      have HBR := hid hbr
      have HO := hid hO
      obtain ⟨a0, a1, a2, a3, a4, a5, a6⟩ := HKa.out wr hbr
      obtain ⟨e0, e1, e2, e3, e4⟩ := HKs.out wr hbr
      have hml : m ≤ v.n := by have := FilSt.len (N := v.N) (p := fun x => decide (x.si < s.si)) (k := v.N.length); rw [List.take_length, ← q2, HN.out] at this; exact this
      clear hk2 hO q2 hbr
      by_cases hfull : 64 ≤ m
      · have hfi : (64 : Int) ≤ (m : Int) := by omega
        have HPP := hid (HW4.out.trans (if_neg (by have := HM.out; omega)))
        have gr := HKr.out wr HBR.out
        have b0 := cell_heap gr (j := 0) rfl
        have fb0 := fr_heap gr 0
        have b1 := cell_heap gr (j := 1) rfl
        have fb1 := fr_heap gr 1
        have b2 := cell_heap gr (j := 2) rfl
        have fb2 := fr_heap gr 2
        have b3 := cell_heap gr (j := 3) rfl
        have fb3 := fr_heap gr 3
        have b4 := cell_heap gr (j := 4) rfl
        have fb4 := fr_heap gr 4
        have b5 := cell_heap gr (j := 5) rfl
        have fb5 := fr_heap gr 5
        have b6 := cell_heap gr (j := 6) rfl
        have fb6 := fr_heap gr 6
        clear gr
        go_wp2_with fail
        refine bodyPost_ret (v := .tuple #[vH v, .int .i64 2]) ?_ rfl ?_
        · rw [results_cell2 rfl]
          unfold vH
          go_simp
        · refine HFin.out wr _ v 2 HBR.out HHv.out.1 ?_ (HPP.out)
          repeat (first | with_reducible exact Turns.refl _ _ | with_reducible refine turns_put ?_ _ _)
      · have hfi : ¬ (64 : Int) ≤ (m : Int) := by omega
        have HPP := hid (HW4.out.trans (if_pos (by have := HM.out; omega)))
        go_upto_region 15 with (fail)
        clear hfi a0 a1 a2 a3 a4 a5 a6 e0 e1 e2 e3 e4
        have bD : Below wr.heap.size wr wr.drew := (Below.refl _ _).drew
        have S1 := (⟨(HKa.out _ (on HBR.out bD)).1, (HKa.out _ (on HBR.out bD)).2.1, (HKa.out _ (on HBR.out bD)).2.2.1, (HKa.out _ (on HBR.out bD)).2.2.2.1, (HKa.out _ (on HBR.out bD)).2.2.2.2.1, (HKa.out _ (on HBR.out bD)).2.2.2.2.2.1, (HKa.out _ (on HBR.out bD)).2.2.2.2.2.2, (HKs.out _ (on HBR.out bD)).1, (HKs.out _ (on HBR.out bD)).2.1, (HKs.out _ (on HBR.out bD)).2.2.1, (HKs.out _ (on HBR.out bD)).2.2.2.1, (HKs.out _ (on HBR.out bD)).2.2.2.2⟩ : wr.drew.cell? ⟨w.heap.size, 0, none⟩ = some (.int .i64 v.fe) ∧ wr.drew.cell? ⟨w.heap.size, 1, none⟩ = some (.int .i64 v.now.pl) ∧ wr.drew.cell? ⟨w.heap.size, 2, none⟩ = some (.int .i64 v.now.si) ∧ wr.drew.cell? ⟨w.heap.size, 3, none⟩ = some (.slice v.now.x1 v.now.n1 v.now.c1) ∧ wr.drew.cell? ⟨w.heap.size, 4, none⟩ = some (.slice v.now.x2 v.now.n2 v.now.c2) ∧ wr.drew.cell? ⟨w.heap.size, 5, none⟩ = some (.slice v.now.x3 v.now.n3 v.now.c3) ∧ wr.drew.cell? ⟨w.heap.size, 6, none⟩ = some (.slice v.x v.n v.c) ∧ wr.drew.cell? ⟨w.heap.size + 1, 0, none⟩ = some (.int .i64 s.pl) ∧ wr.drew.cell? ⟨w.heap.size + 1, 1, none⟩ = some (.int .i64 s.si) ∧ wr.drew.cell? ⟨w.heap.size + 1, 2, none⟩ = some (.slice s.x1 s.n1 s.c1) ∧ wr.drew.cell? ⟨w.heap.size + 1, 3, none⟩ = some (.slice s.x2 s.n2 s.c2) ∧ wr.drew.cell? ⟨w.heap.size + 1, 4, none⟩ = some (.slice s.x3 s.n3 s.c3))
        refine wp_region_tail (fun W => W.cell? ⟨w.heap.size, 0, none⟩ = some (.int .i64 v.fe) ∧ W.cell? ⟨w.heap.size, 1, none⟩ = some (.int .i64 v.now.pl) ∧ W.cell? ⟨w.heap.size, 2, none⟩ = some (.int .i64 v.now.si) ∧ W.cell? ⟨w.heap.size, 3, none⟩ = some (.slice v.now.x1 v.now.n1 v.now.c1) ∧ W.cell? ⟨w.heap.size, 4, none⟩ = some (.slice v.now.x2 v.now.n2 v.now.c2) ∧ W.cell? ⟨w.heap.size, 5, none⟩ = some (.slice v.now.x3 v.now.n3 v.now.c3) ∧ W.cell? ⟨w.heap.size, 6, none⟩ = some (.slice v.x v.n v.c) ∧ W.cell? ⟨w.heap.size + 1, 0, none⟩ = some (.int .i64 s.pl) ∧ W.cell? ⟨w.heap.size + 1, 1, none⟩ = some (.int .i64 s.si) ∧ W.cell? ⟨w.heap.size + 1, 2, none⟩ = some (.slice s.x1 s.n1 s.c1) ∧ W.cell? ⟨w.heap.size + 1, 3, none⟩ = some (.slice s.x2 s.n2 s.c2) ∧ W.cell? ⟨w.heap.size + 1, 4, none⟩ = some (.slice s.x3 s.n3 s.c3)) [9, 10] (by kernel_rfl) S1 (fun hS => ?_)
        have HBD := hid bD
        clear S1 bD
        generalize wr.drew = wD at *
        refine By.tk 0 ?_
        refine By.tk 1 ?_
        refine By.tk 2 ?_
        refine By.tk 3 ?_
        refine By.tk 4 ?_
        refine By.tk 5 ?_
        refine wpAnyT_one (i := 6) (by kernel_rfl) rfl (fun K hK => ?_)
        go_simp
        have b7 := al wD (.cells #[.int .i64 s.pl, .int .i64 s.si, .slice s.x1 s.n1 s.c1, .slice s.x2 s.n2 s.c2, .slice s.x3 s.n3 s.c3] 26)
        have S2 := (⟨(HKa.out _ (on (on HBR.out HBD.out) b7)).1, (HKa.out _ (on (on HBR.out HBD.out) b7)).2.1, (HKa.out _ (on (on HBR.out HBD.out) b7)).2.2.1, (HKa.out _ (on (on HBR.out HBD.out) b7)).2.2.2.1, (HKa.out _ (on (on HBR.out HBD.out) b7)).2.2.2.2.1, (HKa.out _ (on (on HBR.out HBD.out) b7)).2.2.2.2.2.1, (HKa.out _ (on (on HBR.out HBD.out) b7)).2.2.2.2.2.2, (HKs.out _ (on (on HBR.out HBD.out) b7)).1, (HKs.out _ (on (on HBR.out HBD.out) b7)).2.1, (HKs.out _ (on (on HBR.out HBD.out) b7)).2.2.1, (HKs.out _ (on (on HBR.out HBD.out) b7)).2.2.2.1, (HKs.out _ (on (on HBR.out HBD.out) b7)).2.2.2.2⟩ : (wD.alloc (.cells #[.int .i64 s.pl, .int .i64 s.si, .slice s.x1 s.n1 s.c1, .slice s.x2 s.n2 s.c2, .slice s.x3 s.n3 s.c3] 26)).cell? ⟨w.heap.size, 0, none⟩ = some (.int .i64 v.fe) ∧ (wD.alloc (.cells #[.int .i64 s.pl, .int .i64 s.si, .slice s.x1 s.n1 s.c1, .slice s.x2 s.n2 s.c2, .slice s.x3 s.n3 s.c3] 26)).cell? ⟨w.heap.size, 1, none⟩ = some (.int .i64 v.now.pl) ∧ (wD.alloc (.cells #[.int .i64 s.pl, .int .i64 s.si, .slice s.x1 s.n1 s.c1, .slice s.x2 s.n2 s.c2, .slice s.x3 s.n3 s.c3] 26)).cell? ⟨w.heap.size, 2, none⟩ = some (.int .i64 v.now.si) ∧ (wD.alloc (.cells #[.int .i64 s.pl, .int .i64 s.si, .slice s.x1 s.n1 s.c1, .slice s.x2 s.n2 s.c2, .slice s.x3 s.n3 s.c3] 26)).cell? ⟨w.heap.size, 3, none⟩ = some (.slice v.now.x1 v.now.n1 v.now.c1) ∧ (wD.alloc (.cells #[.int .i64 s.pl, .int .i64 s.si, .slice s.x1 s.n1 s.c1, .slice s.x2 s.n2 s.c2, .slice s.x3 s.n3 s.c3] 26)).cell? ⟨w.heap.size, 4, none⟩ = some (.slice v.now.x2 v.now.n2 v.now.c2) ∧ (wD.alloc (.cells #[.int .i64 s.pl, .int .i64 s.si, .slice s.x1 s.n1 s.c1, .slice s.x2 s.n2 s.c2, .slice s.x3 s.n3 s.c3] 26)).cell? ⟨w.heap.size, 5, none⟩ = some (.slice v.now.x3 v.now.n3 v.now.c3) ∧ (wD.alloc (.cells #[.int .i64 s.pl, .int .i64 s.si, .slice s.x1 s.n1 s.c1, .slice s.x2 s.n2 s.c2, .slice s.x3 s.n3 s.c3] 26)).cell? ⟨w.heap.size, 6, none⟩ = some (.slice v.x v.n v.c) ∧ (wD.alloc (.cells #[.int .i64 s.pl, .int .i64 s.si, .slice s.x1 s.n1 s.c1, .slice s.x2 s.n2 s.c2, .slice s.x3 s.n3 s.c3] 26)).cell? ⟨w.heap.size + 1, 0, none⟩ = some (.int .i64 s.pl) ∧ (wD.alloc (.cells #[.int .i64 s.pl, .int .i64 s.si, .slice s.x1 s.n1 s.c1, .slice s.x2 s.n2 s.c2, .slice s.x3 s.n3 s.c3] 26)).cell? ⟨w.heap.size + 1, 1, none⟩ = some (.int .i64 s.si) ∧ (wD.alloc (.cells #[.int .i64 s.pl, .int .i64 s.si, .slice s.x1 s.n1 s.c1, .slice s.x2 s.n2 s.c2, .slice s.x3 s.n3 s.c3] 26)).cell? ⟨w.heap.size + 1, 2, none⟩ = some (.slice s.x1 s.n1 s.c1) ∧ (wD.alloc (.cells #[.int .i64 s.pl, .int .i64 s.si, .slice s.x1 s.n1 s.c1, .slice s.x2 s.n2 s.c2, .slice s.x3 s.n3 s.c3] 26)).cell? ⟨w.heap.size + 1, 3, none⟩ = some (.slice s.x2 s.n2 s.c2) ∧ (wD.alloc (.cells #[.int .i64 s.pl, .int .i64 s.si, .slice s.x1 s.n1 s.c1, .slice s.x2 s.n2 s.c2, .slice s.x3 s.n3 s.c3] 26)).cell? ⟨w.heap.size + 1, 4, none⟩ = some (.slice s.x3 s.n3 s.c3))
        have hB9 := Nat.le_trans HR.out.2.2 HBD.out.size
        obtain ⟨x', n', c', w4, hap, ho4, hb4, ht4, _⟩ := push_one2 (a := s) #[.int .i64 s.pl, .int .i64 s.si, .slice s.x1 s.n1 s.c1, .slice s.x2 s.n2 s.c2, .slice s.x3 s.n3 s.c3] rfl srow (HO.out.below HBD.out) hB9 (by have := HM.out; omega)
        clear hS b7
        refine hK.out _ _ (fun _ => S2) ?_
        clear hK K
        have HB4 := hid ((on HBR.out HBD.out).trans (hb4.mono HG.out))
        have S4 := (⟨(HKa.out _ HB4.out).1, (HKa.out _ HB4.out).2.1, (HKa.out _ HB4.out).2.2.1, (HKa.out _ HB4.out).2.2.2.1, (HKa.out _ HB4.out).2.2.2.2.1, (HKa.out _ HB4.out).2.2.2.2.2.1, (HKa.out _ HB4.out).2.2.2.2.2.2, (HKs.out _ HB4.out).1, (HKs.out _ HB4.out).2.1, (HKs.out _ HB4.out).2.2.1, (HKs.out _ HB4.out).2.2.2.1, (HKs.out _ HB4.out).2.2.2.2⟩ : w4.cell? ⟨w.heap.size, 0, none⟩ = some (.int .i64 v.fe) ∧ w4.cell? ⟨w.heap.size, 1, none⟩ = some (.int .i64 v.now.pl) ∧ w4.cell? ⟨w.heap.size, 2, none⟩ = some (.int .i64 v.now.si) ∧ w4.cell? ⟨w.heap.size, 3, none⟩ = some (.slice v.now.x1 v.now.n1 v.now.c1) ∧ w4.cell? ⟨w.heap.size, 4, none⟩ = some (.slice v.now.x2 v.now.n2 v.now.c2) ∧ w4.cell? ⟨w.heap.size, 5, none⟩ = some (.slice v.now.x3 v.now.n3 v.now.c3) ∧ w4.cell? ⟨w.heap.size, 6, none⟩ = some (.slice v.x v.n v.c) ∧ w4.cell? ⟨w.heap.size + 1, 0, none⟩ = some (.int .i64 s.pl) ∧ w4.cell? ⟨w.heap.size + 1, 1, none⟩ = some (.int .i64 s.si) ∧ w4.cell? ⟨w.heap.size + 1, 2, none⟩ = some (.slice s.x1 s.n1 s.c1) ∧ w4.cell? ⟨w.heap.size + 1, 3, none⟩ = some (.slice s.x2 s.n2 s.c2) ∧ w4.cell? ⟨w.heap.size + 1, 4, none⟩ = some (.slice s.x3 s.n3 s.c3))
        have HO4 := hid ho4
        clear S2 hb4 ht4 ho4 hB9
        refine wpAnyT_one (i := 7) (by kernel_rfl) rfl (fun K hK => ?_)
        refine st_append rfl _ _ 27 rfl _ _ rfl rfl hap ?_
        (try simp only [Act.put, List.getElem_toArray, List.getElem_cons_succ, List.getElem_cons_zero, List.setIfInBounds_toArray, List.set_cons_zero, List.set_cons_succ])
        refine hK.out _ _ (fun _ => S4) ?_
        clear hK K
        clear hap
        refine By.tk 8 ?_
        clear S4
        have gr := HKr.out w4 HB4.out
        have b0 := cell_heap gr (j := 0) rfl
        have fb0 := fr_heap gr 0
        have b1 := cell_heap gr (j := 1) rfl
        have fb1 := fr_heap gr 1
        have b2 := cell_heap gr (j := 2) rfl
        have fb2 := fr_heap gr 2
        have b3 := cell_heap gr (j := 3) rfl
        have fb3 := fr_heap gr 3
        have b4 := cell_heap gr (j := 4) rfl
        have fb4 := fr_heap gr 4
        have b5 := cell_heap gr (j := 5) rfl
        have fb5 := fr_heap gr 5
        have b6 := cell_heap gr (j := 6) rfl
        have fb6 := fr_heap gr 6
        clear gr
        refine wpAnyT_one (i := 9) (by kernel_rfl) rfl (fun K hK => ?_)
        go_simp
        refine hK.out _ _ (fun h => absurd (by decide) h) ?_
        clear hK K
        refine wpAnyT_one (i := 10) (by kernel_rfl) rfl (fun K hK => ?_)
        go_simp
        refine hK.out _ _ (fun h => absurd (by decide) h) ?_
        clear hK K
        refine wpAnyT_done (by kernel_rfl) ?_ _
        go_wp2_with fail
        refine bodyPost_ret (v := .tuple #[vH ⟨s.si, v.now, x', n', c', (v.N.filter fun x => decide (x.si < s.si)) ++ [s]⟩, .int .i64 0]) ?_ rfl ?_
        · rw [results_cell2 rfl]
          unfold vH
          go_simp
        · rw [HPP.out]
          have key : ∀ W, Turns (fun k => k = w.heap.size + 2) w4 W → RTells w (fun q => F q ∨ G q) (⟨s.si, pS v.now, (v.N.filter fun x => decide (x.si < s.si)).map pS ++ [pS s]⟩ : Hld) 0 (.returned (.tuple #[vH ⟨s.si, v.now, x', n', c', (v.N.filter fun x => decide (x.si < s.si)) ++ [s]⟩, .int .i64 0])) W := fun W t => by
            have b4 := on HB.out HB4.out
            have bW : Below w.heap.size w W := b4.trans (t.below (fun q e => by omega) b4.size)
            have oW := HO4.out.turns t (fun q hq e => by have := (World.ownsRow.lt HO4.out q hq).1; have := HG.out; have := HSz.out; omega)
            refine ⟨_, rfl, hid ⟨⟨(HHv.out.1.s.below bW).weak fun q hq => .inl (.inl hq), own_lis srow oW (by rw [List.length_append, List.length_singleton]; have := HM.out; omega) (fun g hg => .inr ⟨?_, (World.ownsRow.lt oW g hg).2⟩) fun a ha => ?_⟩, ?_, bW⟩⟩
            · have := (World.ownsRow.lt oW g hg).1; have := HG.out; have := HB.out.size; omega
            · rcases List.mem_append.1 ha with h | h
              · exact ((HHv.out.1.n.each a (List.mem_filter.1 h).1).below bW).weak fun q hq => .inl (.inl hq)
              · rw [List.mem_singleton.1 h]
                exact (HHv.out.2.below bW).weak fun q hq => .inl (.inr hq)
            · show (⟨s.si, pS v.now, ((v.N.filter fun x => decide (x.si < s.si)) ++ [s]).map pS⟩ : Hld) = _
              rw [List.map_append]
              rfl
          refine key _ ?_
          repeat (first | with_reducible exact Turns.refl _ _ | with_reducible refine turns_put ?_ _ _)

end Go.Proofs.Ytnfflmndejbepaa.Sh
