/-
  The program's state of an interval, as infos that count for it tell it.
  Conditions: intervals and infos lie in memory.
-/
import Derived.Test.YtgcjecmgjncclaaPeWh
import Derived.Test.YtgcjecmgjncclaaPeRChoose
import Derived.Deep.Cut
namespace Go.Proofs.Ytgcjecmgjncclaa.Pe
open Go.RowKit By Fl Pz
set_option linter.unusedVariables false
set_option linter.unusedSimpArgs false
set_option maxRecDepth 100000
attribute [local go_sem] Oper.semAt_some

theorem fst_one (P : List (Int × Int)) (z o : Int) : (P ++ [(z, o)]).map (·.1) = P.map (·.1) ++ [z] := by simp

/- What the call leaves. -/
def StaAt (w : World) (f : Int) (P : List (Int × Int)) (k : Int) (e : Ending) (w' : World) : Prop :=
  ∃ (v : CV) (b : Bool), e = .returned (.tuple #[vC v, .bool b]) ∧ Hid (CAt w' (New w w') v ∧ b = decide (k ≤ (P.length : Int)) ∧ (b = true → pC v = { stateC f P k with kind := 3 }) ∧ Below w.heap.size w w')

set_option maxHeartbeats 12800000 in
theorem state_p {w : World} {F G : Nat → Prop} {v : JV} {y : Option Addr} {m d : Nat} {S : List FV} (k : Int) (hk1 : 1 ≤ k) (h : JAt w F v) (hI : Fs w G y m d S) :
    Calls Try.prog 24 #[vJ v, .slice y m d, .int .i64 k] w fun e w' => StaAt w (pJ v).fr (pairs (pJ v) (S.map pF)) k e w' := by
  obtain ⟨w1, hw1⟩ : ∃ w1, w1 = (w.alloc (.cells (JCells v) 24)).alloc (.cells (CCells zCV) 35) := ⟨_, rfl⟩
  obtain ⟨bb, hsz, g0, g1⟩ := two_boxes2 w (JCells v) (CCells zCV) 24 35
  rw [← hw1] at bb hsz g0 g1
  have HB := hid bb
  have HSz := hid hsz
  have HG0 := hid g0
  have HG1 : Hid (∀ W, Below w1.heap.size w1 W → W.heap[w.heap.size + 1]? = some (.cells #[.int .i64 0, .int .i64 0, .int .i64 0, .slice none 0 0] 35 (0, 0))) := hid fun W hW => (hW.block _ (lt_heap g1)).trans g1
  have HI := hid hI
  have HLn : Hid (S.length = m) := hid hI.len
  have hs1 := hI.small
  have HHs : Hid (∀ W u, Below w.heap.size w W → u ∈ S → Calls Try.prog 8 #[vJ v, vF u] W fun e w' => e = .returned (.tuple #[.int .i64 ((hasI (pJ v) (pF u)).getD 0), .bool (hasI (pJ v) (pF u)).isSome]) ∧ Below W.heap.size W w') := hid fun W u hW hu => phas_any (JAt.below h hW) (FAt.below (hI.each u hu) hW)
  have HWh : Hid (∀ W z, Below w.heap.size w W → Calls Try.prog 32 #[vJ v, .slice y m d, .int .i64 z] W fun e w' => ∃ (x : Option Addr) (n c : Nat), e = .returned (.slice x n c) ∧ Hid (Ns w' (New W w') x n c (whoR (pairs (pJ v) (S.map pF)) z []) ∧ Below W.heap.size W w')) := hid fun W z hW => whence_p z (JAt.below h hW) (Fs.below hI hW)
  have HC0 : Hid (Nn w1 w1 (.slice none 0 0) ((pairs (pJ v) ((S.map pF).take 0)).map (·.1))) := hid ⟨Below.refl _ _, Own.nil _ _ _ _ _⟩
  obtain ⟨X, hX⟩ : ∃ X, X = pJ v := ⟨_, rfl⟩
  have hXf : X.fr = v.fr := by rw [hX]; rfl
  rw [← hX] at HC0 HHs HWh ⊢
  rw [hXf]
  unfold JCells CCells zCV at hw1
  dsimp only at hw1
  unfold vJ at HHs HWh
  unfold vJ
  clear h hI bb hsz g0 g1 hX hXf
  go_enter Try.func24, Try.ntmps24
  go_upto_region 1 with (fail)
  rw [← hw1]
  clear hw1
  go_wp2_with fail
  go_loopw [16, 8] (fun i ov wr => ∃ (t : Nat) (xo : Option Addr) (no co : Nat), t ≤ m ∧ no ≤ t ∧ i = .int .i64 t ∧ ov = .slice xo no co ∧ Hid (Nn w1 wr (.slice xo no co) ((pairs X ((S.map pF).take t)).map (·.1)))) (fun i _ _ => m - (intOf i).toNat)
  case atStart => exact ⟨0, none, 0, 0, by omega, by omega, rfl, rfl, HC0.out⟩
  case round =>
    clear HC0
    obtain ⟨t, xo, no, co, ht, hno, rfl, rfl, HR⟩ := hrel
    by_cases htm : t < m
    · have htm2 : (t : Int) < (m : Int) := by omega
      obtain ⟨u, hu, hum⟩ := Lis.some HI.out htm
      rcases HI.out.row with hr0 | ⟨bl, o, hx, hbl, _, hc⟩
      · omega
      obtain ⟨kk0, kk1, kk2, kk3, kk4⟩ := f_at hc hu
      subst hx
      have hbw := on HB.out HR.out.bel
      have r0 := keep hbw kk0
      have r1 := keep hbw kk1
      have r2 := keep hbw kk2
      have r3 := keep hbw kk3
      have r4 := keep hbw kk4
      have HU : Hid ((S.map pF)[t]? = some (pF u)) := hid (by rw [List.getElem?_map, hu]; rfl)
      have HM := hid hum
      clear kk0 kk1 kk2 kk3 kk4 hc hu hum hbw hbl
      go_upto_region 5 with (fail)
      clear r0 r1 r2 r3 r4
      obtain ⟨yb, hyb⟩ : ∃ yb, yb = wr.heap.size := ⟨_, rfl⟩
      obtain ⟨wy, hwy⟩ : ∃ wy, wy = wr.alloc (.cells #[.int .i64 u.os, .int .i64 u.li, .int .i64 u.no, .int .i64 u.he, .slice u.x u.n u.c] 27) := ⟨_, rfl⟩
      have by_ : Below wr.heap.size wr wy := by rw [hwy]; exact al _ _
      have gy : wy.heap[yb]? = some (.cells (FCells u) 27 (0, 0)) := by rw [hwy, hyb]; exact heap_alloc_new _ _
      rw [← hwy, ← hyb]
      have HRy := hid (HR.out.below by_)
      obtain ⟨a0, a1, a2, a3, a4⟩ := fcells gy
      have gj := (HRy.out.bel.block _ (lt_heap HG0.out)).trans HG0.out
      obtain ⟨j0, j1, j2, j3, j4, j5⟩ := jcells gj
      have cH := HHs.out wy u (on HB.out HRy.out.bel) HM.out
      unfold vF at cH
      have hP := pairs_take (x := X) HU.out
      cases hh : hasI X (pF u) with
      | none =>
        rw [hh] at cH hP
        dsimp only [Option.getD_none, Option.isSome_none] at cH
        have HE : Hid ((pairs X ((S.map pF).take (t + 1))).map (·.1) = (pairs X ((S.map pF).take t)).map (·.1)) := hid (by rw [hP]; simp)
        clear hwy hyb by_ gy gj HR hP hh
        go_wp2_with (go_at_call 8; refine cH.mono ?_; rintro e wq ⟨rfl, hb⟩; have HRq := hid (HRy.out.below hb); clear hb cH)
        go_roundw
        case rel => exact ⟨t + 1, xo, no, co, by omega, by omega, by go_num, rfl, by rw [HE.out]; exact HRq.out⟩
        case measure => simp [intOf]; omega
      | some z =>
        rw [hh] at cH hP
        dsimp only [Option.getD_some, Option.isSome_some] at cH
        have HE : Hid ((pairs X ((S.map pF).take (t + 1))).map (·.1) = (pairs X ((S.map pF).take t)).map (·.1) ++ [z]) := hid (by rw [hP]; simp)
        clear hwy hyb by_ gy gj HR hP hh
        go_upto_region 7 with (go_at_call 8; refine cH.mono ?_; rintro e wq ⟨rfl, hb⟩; have HRq := hid (HRy.out.below hb); clear hb cH)
        clear a0 a1 a2 a3 a4 j0 j1 j2 j3 j4 j5
        have hl := HRq.out.len
        obtain ⟨x', n', c', w3, hap1, hO, hBl, _, _⟩ := push_one2 (a := z) #[.int .i64 z] rfl nrow HRq.out.own HRq.out.bel.size (by omega) (by omega)
        have HE2 : Hid (Nn w1 w3 (.slice x' n' c') ((pairs X ((S.map pF).take (t + 1))).map (·.1))) := hid (by rw [HE.out]; exact ⟨HRq.out.bel.trans hBl, hO⟩)
        have hn' : n' ≤ t + 1 := by
          have := HE2.out.len
          rw [HE.out, List.length_append, hl] at this
          simp at this
          omega
        clear hO hBl hl
        go_wp2_with (first | (at_builtin; refine Lib.wpList_append_run _ rfl _ _ _ _ rfl _ _ rfl rfl _ _ hap1 ?_; clear hap1))
        go_roundw
        case rel => exact ⟨t + 1, x', n', c', by omega, by omega, by go_num, rfl, HE2.out⟩
        case measure => simp [intOf]; omega
    · have e1 : m = t := by omega
      subst e1
      have hE : (S.map pF).take m = S.map pF := List.take_of_length_le (by rw [List.length_map]; have := HLn.out; omega)
      rw [hE] at HR
      obtain ⟨P, hP⟩ : ∃ P, P = pairs X (S.map pF) := ⟨_, rfl⟩
      rw [← hP] at HR HWh
      have hlen := HR.out.len
      rw [List.length_map] at hlen
      have HPl := hid hlen
      have HPP := hid hP
      clear hE hlen hP
      by_cases hlt : (no : Int) < k
      · have gr := HG1.out wr HR.out.bel
        obtain ⟨c0, c1, c2, c3⟩ := ccells gr
        have f0 := fr_heap gr 0
        have f1 := fr_heap gr 1
        have f2 := fr_heap gr 2
        have f3 := fr_heap gr 3
        clear gr
        go_wp2_with fail
        refine bodyPost_ret (v := .tuple #[vC zCV, .bool false]) ?_ rfl ?_
        · rw [results_cell2 rfl]
          unfold vC zCV
          go_simp
        · have t4 : Turns (fun k => k = w.heap.size + 1) wr ((((wr.setCell ⟨w.heap.size + 1, 0, none⟩ (.int .i64 0)).setCell ⟨w.heap.size + 1, 1, none⟩ (.int .i64 0)).setCell ⟨w.heap.size + 1, 2, none⟩ (.int .i64 0)).setCell ⟨w.heap.size + 1, 3, none⟩ (.slice none 0 0)) := turns4 _ _ _ _
          exact ⟨zCV, false, rfl, hid ⟨Lis.empty _ _, (decide_eq_false (by rw [← HPP.out, HPl.out]; omega)).symm, fun h => (by cases h), (on HB.out HR.out.bel).trans (t4.below (fun q e => by omega) (on HB.out HR.out.bel).size)⟩⟩
      have hk2 : k ≤ (no : Int) := by omega
      have cS := sorted_any HR.out (by omega)
      go_upto_region 12 with (go_at_call 31; refine cS.mono ?_; rintro e ws ⟨rfl, HS⟩; clear cS)
      obtain ⟨s, h1, h2, h3, h4⟩ := HS.out
      obtain ⟨q, hq⟩ : ∃ q : Nat, (q : Int) = (no : Int) - k := ⟨((no : Int) - k).toNat, by omega⟩
      have hw : IntKind.i64.wrap ((no : Int) - k) = (q : Int) := by rw [IntKind.wrap_i64]; omega
      have hqn : (q : Int) < (no : Int) := by omega
      obtain ⟨z, hz, _⟩ := Lis.some h3 (show q < no by omega)
      rcases h3.row with hr0 | ⟨bs, os, hxs, _, _, hcs⟩
      · omega
      have s0 := n_at hcs hz
      subst hxs
      have hbest := best_at h1 h2 hk1 (q := q) (by rw [List.length_map, HPl.out]; omega) hz
      have HSt : Hid (stateC v.fr P k = ⟨1, v.fr, z, whoR P z []⟩) := hid (by unfold stateC; rw [hbest]; rfl)
      have HBs := hid (on HB.out h4)
      have HGs := hid (HG1.out ws h4)
      have gj := (h4.block _ (lt_heap HG0.out)).trans HG0.out
      have cW := HWh.out
      have HJs : Hid (∀ W, Below ws.heap.size ws W → W.cell? ⟨w.heap.size, 0, none⟩ = some (.int .i64 v.fr) ∧ W.cell? ⟨w.heap.size, 1, none⟩ = some (.int .i64 v.to) ∧ W.cell? ⟨w.heap.size, 2, none⟩ = some (.slice v.x1 v.n1 v.c1) ∧ W.cell? ⟨w.heap.size, 3, none⟩ = some (.slice v.x2 v.n2 v.c2) ∧ W.cell? ⟨w.heap.size, 4, none⟩ = some (.slice v.x3 v.n3 v.c3) ∧ W.cell? ⟨w.heap.size, 5, none⟩ = some (.int .i64 v.pr)) := hid fun W hW => jcells ((hW.block _ (lt_heap gj)).trans gj)
      clear h1 h2 h3 h4 hz hcs hbest HS HR gj cW hq
      go_upto_region 13 with (fail)
      clear s0 hw hqn
      have bD0 : Below ws.heap.size ws ws.drew := (Below.refl _ _).drew
      have S1 := HJs.out _ bD0
      refine wp_region_tail (fun W => W.cell? ⟨w.heap.size, 0, none⟩ = some (.int .i64 v.fr) ∧ W.cell? ⟨w.heap.size, 1, none⟩ = some (.int .i64 v.to) ∧ W.cell? ⟨w.heap.size, 2, none⟩ = some (.slice v.x1 v.n1 v.c1) ∧ W.cell? ⟨w.heap.size, 3, none⟩ = some (.slice v.x2 v.n2 v.c2) ∧ W.cell? ⟨w.heap.size, 4, none⟩ = some (.slice v.x3 v.n3 v.c3) ∧ W.cell? ⟨w.heap.size, 5, none⟩ = some (.int .i64 v.pr)) [8, 9] (by kernel_rfl) S1 (fun hS => ?_)
      have HBD := hid bD0
      clear S1 bD0
      generalize ws.drew = wD at *
      refine By.tk 0 ?_
      refine By.tk 1 ?_
      refine By.tk 2 ?_
      refine By.tk 3 ?_
      refine By.tk 4 ?_
      refine By.tk 5 ?_
      refine wpAnyT_one (i := 6) (by kernel_rfl) rfl (fun K hK => ?_)
      go_simp
      refine (HWh.out wD z (on HBs.out HBD.out)).mono ?_
      rintro e w4 ⟨xw, nw, cw, rfl, H4⟩
      have S4 := HJs.out _ (on HBD.out H4.out.2)
      refine hK.out _ _ (fun _ => S4) ?_
      clear hK K
      refine By.tk 7 ?_
      have gr := ((on HBD.out H4.out.2).block _ (lt_heap HGs.out)).trans HGs.out
      obtain ⟨c0, c1, c2, c3⟩ := ccells gr
      have f0 := fr_heap gr 0
      have f1 := fr_heap gr 1
      have f2 := fr_heap gr 2
      have f3 := fr_heap gr 3
      clear hS S4 gr
      refine wpAnyT_one (i := 8) (by kernel_rfl) rfl (fun K hK => ?_)
      go_simp
      refine hK.out _ _ (fun h => absurd (by decide) h) ?_
      clear hK K
      refine wpAnyT_one (i := 9) (by kernel_rfl) rfl (fun K hK => ?_)
      go_simp
      refine hK.out _ _ (fun h => absurd (by decide) h) ?_
      clear hK K
      refine wpAnyT_done (by kernel_rfl) ?_ _
      go_wp2_with fail
      refine bodyPost_ret (v := .tuple #[vC ⟨3, v.fr, z, xw, nw, cw, whoR P z []⟩, .bool true]) ?_ rfl ?_
      · rw [results_cell2 rfl]
        unfold vC
        go_simp
      · have t4 : Turns (fun k => k = w.heap.size + 1) w4 ((((w4.setCell ⟨w.heap.size + 1, 0, none⟩ (.int .i64 3)).setCell ⟨w.heap.size + 1, 1, none⟩ (.int .i64 v.fr)).setCell ⟨w.heap.size + 1, 2, none⟩ (.int .i64 z)).setCell ⟨w.heap.size + 1, 3, none⟩ (.slice xw nw cw)) := turns4 _ _ _ _
        have hBt := on HBs.out (on HBD.out H4.out.2)
        have hsz := HSz.out
        have hDs := (on HBs.out HBD.out).size
        have hlD : w.heap.size + 1 < wD.heap.size := Nat.lt_of_lt_of_le (lt_heap HGs.out) HBD.out.size
        exact ⟨⟨3, v.fr, z, xw, nw, cw, whoR P z []⟩, true, rfl, hid ⟨Ns.weak (Ns.keeps H4.out.1 (.turns t4 (fun g hg e => by have := hg.1; omega))) (fun g hg => ⟨Nat.le_trans hDs hg.1, Nat.lt_of_lt_of_le hg.2 t4.size⟩), (decide_eq_true (by rw [← HPP.out, HPl.out]; omega)).symm, fun _ => by rw [← HPP.out, HSt.out]; rfl, hBt.trans (t4.below (fun q e => by omega) hBt.size)⟩⟩
end Go.Proofs.Ytgcjecmgjncclaa.Pe
