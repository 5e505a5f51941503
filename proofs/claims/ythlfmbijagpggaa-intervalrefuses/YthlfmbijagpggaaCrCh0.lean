/-
  Package crush: Choose, by domain 0, where it is not refused.
  Conditions: the map lies in memory and may be; numbers of 32 bits.
-/
import Derived.Test.YthlfmbijagpggaaByHk
import Derived.Test.YthlfmbijagpggaaCrChP
namespace Go.Proofs.Ythlfmbijagpggaa.Cr
open Go.RowKit Go.Shelf By Fl At
open Sr (Wd Ws enW)
set_option linter.unusedVariables false
set_option linter.unusedSimpArgs false
set_option maxRecDepth 100000

set_option maxHeartbeats 6400000 in
theorem choose_0 {w : World} {x : Option Addr} {n c : Nat} (m : Mp) (h : At.Os w x n c m.osds) (hk : m.pool.k ≤ 9223372036854775807) (hm : mayM m = true) (want : Nat) (h1 : 1 ≤ want) (h32 : want ≤ 32) (y : Nat) (hy : y < 4294967296) :
    Calls Try.prog 35 #[vM m.ep m.pool x n c, .agg #[.int .i64 0, .int .i64 (want : Nat)], .int .u32 (y : Nat)] w fun e w' => ∃ (x' : Option Addr) (c' : Nat), e = .returned (.tuple #[.slice x' want c', .int .i64 0]) ∧ Hid (Below w.heap.size w w' ∧ Own w' w.heap.size 3 1 enI (.slice x' want c') (chs m.osds 1 want y)) := by
  obtain ⟨w0, hw0⟩ : ∃ w0, w0 = (w.alloc (.cells #[.int .i64 m.ep, .int .i64 m.pool.k, .int .i64 m.pool.m, .int .i64 m.pool.pgs, .int .i64 m.pool.dom, .slice x n c] 32)).alloc (.cells #[.int .i64 0, .int .i64 (want : Nat)] 71) := ⟨_, rfl⟩
  have b0 : Below w.heap.size w w0 := by rw [hw0]; exact on (al _ _) (al _ _)
  have q5 : w0.cell? ⟨w.heap.size, 5, none⟩ = some (.slice x n c) := by rw [hw0]; go_simp
  have r0 : w0.cell? ⟨w.heap.size + 1, 0, none⟩ = some (.int .i64 0) := by rw [hw0]; go_simp
  have r1 : w0.cell? ⟨w.heap.size + 1, 1, none⟩ = some (.int .i64 (want : Nat)) := by rw [hw0]; go_simp
  have cC := check_any m (h.below b0) hk
  have HO := hid h
  have HB := hid b0
  have HW := hid hw0
  rw [hw0] at cC
  unfold vM at cC ⊢
  rw [hm, show errB true = 0 from rfl] at cC
  have cM := fun W => domainMay_any 0 W
  rw [show domB 0 = true from rfl] at cM
  obtain ⟨f1, f2, f3⟩ := may_facts hm
  have HT : Hid (∀ W, Below w.heap.size w W → Calls Try.prog 40 #[.slice x n c] W fun e w' => TreeOf W m.osds e w') := fun W hb => tree_any (HO.out.below hb) (by rw [← HO.out.len]; exact f1) f3
  have HRm : Hid (∀ W, Below w.heap.size w W → Calls Try.prog 41 #[.slice x n c, .int .i64 0] W fun e w' => e = .returned (.int .i64 (rm 1 m.osds : Nat)) ∧ Below W.heap.size W w') := fun W hb => room_any (HO.out.below hb) (by rw [← HO.out.len]; exact f1) f3 0
  have HNN := hid f3.nn
  have hw1 : ¬ (want : Int) < 1 := by omega
  have hw2 : ¬ 32 < (want : Int) := by omega
  clear h b0 hw0 hm f1 f2 f3
  generalize m.osds = L at *
  go_enter Try.func35, Try.ntmps35
  go_wp2_with (first
    | (go_at_call 16; refine cC.mono ?_; rintro e w1 ⟨rfl, hb1⟩; rw [← HW.out] at hb1; clear cC; have u5 := keep hb1 q5; have u0 := keep hb1 r0; have u1 := keep hb1 r1; have HB1 := hid (on HB.out hb1); clear q5 r0 r1 hb1)
    | (go_at_call 39; refine (cM _).mono ?_; rintro e w2 ⟨rfl, hw2⟩; subst w2; clear cM))
  go_cut [8, 9] (fun s8 s9 wc => ∃ (gb : Nat) (v : Bv), s8 = .pointer (some ⟨gb, 0, none⟩) ∧ s9 = .int .i64 (rm 1 L : Nat) ∧ Hid (Cu w1 wc gb v L))
  case first =>
    have bD : Below w1.heap.size w1 w1.drew := (Below.refl _ _).drew
    have z5 := keep bD u5
    have z0 := keep bD u0
    have hzz := bD.size
    have HBD := hid (on HB1.out bD)
    have HD1 := hid bD
    refine wp_region_held_drew (S := fun q => q.cell? ⟨w.heap.size, 5, none⟩ = some (.slice x n c) ∧ q.cell? ⟨w.heap.size + 1, 0, none⟩ = some (.int .i64 0)) (by kernel_rfl) ⟨z5, z0⟩ (fun hHeld => ?_)
    generalize w1.drew = wD at *
    clear bD
    have HV : Hid (∀ V, Below wD.heap.size wD V → V.cell? ⟨w.heap.size, 5, none⟩ = some (.slice x n c) ∧ V.cell? ⟨w.heap.size + 1, 0, none⟩ = some (.int .i64 0)) := fun V hb => ⟨keep hb z5, keep hb z0⟩
    refine By.hk 0 ?_
    refine By.hk 1 ?_
    refine By.hk 3 ?_
    refine By.hk 4 ?_
    refine By.hk 5 ?_
    refine By.hk 6 ?_
    refine wpAnyH_ready (rs := [2, 8]) (by kernel_rfl) (by simp) ?_
    refine AllReadyH.cons rfl (fun K hK => ?_) (AllReadyH.cons rfl (fun K hK => ?_) AllReadyH.nil)
    · go_simp
      refine (HT.out wD HBD.out).mono ?_
      rintro e w2 ⟨v, rfl, H2⟩
      have bT := H2.out.1
      have v2 := HV.out _ bT
      obtain ⟨S, hS, hBr⟩ := H2.out.2
      have HS := hid (And.intro hS hBr)
      clear hS hBr H2
      refine hK.out _ _ v2 (fun hHeld => ?_)
      clear hK K
      unfold vB
      refine wpAnyH_ready (rs := [7, 8]) (by kernel_rfl) (by simp) ?_
      refine AllReadyH.cons rfl (fun K hK => ?_) (AllReadyH.cons rfl (fun K hK => ?_) AllReadyH.nil)
      · go_simp
        refine (HRm.out w2 (on HBD.out bT)).mono ?_
        rintro e w3 ⟨rfl, hb3⟩
        have v3 := HV.out _ (on bT hb3)
        refine hK.out _ _ v3 (fun hHeld => ?_)
        clear hK K
        refine wpAnyH_ready (rs := [8]) (by kernel_rfl) (by simp) ?_
        refine AllReadyH.cons rfl (fun K hK => ?_) AllReadyH.nil
        go_simp
        refine hK.out _ _ (HV.out _ (on (on bT hb3) (al _ _))) (fun hHeld => ?_)
        clear hK K
        have bG := on (on bT hb3) (al w3 (.cells #[.slice v.x v.n v.c, .slice v.y v.m v.d] 80))
        refine wpAnyH_ready (rs := [9]) (by kernel_rfl) (by simp) ?_
        refine AllReadyH.cons rfl (fun K hK => ?_) AllReadyH.nil
        go_simp
        refine hK.out _ _ (HV.out _ bG) (fun hHeld => ?_)
        clear hK K
        refine By.hk 10 ?_
        refine wpAnyH_done (by kernel_rfl) ?_ _
        go_wp2_with fail
        go_meet
        case rel => exact ⟨w3.heap.size, v, rfl, rfl, on HD1.out bG, by go_simp, by go_simp, S, HS.out.1, BrAt.mono (fun _ _ _ => trivial) 3 v S (BrAt.below (on hb3 (al _ _)) 3 v S HS.out.2)⟩
      · go_simp
        have bA := al w2 (.cells #[.slice none 0 0, .slice none 0 0] 80)
        have lA : (w2.alloc (.cells #[.slice none 0 0, .slice none 0 0] 80)).heap[w2.heap.size]? = some (.cells #[.slice none 0 0, .slice none 0 0] 80 (0, 0)) := heap_alloc_new w2 _
        have hsA : (w2.alloc (.cells #[.slice none 0 0, .slice none 0 0] 80)).heap.size = w2.heap.size + 1 := by simp
        have cR := HRm.out _ (on HBD.out (on bT bA))
        have vA := HV.out _ (on bT bA)
        refine hK.out _ _ vA (fun hHeld => ?_)
        clear hK K
        refine wpAnyH_ready (rs := [7]) (by kernel_rfl) (by simp) ?_
        refine AllReadyH.cons rfl (fun K hK => ?_) AllReadyH.nil
        go_simp
        refine cR.mono ?_
        rintro e w3 ⟨rfl, hb3⟩
        have l3 := (hb3.block _ (by omega)).trans lA
        have s0 := cell_heap (j := 0) l3 rfl
        have s1 := cell_heap (j := 1) l3 rfl
        have g0 := fr_heap l3 0
        have g1 := fr_heap l3 1
        have z3 := hb3.size
        have b3 := on bT (on bA hb3)
        have zT := bT.size
        have v3 := HV.out _ b3
        have t4 : Turns (fun j => j = w2.heap.size) w3 ((w3.setCell ⟨w2.heap.size, 0, none⟩ (.slice v.x v.n v.c)).setCell ⟨w2.heap.size, 1, none⟩ (.slice v.y v.m v.d)) := turns_put (turns_put (Turns.refl _ w3) 0 _) 1 _
        have bG := b3.trans (t4.below (B := wD.heap.size) (fun j e => by omega) (by omega))
        have HBr := hid (show BrAt ((w3.setCell ⟨w2.heap.size, 0, none⟩ (.slice v.x v.n v.c)).setCell ⟨w2.heap.size, 1, none⟩ (.slice v.y v.m v.d)) (fun _ => True) 3 v S from BrAt.mono (fun _ _ _ => trivial) 3 v S (BrAt.turns t4 (fun j hj e => by omega) 3 v S (BrAt.below (on bA hb3) 3 v S (BrAt.mono (F' := fun j => j < w2.heap.size) (fun j _ hj => hj) 3 v S HS.out.2))))
        have e0 := heap_set (heap_set l3 (j := 0) (.slice v.x v.n v.c)) (j := 1) (.slice v.y v.m v.d)
        have HE := hid e0
        clear lA l3 e0 t4
        refine hK.out _ _ v3 (fun hHeld => ?_)
        clear hK K
        refine wpAnyH_ready (rs := [9]) (by kernel_rfl) (by simp) ?_
        refine AllReadyH.cons rfl (fun K hK => ?_) AllReadyH.nil
        go_simp
        refine hK.out _ _ (HV.out _ bG) (fun hHeld => ?_)
        clear hK K
        refine By.hk 10 ?_
        refine wpAnyH_done (by kernel_rfl) ?_ _
        go_wp2_with fail
        go_meet
        case rel => exact ⟨w2.heap.size, v, rfl, rfl, on HD1.out bG, cell_heap HE.out rfl, cell_heap HE.out rfl, S, HS.out.1, HBr.out⟩
    · go_simp
      have bA := al wD (.cells #[.slice none 0 0, .slice none 0 0] 80)
      have lA : (wD.alloc (.cells #[.slice none 0 0, .slice none 0 0] 80)).heap[wD.heap.size]? = some (.cells #[.slice none 0 0, .slice none 0 0] 80 (0, 0)) := heap_alloc_new wD _
      have hsA : (wD.alloc (.cells #[.slice none 0 0, .slice none 0 0] 80)).heap.size = wD.heap.size + 1 := by simp
      have cT := HT.out _ (on HBD.out bA)
      have vA := HV.out _ bA
      refine hK.out _ _ vA (fun hHeld => ?_)
      clear hK K
      refine wpAnyH_ready (rs := [2]) (by kernel_rfl) (by simp) ?_
      refine AllReadyH.cons rfl (fun K hK => ?_) AllReadyH.nil
      go_simp
      refine cT.mono ?_
      rintro e w2 ⟨v, rfl, H2⟩
      have bT := H2.out.1
      have v2 := HV.out _ (on bA bT)
      obtain ⟨S, hS, hBr⟩ := H2.out.2
      have HS := hid (And.intro hS hBr)
      have cR := HRm.out _ (on HBD.out (on bA bT))
      clear hS hBr H2
      refine hK.out _ _ v2 (fun hHeld => ?_)
      clear hK K
      unfold vB
      refine wpAnyH_ready (rs := [7]) (by kernel_rfl) (by simp) ?_
      refine AllReadyH.cons rfl (fun K hK => ?_) AllReadyH.nil
      go_simp
      refine cR.mono ?_
      rintro e w3 ⟨rfl, hb3⟩
      have l3 := (hb3.block _ (by have := bT.size; omega)).trans ((bT.block _ (by omega)).trans lA)
      have s0 := cell_heap (j := 0) l3 rfl
      have s1 := cell_heap (j := 1) l3 rfl
      have g0 := fr_heap l3 0
      have g1 := fr_heap l3 1
      have z3 := hb3.size
      have zT := bT.size
      have b3 := on bA (on bT hb3)
      have v3 := HV.out _ b3
      have t4 : Turns (fun j => j = wD.heap.size) w3 ((w3.setCell ⟨wD.heap.size, 0, none⟩ (.slice v.x v.n v.c)).setCell ⟨wD.heap.size, 1, none⟩ (.slice v.y v.m v.d)) := turns_put (turns_put (Turns.refl _ w3) 0 _) 1 _
      have bG := b3.trans (t4.below (B := wD.heap.size) (fun j e => by omega) (by omega))
      have HBr := hid (show BrAt ((w3.setCell ⟨wD.heap.size, 0, none⟩ (.slice v.x v.n v.c)).setCell ⟨wD.heap.size, 1, none⟩ (.slice v.y v.m v.d)) (fun _ => True) 3 v S from BrAt.mono (fun _ _ _ => trivial) 3 v S (BrAt.turns t4 (fun j hj e => by omega) 3 v S (BrAt.below hb3 3 v S HS.out.2)))
      have e0 := heap_set (heap_set l3 (j := 0) (.slice v.x v.n v.c)) (j := 1) (.slice v.y v.m v.d)
      have HE := hid e0
      clear lA l3 e0 t4
      refine hK.out _ _ v3 (fun hHeld => ?_)
      clear hK K
      refine wpAnyH_ready (rs := [9]) (by kernel_rfl) (by simp) ?_
      refine AllReadyH.cons rfl (fun K hK => ?_) AllReadyH.nil
      go_simp
      refine hK.out _ _ (HV.out _ bG) (fun hHeld => ?_)
      clear hK K
      refine By.hk 10 ?_
      refine wpAnyH_done (by kernel_rfl) ?_ _
      go_wp2_with fail
      go_meet
      case rel => exact ⟨wD.heap.size, v, rfl, rfl, on HD1.out bG, cell_heap HE.out rfl, cell_heap HE.out rfl, S, HS.out.1, HBr.out⟩
  case rest =>
    obtain ⟨gb, v, rfl, rfl, HC⟩ := hcut
    have CB := HC.out.1
    have q0 := keep CB u0
    have q1 := keep CB u1
    have hl1 : w.heap.size + 1 < wc.heap.size := cell_lt' q1
    clear u5 u0 u1 HT HRm
    obtain ⟨R, hR⟩ : ∃ R, R = rm 1 L := ⟨_, rfl⟩
    rw [← hR]
    have HRR := hid hR
    clear hR
    have cR := repeat_any (wc.alloc (.cells #[.int .i64 (-1)] 3)) wc.heap.size (-1) want h1 (by omega) (by go_simp)
    have bE := al wc (.cells #[.int .i64 (-1)] 3)
    have hsE : (wc.alloc (.cells #[.int .i64 (-1)] 3)).heap.size = wc.heap.size + 1 := by simp
    rw [hsE] at cR
    have HBE := hid bE
    have Hq := hid (And.intro q0 q1)
    have HBW := hid (on HB1.out CB)
    clear bE CB
    go_wp2_with (go_at_call 42; refine cR.mono ?_; rintro e w4 ⟨rfl, H4⟩; clear cR)
    go_loopw [48, 11] (fun i s wr => ∃ (k : Nat) (xt : Option Addr) (nt ct : Nat), k ≤ want ∧ i = .int .i64 k ∧ s = .slice xt nt ct ∧ nt ≤ k ∧ Hid (Ci wc wr L 1 want y (wc.heap.size + 1) k xt nt ct)) (fun i _ _ => want - (intOf i).toNat)
    case atStart =>
      refine ⟨0, none, 0, 0, by omega, rfl, rfl, by omega, on HBE.out (by have := H4.out.1; rwa [← hsE] at this), ?_, Own.nil _ _ _ _ _, fun e => by cases e⟩
      rw [lst_zero]
      exact own_low H4.out.2 (by omega)
    case round =>
      clear H4 q0 q1
      obtain ⟨k, xt, nt, ct, hk, rfl, rfl, hnt, HR⟩ := hrel
      obtain ⟨i1, i2, i3, i4⟩ := HR.out
      have hn1 := form_slice i3
      by_cases hlt : k < want
      · have hkn : (k : Int) < (want : Int) := by omega
        by_cases hfull : nt = R
        · have e1 : ((nt : Int) == (R : Int)) = true := by simp; omega
          have HF := hid hfull
          clear hfull
          go_wp2_with fail
          go_ret2
          refine ⟨_, _, rfl, on HBW.out i1, ?_⟩
          rw [← lst_full HNN.out (by omega) (by rw [hn1, HF.out, HRR.out])]
          exact own_low i2 HBW.out.size
        · have e1 : ((nt : Int) == (R : Int)) = false := by simp; omega
          obtain ⟨S, hS, hBr⟩ := HC.out.2.2.2
          have cF := find_0 (BrAt.below i1 3 v S hBr) (own_nu i3) (by omega) hy want k h32 (by omega)
          rw [fnd_perm hS] at cF
          have n0 := keep i1 HC.out.2.1
          have n1 := keep i1 HC.out.2.2.1
          have n2 := keep i1 Hq.out.1
          have n3 := keep i1 Hq.out.2
          have HI := hid (And.intro i1 (And.intro i2 (And.intro i3 (And.intro i4 hn1))))
          clear i1 i2 i3 i4 hn1 hS hBr HR hfull
          unfold vB at cF
          cases hc : fnd (fT L want y k) 1 (tk 1 (chO L 1 want y k)) 50 with
          | none =>
            rw [hc] at cF
            unfold outPa at cF
            rw [noPa_eq] at cF
            dsimp only at cF
            have HE := hid hc
            clear hc
            go_wp2_with (go_at_call 43; refine cF.mono ?_; rintro e w5 ⟨rfl, hb5⟩; clear cF)
            go_roundw
            case rel =>
              have b5 := on hb5 (al w5 (.cells #[.int .i64 0, .int .i64 0, .int .i64 0] 83))
              refine ⟨k + 1, xt, nt, ct, by omega, by go_num, rfl, by omega, on HI.out.1 b5, ?_, ?_, HI.out.2.2.2.1⟩
              · rw [lst_none hlt HE.out]
                exact HI.out.2.1.below b5
              · rw [tk_none HE.out]
                exact HI.out.2.2.1.below b5
            case measure => simp [intOf]; omega
          | some p =>
            rw [hc] at cF
            obtain ⟨rk, ho, id⟩ := p
            unfold outPa vPa at cF
            dsimp only at cF
            have HE := hid hc
            clear hc
            go_wp2_with (first
              | (
                go_at_call 43
                refine cF.mono ?_
                rintro e w5 ⟨rfl, hb5⟩
                clear cF
                have n4 := keep hb5 n2
                have o5 := HI.out.2.1.below hb5
                have s5 : w5.cell? ⟨wc.heap.size + 1, k, none⟩ = some (.int .i64 ((lst L 1 want y k).getD k 0)) := by
                  have hl := lst_len L 1 want y hk
                  have := o5.cell irow.len (k := k) (a := (lst L 1 want y k).getD k 0) (by rw [List.getD_eq_getElem?_getD, List.getElem?_eq_getElem (by omega)]; rfl) (j := 0) rfl
                  rwa [Nat.mul_one, Nat.add_zero] at this
                have f5 := o5.frozen (k := k)
                have h5 := cell_lt' s5
                have h4 := cell_lt' n4
                have t5 : Turns (fun j => j = wc.heap.size + 1) w5 (w5.setCell ⟨wc.heap.size + 1, k, none⟩ (.int .i64 id)) := turns_put (Turns.refl _ w5) k _
                have oC := own_setI o5 k id
                have oT := (HI.out.2.2.1.below hb5).turns t5 (fun g hg e => HI.out.2.2.2.1 (by rw [← e]; exact hg))
                have bP := al (w5.setCell ⟨wc.heap.size + 1, k, none⟩ (.int .i64 id)) (.cells #[.int .i64 id, .int .i64 ho, .int .i64 rk] 83)
                have hsP : ((w5.setCell ⟨wc.heap.size + 1, k, none⟩ (.int .i64 id)).alloc (.cells #[.int .i64 id, .int .i64 ho, .int .i64 rk] 83)).heap.size = w5.heap.size + 1 := by simp
                have hsS : (w5.setCell ⟨wc.heap.size + 1, k, none⟩ (.int .i64 id)).heap.size = w5.heap.size := by simp
                have z1 := (on HI.out.1 hb5).size
                obtain ⟨x7, c7, w7, hap, H7⟩ := push_z (oT.below bP) id (by have := HI.out.2.2.2.2; omega) (by omega)
                rw [hsP, HI.out.2.2.2.2] at hap
                rw [HI.out.2.2.2.2] at H7
                have HO5 := hid (And.intro oC (And.intro bP (And.intro t5 (And.intro hsP (And.intro hsS (And.intro hb5 (oT.below bP)))))))
                clear o5 oC oT bP hsP hsS t5)
              | (at_builtin; refine Lib.wpList_append_run _ rfl _ _ _ _ rfl _ _ rfl rfl _ _ hap ?_))
            go_roundw
            case rel =>
              obtain ⟨oC, bP, t5, hsP, hsS, hb5, oT⟩ := HO5.out
              obtain ⟨p1, p2, p3⟩ := H7.out
              have b6 : Below wc.heap.size wc ((w5.setCell ⟨wc.heap.size + 1, k, none⟩ (.int .i64 id)).alloc (.cells #[.int .i64 id, .int .i64 ho, .int .i64 rk] 83)) := ((on HI.out.1 hb5).trans (t5.below (fun j e => by omega) (by omega))).trans (bP.mono (by omega))
              refine ⟨k + 1, x7, nt + 1, c7, by omega, by go_num, rfl, by omega, b6.trans (p2.below (fun j e => (oT.tb e).1) (by omega)), ?_, ?_, fun e => ?_⟩
              · rw [lst_some hlt HE.out]
                exact (oC.below bP).turns p2 (fun g hg e => by
                  simp [Value.ownBlock] at hg
                  subst hg
                  exact HI.out.2.2.2.1 e)
              · rw [tk_some HE.out]
                exact p1
              · rcases p3 _ e with q | q
                · exact HI.out.2.2.2.1 q
                · omega
            case measure => simp [intOf]; omega
      · have hk2 : k = want := by omega
        subst hk2
        go_wp2_with fail
        go_ret2
        refine ⟨_, _, rfl, on HBW.out i1, ?_⟩
        rw [← lst_all]
        exact own_low i2 HBW.out.size

end Go.Proofs.Ythlfmbijagpggaa.Cr
