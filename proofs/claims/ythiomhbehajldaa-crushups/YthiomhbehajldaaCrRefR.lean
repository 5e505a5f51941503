/-
  The document's Descend and Room; lists of int compared.
  Conditions: the map lies in memory; numbers of 32 bits.
-/
import Derived.Test.YthiomhbehajldaaByHk
import Derived.Test.YthiomhbehajldaaCrRefD
import Derived.Test.YthiomhbehajldaaCrTop
import Derived.Test.YthiomhbehajldaaAtRefMay
namespace Go.Proofs.Ythiomhbehajldaa.Cr
open Go.RowKit By Fl At
open Sr (Wd Ws enW)
set_option linter.unusedVariables false
set_option linter.unusedSimpArgs false
set_option maxRecDepth 100000

set_option maxHeartbeats 1600000 in
theorem rdescend_any {w : World} {x : Option Addr} {n c : Nat} (m : Mp) (h : At.Os w x n c m.osds) (y r : Nat) (hy : y < 4294967296) (hr : r < 4294967296) :
    Calls Try.prog 8 #[vM m.ep m.pool x n c, .int .u32 (y : Nat), .int .u32 (r : Nat)] w fun e w' => e = .returned (.int .i64 (desP m y r)) ∧ Below w.heap.size w w' := by
  obtain ⟨w0, hw0⟩ : ∃ w0, w0 = w.alloc (.cells #[.int .i64 m.ep, .int .i64 m.pool.k, .int .i64 m.pool.m, .int .i64 m.pool.pgs, .int .i64 m.pool.dom, .slice x n c] 26) := ⟨_, rfl⟩
  have b0 : Below w.heap.size w w0 := by rw [hw0]; exact al _ _
  have q5 : w0.cell? ⟨w.heap.size, 5, none⟩ = some (.slice x n c) := by rw [hw0]; go_simp
  have cC := rmay_any m (h.below b0)
  have HO := hid h
  have HB := hid b0
  have HW := hid hw0
  rw [hw0] at cC
  unfold vM at cC ⊢
  cases hm : mayM m with
  | false =>
    rw [hm] at cC
    rw [show desP m y r = -1 by unfold desP; rw [hm]; rfl]
    clear h b0 hw0 hm q5
    go_enter Try.func8, Try.ntmps8
    go_wp2_with (go_at_call 12; refine cC.mono ?_; rintro e w1 ⟨rfl, hb1⟩; rw [← HW.out] at hb1; clear cC)
    go_ret
    exact ⟨rfl, on HB.out hb1⟩
  | true =>
    rw [hm] at cC
    obtain ⟨f1, f2, f3⟩ := may_facts hm
    have HT : Hid (∀ W, Below w.heap.size w W → Calls Try.prog 21 #[.slice x n c, .int .u32 (y : Nat), .int .u32 (r : Nat)] W fun e w' => Hid (RD m.osds y r e) ∧ Below W.heap.size W w') := fun W hb => rdesc_any (HO.out.below hb) (by rw [← HO.out.len]; exact f1) f3 y r hy hr
    rw [show desP m y r = idP (dsc m.osds y r) by unfold desP; rw [hm]; rfl]
    clear h b0 hw0 hm f1 f2 f3
    go_enter Try.func8, Try.ntmps8
    go_wp2_with (go_at_call 12; refine cC.mono ?_; rintro e w1 ⟨rfl, hb1⟩; rw [← HW.out] at hb1; clear cC; have t5 := keep hb1 q5; have cT := HT.out w1 (on HB.out hb1))
    go_at_call 21
    refine cT.mono ?_
    rintro e w2 ⟨H2, hb2⟩
    clear cT HT
    rcases H2.out with ⟨h1, rfl⟩ | ⟨p, o, h1, h2, h3, h4, h5, rfl⟩
    · have HE := hid h1
      clear h1 H2
      unfold vO noO
      go_wp2_with fail
      go_ret
      exact ⟨by rw [HE.out]; rfl, on HB.out (on hb1 (on hb2 (al _ _)))⟩
    · have HE := hid (And.intro h1 h5)
      clear h1 h2 h3 h4 h5 H2
      obtain ⟨m0, m1, m2, m3, m4, m5, m6, m7⟩ := o
      unfold vO
      dsimp only at HE ⊢
      go_wp2_with fail
      go_ret
      exact ⟨by rw [HE.out.1]; show _ = Ending.returned (.int .i64 p.id); rw [← HE.out.2]; rfl, on HB.out (on hb1 (on hb2 (al _ _)))⟩

theorem rm_eq (d : Nat) (L : List Osd) : rm d L = ((wg d L).filter okW).length := by
  unfold rm pos
  rw [List.length_map]

set_option maxHeartbeats 1600000 in
theorem rroom_any {w : World} {x : Option Addr} {n c : Nat} (m : Mp) (h : At.Os w x n c m.osds) (z : Int) :
    Calls Try.prog 10 #[vM m.ep m.pool x n c, .int .i64 z] w fun e w' => e = .returned (.int .i64 (roomP m z)) ∧ Below w.heap.size w w' := by
  obtain ⟨w0, hw0⟩ : ∃ w0, w0 = w.alloc (.cells #[.int .i64 m.ep, .int .i64 m.pool.k, .int .i64 m.pool.m, .int .i64 m.pool.pgs, .int .i64 m.pool.dom, .slice x n c] 26) := ⟨_, rfl⟩
  have b0 : Below w.heap.size w w0 := by rw [hw0]; exact al _ _
  have q5 : w0.cell? ⟨w.heap.size, 5, none⟩ = some (.slice x n c) := by rw [hw0]; go_simp
  have cC := rmay_any m (h.below b0)
  have HO := hid h
  have HB := hid b0
  have HW := hid hw0
  rw [hw0] at cC
  unfold vM at cC ⊢
  cases hm : mayM m with
  | false =>
    rw [hm] at cC
    rw [show roomP m z = 0 by unfold roomP; rw [hm]; simp]
    clear h b0 hw0 hm q5
    go_enter Try.func10, Try.ntmps10
    go_wp2_with (go_at_call 12; refine cC.mono ?_; rintro e w1 ⟨rfl, hb1⟩; rw [← HW.out] at hb1; clear cC)
    go_ret
    exact ⟨rfl, on HB.out hb1⟩
  | true =>
    rw [hm] at cC
    obtain ⟨f1, f2, f3⟩ := may_facts hm
    by_cases hz0 : z < 0
    · rw [show roomP m z = 0 by unfold roomP domB; rw [if_neg]; simp; omega]
      clear h b0 hw0 hm q5
      go_enter Try.func10, Try.ntmps10
      go_wp2_with (go_at_call 12; refine cC.mono ?_; rintro e w1 ⟨rfl, hb1⟩; rw [← HW.out] at hb1; clear cC)
      go_ret
      exact ⟨rfl, on HB.out hb1⟩
    · by_cases hz3 : 3 ≤ z
      · rw [show roomP m z = 0 by unfold roomP domB; rw [if_neg]; simp; omega]
        clear h b0 hw0 hm q5
        go_enter Try.func10, Try.ntmps10
        go_wp2_with (go_at_call 12; refine cC.mono ?_; rintro e w1 ⟨rfl, hb1⟩; rw [← HW.out] at hb1; clear cC)
        go_ret
        exact ⟨rfl, on HB.out hb1⟩
      · have cD := fun W => rdomain_any z W (by omega) (by omega)
        have HT : Hid (∀ W, Below w.heap.size w W → Calls Try.prog 24 #[.slice x n c, .int .i64 (3 - z)] W fun e w' => ∃ (x' : Option Addr) (n' c' : Nat), e = .returned (.slice x' n' c') ∧ Hid (Ws w' x' n' c' (wg (z + 1).toNat m.osds) ∧ Below W.heap.size W w')) := fun W hb => by
          have := weighed_any (HO.out.below hb) (by rw [← HO.out.len]; exact f1) f3 (3 - z)
          rw [show (4 - (3 - z)).toNat = (z + 1).toNat by omega] at this
          exact this
        have hroom : roomP m z = (((wg (z + 1).toNat m.osds).filter okW).length : Nat) := by
          unfold roomP
          rw [if_pos ⟨hm, by unfold domB; simp; omega⟩, rm_eq]
        have HWl : Hid ((wg (z + 1).toNat m.osds).length ≤ 64) := Nat.le_trans (wg_len _ _) f1
        rw [hroom]
        clear h b0 hw0 hm hroom f1 f2 f3
        generalize wg (z + 1).toNat m.osds = W0 at *
        go_enter Try.func10, Try.ntmps10
        go_wp2_with (go_at_call 12; refine cC.mono ?_; rintro e w1 ⟨rfl, hb1⟩; rw [← HW.out] at hb1; clear cC)
        have bD : Below w1.heap.size w1 w1.drew := (Below.refl _ _).drew
        have t5 := keep bD (keep hb1 q5)
        have HB1 := hid (on HB.out (on hb1 bD))
        clear q5 bD
        refine wp_region_held_drew (S := fun v => v.cell? ⟨w.heap.size, 5, none⟩ = some (.slice x n c)) (by kernel_rfl) t5 (fun hHeld => ?_)
        generalize w1.drew = wD at *
        refine By.hk 0 ?_
        refine By.hk 1 ?_
        refine By.hk 2 ?_
        refine wpAnyH_ready (rs := [3]) (by kernel_rfl) (by simp) ?_
        refine AllReadyH.cons rfl (fun K hK => ?_) AllReadyH.nil
        go_simp
        refine (cD _).mono ?_
        rintro e w2 ⟨rfl, hw2⟩
        subst w2
        refine hK.out _ _ hHeld (fun hHeld => ?_)
        clear hK K
        refine wpAnyH_ready (rs := [4]) (by kernel_rfl) (by simp) ?_
        refine AllReadyH.cons rfl (fun K hK => ?_) AllReadyH.nil
        go_simp
        refine (HT.out wD HB1.out).mono ?_
        rintro e w3 ⟨xg, ng, cg, rfl, H3⟩
        have t6 := keep H3.out.2 t5
        refine hK.out _ _ t6 (fun hHeld => ?_)
        clear hK K
        refine By.hk 5 ?_
        refine wpAnyH_done (by kernel_rfl) ?_ _
        have hng := H3.out.1.len
        have HNG := hid hng
        have hng64 : ng ≤ 64 := by have := HWl.out; omega
        clear hng t5 t6 hHeld HT cD
        go_wp2_with fail
        go_loop [7, 5] (fun i s => ∃ (k C : Nat), k ≤ ng ∧ i = .int .i64 k ∧ s = .int .i64 (C : Nat) ∧ C ≤ k ∧ Hid (((W0.take k).filter okW).length = C)) (fun i _ => ng - (intOf i).toNat)
        case atStart => exact ⟨0, 0, by omega, rfl, rfl, by omega, rfl⟩
        case round =>
          obtain ⟨k, C, hk, rfl, rfl, hC, HR⟩ := hrel
          by_cases hlt : k < ng
          · have hkn : (k : Int) < (ng : Int) := by omega
            obtain ⟨a, ha⟩ : ∃ a, W0[k]? = some a := ⟨W0[k]'(by have := HNG.out; omega), List.getElem?_eq_getElem (by have := HNG.out; omega)⟩
            rcases H3.out.1.row with q0 | ⟨gb, go, rfl, hgl, hgc⟩
            · omega
            have g1 := (hgc k a ha).2
            by_cases hp : 0 < a.wt
            · have e1 : ((W0.take (k + 1)).filter okW).length = C + 1 := by
                rw [List.take_add_one, ha, List.filter_append, List.length_append, HR.out]
                simp [okW, hp]
              have HE := hid e1
              clear e1 ha hgc
              obtain ⟨aid, awt⟩ := a
              dsimp only at g1 hp
              go_wp2_with fail
              go_round
              case rel => exact ⟨k + 1, C + 1, by omega, by go_num, by go_num, by omega, HE.out⟩
              case measure => simp [intOf]; omega
            · have e1 : ((W0.take (k + 1)).filter okW).length = C := by
                rw [List.take_add_one, ha, List.filter_append, List.length_append, HR.out]
                simp [okW, hp]
              have HE := hid e1
              clear e1 ha hgc
              obtain ⟨aid, awt⟩ := a
              dsimp only at g1 hp
              go_wp2_with fail
              go_round
              case rel => exact ⟨k + 1, C, by omega, by go_num, rfl, by omega, HE.out⟩
              case measure => simp [intOf]; omega
          · have hk2 : k = ng := by omega
            subst hk2
            go_wp2_with fail
            go_ret
            have := HR.out
            rw [← HNG.out, List.take_length] at this
            rw [this]
            exact ⟨rfl, on HB1.out H3.out.2⟩

def eqI (a b : List Int) : Bool := decide (a = b)
set_option maxHeartbeats 1600000 in
theorem ints_any {w : World} {x : Option Addr} {n c : Nat} {l : List Int} {x2 : Option Addr} {n2 c2 : Nat} {l2 : List Int} (h : Nu w x n c l) (h2 : Nu w x2 n2 c2 l2) (hn : n ≤ 1000) :
    Calls Try.prog 16 #[.slice x n c, .slice x2 n2 c2] w fun e w' => e = .returned (.bool (decide (l = l2))) ∧ Below w.heap.size w w' := by
  have HL := hid (And.intro h.len h2.len)
  have H1 := hid h
  have H2 := hid h2
  clear h h2
  by_cases hne : n = n2
  · subst hne
    go_enter Try.func16, Try.ntmps16
    go_wp2_with fail
    go_loopw [5] (fun i wr => ∃ k : Nat, k ≤ n ∧ i = .int .i64 k ∧ Hid (Below w.heap.size w wr ∧ l.take k = l2.take k)) (fun i _ => n - (intOf i).toNat)
    case atStart => exact ⟨0, by omega, rfl, Below.refl _ _, rfl⟩
    case round =>
      obtain ⟨k, hk, rfl, HR⟩ := hrel
      by_cases hlt : k < n
      · have hkn : (k : Int) < (n : Int) := by omega
        obtain ⟨a, ha⟩ : ∃ a, l[k]? = some a := ⟨l[k]'(by have := HL.out.1; omega), List.getElem?_eq_getElem (by have := HL.out.1; omega)⟩
        obtain ⟨b, hb⟩ : ∃ b, l2[k]? = some b := ⟨l2[k]'(by have := HL.out.2; omega), List.getElem?_eq_getElem (by have := HL.out.2; omega)⟩
        rcases (H1.out.below HR.out.1).row with q0 | ⟨g, o, rfl, hg, hgc⟩
        · omega
        rcases (H2.out.below HR.out.1).row with q0 | ⟨g2, o2, rfl, hg2, hgc2⟩
        · omega
        have p0 := After.cell (hgc k a ha)
        have p1 := After.cell (hgc2 k b hb)
        haveI := After.ne wr
        have HE := hid (And.intro ha hb)
        clear ha hb hgc hgc2
        by_cases hab : a = b
        · have e1 : (a != b) = false := by simpa using hab
          have HA := hid hab
          clear hab
          go_wp2_with fail
          refine wp_region_after (by kernel_rfl) (by kernel_rfl) ?_
          repeat (go_big_quiet_step (fail))
          refine wpQuiet_nil ?_
          rintro _ ⟨P, rfl⟩
          go_wp2_with fail
          go_roundw
          case rel =>
            refine ⟨k + 1, by omega, by go_num, on HR.out.1 P.h, ?_⟩
            rw [List.take_add_one, List.take_add_one, HR.out.2, HE.out.1, HE.out.2, HA.out]
          case measure => simp [intOf]; omega
        · have e1 : (a != b) = true := by simpa using hab
          have HA := hid hab
          clear hab
          go_wp2_with fail
          refine wp_region_after (by kernel_rfl) (by kernel_rfl) ?_
          repeat (go_big_quiet_step (fail))
          refine wpQuiet_nil ?_
          rintro _ ⟨P, rfl⟩
          go_wp2_with fail
          go_ret
          refine ⟨?_, on HR.out.1 P.h⟩
          rw [decide_eq_false fun e => HA.out (Option.some.inj (by rw [← HE.out.1, ← HE.out.2, e]))]
          rfl
      · have hk2 : k = n := by omega
        subst hk2
        go_wp2_with fail
        go_ret
        refine ⟨?_, HR.out.1⟩
        have e1 := HR.out.2
        rw [List.take_of_length_le (by have := HL.out.1; omega), List.take_of_length_le (by have := HL.out.2; omega)] at e1
        rw [decide_eq_true e1]
        rfl
  · have e1 : ((n : Int) != (n2 : Int)) = true := by simp; omega
    have HN := hid hne
    clear hne
    go_enter Try.func16, Try.ntmps16
    go_wp2_with fail
    go_ret
    refine ⟨?_, Below.refl _ _⟩
    rw [decide_eq_false fun e => HN.out (by rw [← HL.out.1, ← HL.out.2, e])]
    rfl

end Go.Proofs.Ythiomhbehajldaa.Cr
