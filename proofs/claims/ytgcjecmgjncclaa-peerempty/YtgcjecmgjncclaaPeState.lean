/-
  The document's state: the greatest that enough have, and of whom.
  Conditions: the lists lie in memory.
-/
import Derived.Test.YtgcjecmgjncclaaPeIns
import Derived.Test.YtgcjecmgjncclaaPeSame
import Derived.Test.YtgcjecmgjncclaaPeRef1
import Derived.Deep.Cut
namespace Go.Proofs.Ytgcjecmgjncclaa.Pe
open Go.RowKit By Fl Pz
set_option linter.unusedVariables false
set_option linter.unusedSimpArgs false
set_option maxRecDepth 100000
attribute [local go_sem] Oper.semAt_some

theorem best_drop {H : List Int} {k h : Int} {t : Nat} {b : Option Int} (e : H[t]? = some h) : bestF H k (H.drop t) b = bestF H k (H.drop (t + 1)) (if k ≤ (atLeast H h : Int) ∧ (b.isNone = true ∨ b.getD 0 < h) then some h else b) := by
  rw [drop_at e]
  rfl
theorem at_step {H : List Int} {h a : Int} {j : Nat} (e : H[j]? = some a) : ((H.take (j + 1)).filter fun g => decide (h ≤ g)).length = ((H.take j).filter fun g => decide (h ≤ g)).length + if h ≤ a then 1 else 0 := by
  rw [List.take_add_one, e, List.filter_append, List.length_append]
  by_cases q : h ≤ a <;> simp [q]
theorem at_full {H : List Int} {h : Int} {n : Nat} (e : H.length = n) : ((H.take n).filter fun g => decide (h ≤ g)).length = atLeast H h := by
  rw [List.take_of_length_le (by omega)]
  rfl

def zCV : CV := ⟨0, 0, 0, none, 0, 0, []⟩

theorem ccells {w : World} {g : Nat} {a b c d : Value} {t : TypeId} (h : w.heap[g]? = some (.cells #[a, b, c, d] t (0, 0))) : w.cell? ⟨g, 0, none⟩ = some a ∧ w.cell? ⟨g, 1, none⟩ = some b ∧ w.cell? ⟨g, 2, none⟩ = some c ∧ w.cell? ⟨g, 3, none⟩ = some d :=
  ⟨cell_heap h rfl, cell_heap h rfl, cell_heap h rfl, cell_heap h rfl⟩

/- The choice, t of those that have it seen. -/
structure StAt (w2 wr : World) (p : Nat) (since B0 : Int) (P : List (Int × Int)) (t : Nat) (xo : Option Addr) (no co : Nat) (W : List Int) : Prop where
  box : wr.heap[p]? = some (.cells #[.int .i64 3, .int .i64 since, .int .i64 B0, .slice xo no co] 35 (0, 0))
  own : Own wr w2.heap.size 3 1 enN (.slice xo no co) W
  len : W.length = no
  ris : Rising W
  le : no ≤ t
  eq : whoR (P.drop t) B0 W = whoR P B0 []
  tr : Turns (fun k => k = p) w2 wr

theorem who_drop {P : List (Int × Int)} {t : Nat} {a : Int × Int} {b : Int} {W : List Int} (e : P[t]? = some a) : whoR (P.drop t) b W = whoR (P.drop (t + 1)) b (if a.1 < b then W else insR a.2 W) := by
  rw [drop_at e]
  rfl

theorem StAt.below {w2 wr wq : World} {p : Nat} {since B0 : Int} {P : List (Int × Int)} {t : Nat} {xo : Option Addr} {no co : Nat} {W : List Int} (h : StAt w2 wr p since B0 P t xo no co W) (hb : Below wr.heap.size wr wq) : StAt w2 wq p since B0 P t xo no co W :=
  ⟨(hb.block _ (lt_heap h.box)).trans h.box, h.own.below hb, h.len, h.ris, h.le, h.eq, h.tr.trans (Turns.of_below hb)⟩
theorem StAt.skip {w2 wr : World} {p : Nat} {since B0 : Int} {P : List (Int × Int)} {t : Nat} {xo : Option Addr} {no co : Nat} {W : List Int} {a : Int × Int} (h : StAt w2 wr p since B0 P t xo no co W) (e : P[t]? = some a) (hlt : a.1 < B0) : StAt w2 wr p since B0 P (t + 1) xo no co W :=
  ⟨h.box, h.own, h.len, h.ris, Nat.le_succ_of_le h.le, by rw [← h.eq, who_drop e, if_pos hlt], h.tr⟩
theorem StAt.next {w2 wq w7 : World} {p : Nat} {since B0 : Int} {P : List (Int × Int)} {t : Nat} {xo z : Option Addr} {no co cz q : Nat} {W : List Int} {a : Int × Int} (h : StAt w2 wq p since B0 P t xo no co W) (hp : p < w2.heap.size) (e : P[t]? = some a) (hge : ¬ a.1 < B0)
    (hb : w7.heap[p]? = some (.cells #[.int .i64 3, .int .i64 since, .int .i64 B0, .slice xo no co] 35 (0, 0))) (ho : Own w7 wq.heap.size 3 1 enN (.slice z (no + 1) cz) (W.take q ++ [a.2] ++ W.drop q)) (hbl : Below wq.heap.size wq w7) (hi : insR a.2 W = W.take q ++ [a.2] ++ W.drop q) :
    StAt w2 (w7.setCell ⟨p, 3, none⟩ (.slice z (no + 1) cz)) p since B0 P (t + 1) z (no + 1) cz (insR a.2 W) := by
  rw [← hi] at ho
  have hz : w2.heap.size ≤ wq.heap.size := h.tr.size
  have t7 : Turns (fun k => k = p) w7 (w7.setCell ⟨p, 3, none⟩ (.slice z (no + 1) cz)) := turns_put (Turns.refl _ _) _ _
  refine ⟨(heap_set hb _).trans (by rfl), Own.lower (ho.turns t7 fun g hg e => ?_) hz, by rw [ins_len, h.len], ins_ris h.ris, by have := h.le; omega, by rw [← h.eq, who_drop e, if_neg hge], (h.tr.trans (Turns.of_below hbl)).trans t7⟩
  have := (World.ownsRow.lt ho g hg).1
  omega

set_option maxHeartbeats 12800000 in
theorem state_any {w : World} {F G : Nat → Prop} {x y : Option Addr} {n c m d : Nat} {P : List (Int × Int)} (since k : Int) (hh : Ns w F x n c (P.map (·.1))) (hw : Ns w G y m d (P.map (·.2))) :
    Calls Try.prog 27 #[.int .i64 since, .slice x n c, .slice y m d, .int .i64 k] w fun e w' => ∃ v : CV, e = .returned (vC v) ∧ Hid (CAt w' (New w w') v ∧ pC v = { stateC since P k with kind := 3 } ∧ Below w.heap.size w w') := by
  have hmn : n = m := by have := hh.len; have := hw.len; simp at *; omega
  subst hmn
  obtain ⟨H, hH⟩ : ∃ H, H = P.map (·.1) := ⟨_, rfl⟩
  rw [← hH] at hh
  have HH := hid hH
  obtain ⟨w1, hw1⟩ : ∃ w1, w1 = w.alloc (.cells (CCells zCV) 35) := ⟨_, rfl⟩
  have bb := al w (.cells (CCells zCV) 35)
  have g0 := heap_alloc_new w (.cells (CCells zCV) 35)
  rw [← hw1] at bb g0
  have HB := hid bb
  have HG0 := hid g0
  have HA := hid hh
  have HW := hid hw
  have HLn : Hid (H.length = n ∧ (P.map (·.2)).length = n) := hid ⟨hh.len, hw.len⟩
  have hs1 := hh.small
  obtain ⟨BF, hBF⟩ : ∃ BF, BF = best H k := ⟨_, rfl⟩
  have H0 : Hid (bestF H k (H.drop 0) none = BF) := hid hBF.symm
  have HP : Hid ((stateC since P k) = ⟨1, since, BF.getD 0, whoR P (BF.getD 0) []⟩) := hid (by unfold stateC; rw [← hH, ← hBF])
  unfold CCells zCV at hw1
  dsimp only at hw1
  clear hh hw hH bb g0 hBF
  go_enter Try.func27, Try.ntmps27
  go_upto_region 2 with (fail)
  rw [← hw1]
  clear hw1
  go_wp2_with fail
  go_loopw [11, 9, 10] (fun i bv sv wr => ∃ (t : Nat) (b : Option Int), t ≤ n ∧ i = .int .i64 t ∧ bv = .int .i64 (b.getD 0) ∧ sv = .bool b.isSome ∧ Hid (Below w1.heap.size w1 wr ∧ bestF H k (H.drop t) b = BF)) (fun i _ _ _ => n - (intOf i).toNat)
  case atStart => exact ⟨0, none, by omega, rfl, rfl, rfl, Below.refl _ _, H0.out⟩
  case round =>
    obtain ⟨t, b, ht, rfl, rfl, rfl, HR⟩ := hrel
    by_cases htn : t < n
    rotate_left
    · have e1 : n = t := by omega
      subst e1
      have HI : Hid (b = BF) := hid (by
        have := HR.out.2
        rw [List.drop_eq_nil_of_le (by have := HLn.out.1; omega)] at this
        exact this)
      obtain ⟨B0, hB0⟩ : ∃ B0, B0 = b.getD 0 := ⟨_, rfl⟩
      have HP2 : Hid (stateC since P k = ⟨1, since, B0, whoR P B0 []⟩) := hid (by rw [HP.out, hB0, HI.out])
      have HBR := hid (on HB.out HR.out.1)
      have HBQ := hid HR.out.1
      rw [← hB0]
      clear hB0 H0 HP HI HR
      go_upto_region 14 with (fail)
      obtain ⟨p, hp⟩ : ∃ p, p = wr.heap.size := ⟨_, rfl⟩
      obtain ⟨w2, hw2⟩ : ∃ w2, w2 = wr.alloc (.cells #[.int .i64 3, .int .i64 since, .int .i64 B0, .slice none 0 0] 35) := ⟨_, rfl⟩
      have b2 : Below wr.heap.size wr w2 := by rw [hw2]; exact al _ _
      have g2 : w2.heap[p]? = some (.cells #[.int .i64 3, .int .i64 since, .int .i64 B0, .slice none 0 0] 35 (0, 0)) := by rw [hw2, hp]; exact heap_alloc_new _ _
      rw [← hw2, ← hp]
      have HB2 := hid (on HBR.out b2)
      have HPz : Hid (w1.heap.size ≤ p ∧ p < w2.heap.size) := hid ⟨by rw [hp]; exact HBQ.out.size, lt_heap g2⟩
      have HX0 : Hid (StAt w2 w2 p since B0 P 0 none 0 0 []) := hid ⟨g2, Own.nil _ _ _ _ _, rfl, List.Pairwise.nil, Nat.le_refl _, rfl, Turns.refl _ _⟩
      have HGw : Hid (w2.heap[w.heap.size]? = some (.cells (CCells zCV) 35 (0, 0))) := hid ((b2.block _ (Nat.lt_of_lt_of_le (lt_heap HG0.out) HBQ.out.size)).trans ((HBQ.out.block _ (lt_heap HG0.out)).trans HG0.out))
      have HSz : Hid (w.heap.size < w1.heap.size) := hid (lt_heap HG0.out)
      clear hw2 hp b2 g2 HBQ HG0
      go_wp2_with fail
      go_loopw [15] (fun i wr => ∃ t : Nat, t ≤ n ∧ i = .int .i64 t ∧ ∃ xo no co W, Hid (StAt w2 wr p since B0 P t xo no co W)) (fun i _ => n - (intOf i).toNat)
      case atStart => exact ⟨0, by omega, rfl, _, _, _, _, HX0.out⟩
      case round =>
        clear HX0
        obtain ⟨t, htm, rfl, xo, no, co, W, HX⟩ := hrel
        by_cases htm1 : t < n
        rotate_left
        · have e1 : n = t := by omega
          subst e1
          obtain ⟨q0, q1, q2, q3⟩ := ccells HX.out.box
          have HEq : Hid (W = whoR P B0 []) := hid (by
            have := HX.out.eq
            rw [List.drop_eq_nil_of_le (by have := HLn.out.2; simp at this; omega)] at this
            exact this)
          have hgr := (HX.out.tr.block w.heap.size (Nat.lt_of_lt_of_le HSz.out (Nat.le_trans HPz.out.1 (Nat.le_of_lt HPz.out.2))) (fun e => by have := HSz.out; have := HPz.out.1; omega)).trans HGw.out
          unfold CCells zCV at hgr
          dsimp only at hgr
          obtain ⟨r0, r1, r2, r3⟩ := ccells hgr
          have f0 := fr_heap hgr 0
          have f1 := fr_heap hgr 1
          have f2 := fr_heap hgr 2
          have f3 := fr_heap hgr 3
          clear hgr
          go_wp2_with fail
          refine bodyPost_ret (v := vC ⟨3, since, B0, xo, no, co, W⟩) ?_ rfl ?_
          · rw [results_cell1 rfl]
            unfold vC
            go_simp
          · have tE : ∀ (v0 v1 v2 v3 : Value), Turns (fun k => k = w.heap.size) wr ((((wr.setCell ⟨w.heap.size, 0, none⟩ v0).setCell ⟨w.heap.size, 1, none⟩ v1).setCell ⟨w.heap.size, 2, none⟩ v2).setCell ⟨w.heap.size, 3, none⟩ v3) := fun _ _ _ _ => turns_put (turns_put (turns_put (turns_put (Turns.refl _ _) _ _) _ _) _ _) _ _
            have hz := HX.out.tr.size
            have hz2 := HB2.out.size
            have hw2z := HPz.out
            have hs1 := HSz.out
            have ow := HX.out.own.turns (tE (.int .i64 3) (.int .i64 since) (.int .i64 B0) (.slice xo no co)) (fun g hg e => by have := (World.ownsRow.lt HX.out.own g hg).1; omega)
            refine ⟨⟨3, since, B0, xo, no, co, W⟩, rfl, hid ⟨own_lis nrow ow (show W.length ≤ 17592186043904 by have := HX.out.len; have := HX.out.le; omega) (fun g hg => ⟨by have := (World.ownsRow.lt ow g hg).1; omega, (World.ownsRow.lt ow g hg).2⟩) (fun _ _ => trivial), ?_, ?_⟩⟩
            · show (⟨3, since, B0, W⟩ : Cho) = _
              rw [HP2.out, HEq.out]
            · exact (HB2.out.trans (HX.out.tr.below (fun q e => by omega) hz2)).trans ((tE _ _ _ _).below (fun q e => by omega) (by omega))
        have htn : t < n := by omega
        have htn2 : (t : Int) < (n : Int) := by omega
        obtain ⟨pr, hpr⟩ : ∃ pr, P[t]? = some pr := ⟨_, List.getElem?_eq_getElem (by have := HLn.out.2; simp at this; omega)⟩
        have hd : H[t]? = some pr.1 := by rw [HH.out, List.getElem?_map, hpr]; rfl
        have hd2 : (P.map (·.2))[t]? = some pr.2 := by rw [List.getElem?_map, hpr]; rfl
        rcases HA.out.row with hr0 | ⟨bl, oh, hx, hbl, _, hc⟩
        · omega
        rcases HW.out.row with hr0 | ⟨bw, ow, hy, hbw, _, hc2⟩
        · omega
        have k0 := n_at hc hd
        have k1 := n_at hc2 hd2
        subst hx hy
        have hbr : Below w.heap.size w wr := HB2.out.trans (HX.out.tr.below (fun q e => by have := HPz.out; have := HSz.out; omega) HB2.out.size)
        have HBr := hid hbr
        have r0 := keep hbr k0
        have HK1 := hid k1
        have HPr := hid hpr
        have HWl : Hid (∀ j, j < no → ∃ a, W[j]? = some a) := hid fun j hj => ⟨_, List.getElem?_eq_getElem (by have := HX.out.len; omega)⟩
        have HNo := hid HX.out.le
        have hno : no ≤ t := HX.out.le
        clear hbr hc hc2 hd hd2 hbl hbw k0 k1 hpr
        obtain ⟨hd, o⟩ := pr
        dsimp only at r0 HK1
        by_cases hlt : hd < B0
        · have HE := hid (HX.out.skip HPr.out hlt)
          go_wp2_with fail
          go_roundw
          case rel => exact ⟨t + 1, by omega, by go_num, _, _, _, _, HE.out⟩
          case measure => simp [intOf]; omega
        have HGe := hid hlt
        obtain ⟨q0, q1, q2, q3⟩ := ccells HX.out.box
        clear q0 q1 q2
        obtain ⟨wo, hwo⟩ : ∃ wo, wo = wr := ⟨_, rfl⟩
        subst hwo
        go_wp2_with fail
        clear q3
        go_loopw [16] (fun a wr => ∃ q : Nat, q ≤ no ∧ a = .int .i64 q ∧ Hid (Below wo.heap.size wo wr ∧ ∀ (j : Nat) (b : Int), q ≤ j → W[j]? = some b → o < b)) (fun a _ => (intOf a).toNat)
        case atStart => exact ⟨no, by omega, rfl, Below.refl _ _, fun j b hj hb => by have := (List.getElem?_eq_some_iff.1 hb).1; have := HX.out.len; omega⟩
        case round =>
          obtain ⟨q, hq, rfl, HQ⟩ := hrel
          have HXq : Hid (StAt w2 wr p since B0 P t xo no co W) := hid ⟨(HQ.out.1.block _ (lt_heap HX.out.box)).trans HX.out.box, HX.out.own.below HQ.out.1, HX.out.len, HX.out.ris, HX.out.le, HX.out.eq, HX.out.tr.trans (Turns.of_below HQ.out.1)⟩
          have s1 := keep (on HBr.out HQ.out.1) HK1.out
          have s3 := cell_heap (j := 3) HXq.out.box rfl
          haveI := After.ne wr
          have p1 := After.cell s1
          have p3 := After.cell s3
          clear s1 s3
          by_cases hqp2 : 0 < q
          rotate_left
          · have hqn : ¬ (0 : Int) < (q : Int) := by omega
            have HStop : Hid (insR o W = W.take q ++ [o] ++ W.drop q) := hid (ins_stop HX.out.ris (by have := HX.out.len; omega) HQ.out.2 (.inl (by omega)))
            go_wp2_with fail
            refine wp_region_after (by kernel_rfl) (by kernel_rfl) ?_
            repeat (go_big_quiet_step (simp only [hqn]))
            refine wpQuiet_nil ?_
            rintro _ ⟨Z, rfl⟩
            go_upto_region 21 with (fail)
            obtain ⟨wq, hwq⟩ : ∃ wq, wq = Z.W := ⟨_, rfl⟩
            have bz : Below wr.heap.size wr wq := by rw [hwq]; exact Z.h
            rw [← hwq]
            clear hwq
            have HXw : Hid (StAt w2 wq p since B0 P t xo no co W) := hid (HXq.out.below bz)
            have HL : Hid (∀ X, Below wq.heap.size wq X → Ns X (fun _ => True) xo no co W) := hid fun X hX => own_lis nrow (HXw.out.own.below hX) (by have := HXw.out.len; omega) (fun _ _ => trivial) (fun _ _ => trivial)
            have HS : Hid (∀ X, Below wq.heap.size wq X → X.cell? ⟨p, 3, none⟩ = some (.slice xo no co) ∧ X.cell? ⟨bw, ow + t, none⟩ = some (.int .i64 o)) := hid fun X hX => ⟨keep hX (cell_heap HXw.out.box rfl), keep (on HBr.out (on HQ.out.1 (on bz hX))) HK1.out⟩
            have hlq : (W.take q).length = q := by rw [List.length_take]; have := HXw.out.len; omega
            have hl3 : (W.take q ++ [o]).length = q + 1 := by rw [List.length_append, hlq]; rfl
            have hl4 : q + 1 + (no - q) = no + 1 := by omega
            have hco : q ≤ co := by have := (HL.out wq (Below.refl _ _)).le; omega
            have hcut1 := fun V => icut_head xo no co q V hco
            have hcut2 := fun V => icut_from xo no co q V hq
            clear p1 p3 bz
            have bD : Below wq.heap.size wq wq.drew := (Below.refl _ _).drew
            have S1 := HS.out _ bD
            refine wp_region_tail (fun W => W.cell? ⟨p, 3, none⟩ = some (.slice xo no co) ∧ W.cell? ⟨bw, ow + t, none⟩ = some (.int .i64 o)) [17, 18] (by kernel_rfl) S1 (fun hS => ?_)
            have HBD := hid bD
            clear S1 bD
            generalize wq.drew = wD at *
            refine By.tk 1 ?_
            refine By.tk 2 ?_
            refine By.tk 3 ?_
            refine By.tk 4 ?_
            refine By.tk 6 ?_
            refine By.tk 7 ?_
            refine By.tk 8 ?_
            refine By.tk 9 ?_
            refine By.tk 12 ?_
            refine By.tk 13 ?_
            refine By.tk 14 ?_
            refine By.tk 15 ?_
            clear hS hcut1 hcut2
            refine wpAnyT_two (i := 0) (j := 10) (by kernel_rfl) rfl rfl (fun K hK => ?_) (fun K hK => ?_)
            · go_simp
              have b1 := on HBD.out (al wD (.cells #[] 3))
              have o1 : Own (wD.alloc (.cells #[] 3)) wq.heap.size 3 1 enN (.slice (some ⟨wD.heap.size, 0, none⟩) 0 0) [] := Own.empty wD HBD.out.size _ _ _
              refine hK.out _ _ (fun _ => HS.out _ b1) ?_
              clear hK K
              refine wpAnyT_two (i := 5) (j := 10) (by kernel_rfl) rfl rfl (fun K hK => ?_) (fun K hK => ?_)
              · obtain ⟨y1, cy1, w5, hap4, o2, t2⟩ := app_all nrow (Lis.take (HL.out _ b1) hq) o1 b1.size (by omega)
                have b2 := b1.trans (t2.below (fun q hq => (World.ownsRow.lt o1 q hq).1) b1.size)
                refine st_append rfl _ _ 22 rfl _ _ rfl rfl hap4 ?_
                (try simp only [Act.put, List.getElem_toArray, List.getElem_cons_succ, List.getElem_cons_zero, List.setIfInBounds_toArray, List.set_cons_zero, List.set_cons_succ])
                refine hK.out _ _ (fun _ => HS.out _ b2) ?_
                clear hK K
                have b3 := on b2 (al w5 (.cells #[.int .i64 o] 3))
                have l3 := heap_alloc_new w5 (.cells #[.int .i64 o] 3)
                have o3 := o2.below (al w5 (.cells #[.int .i64 o] 3))
                refine wpAnyT_one (i := 10) (by kernel_rfl) rfl (fun K hK => ?_)
                go_simp
                refine hK.out _ _ (fun _ => HS.out _ b3) ?_
                clear hK K
                obtain ⟨z, cz, w6, hap5, o5, t5⟩ := app_one (a := o) nrow o3 b3.size l3 rfl (by rw [hlq]; omega) (by rw [hlq]; omega)
                rw [hlq] at hap5 o5
                have b5 := b3.trans (t5.below (fun q hq => (World.ownsRow.lt o3 q hq).1) b3.size)
                refine wpAnyT_one (i := 11) (by kernel_rfl) rfl (fun K hK => ?_)
                refine st_append rfl _ _ 22 rfl _ _ rfl rfl hap5 ?_
                (try simp only [Act.put, List.getElem_toArray, List.getElem_cons_succ, List.getElem_cons_zero, List.setIfInBounds_toArray, List.set_cons_zero, List.set_cons_succ])
                refine hK.out _ _ (fun _ => HS.out _ b5) ?_
                clear hK K
                obtain ⟨z2, cz2, w7, hap6, o6, t6⟩ := app_more nrow (Lis.drop (HL.out _ b5) q hq) o5 b5.size (by rw [hl3]; omega) (by rw [hl3]; omega)
                rw [hl3, hl4] at hap6 o6
                have b6 := b5.trans (t6.below (fun q hq => (World.ownsRow.lt o5 q hq).1) b5.size)
                refine wpAnyT_one (i := 16) (by kernel_rfl) rfl (fun K hK => ?_)
                refine st_append rfl _ _ 22 rfl _ _ rfl rfl hap6 ?_
                (try simp only [Act.put, List.getElem_toArray, List.getElem_cons_succ, List.getElem_cons_zero, List.setIfInBounds_toArray, List.set_cons_zero, List.set_cons_succ])
                refine hK.out _ _ (fun _ => HS.out _ b6) ?_
                clear hK K
                have hg8 := (b6.block p (lt_heap HXw.out.box)).trans HXw.out.box
                have q8 := cell_heap (j := 3) hg8 rfl
                have f8 := fr_heap hg8 3
                have HFin := hid (And.intro hg8 (And.intro o6 b6))
                clear hap4 hap5 hap6 hg8 o1 o2 o3 t2 b1 b2 b3 l3 o5 o6 t5 t6 b5 b6
                refine wpAnyT_one (i := 17) (by kernel_rfl) rfl (fun K hK => ?_)
                go_simp
                refine hK.out _ _ (fun h => absurd (by decide) h) ?_
                clear hK K
                refine wpAnyT_one (i := 18) (by kernel_rfl) rfl (fun K hK => ?_)
                go_simp
                refine hK.out _ _ (fun h => absurd (by decide) h) ?_
                clear hK K
                refine wpAnyT_done (by kernel_rfl) ?_ _
                clear q8 f8
                go_wp2_with fail
                go_roundw
                case rel => exact ⟨t + 1, by omega, by go_num, _, _, _, _, HXw.out.next HPz.out.2 HPr.out (Int.not_lt.2 HGe.out) HFin.out.1 HFin.out.2.1 HFin.out.2.2 HStop.out⟩
                case measure => simp [intOf]; omega
              · go_simp
                have b2 := on b1 (al (wD.alloc (.cells #[] 3)) (.cells #[.int .i64 o] 3))
                have l2 := heap_alloc_new (wD.alloc (.cells #[] 3)) (.cells #[.int .i64 o] 3)
                rw [show (wD.alloc (.cells #[] 3)).heap.size = wD.heap.size + 1 by simp] at l2
                have o2 := o1.below (al (wD.alloc (.cells #[] 3)) (.cells #[.int .i64 o] 3))
                refine hK.out _ _ (fun _ => HS.out _ b2) ?_
                clear hK K
                obtain ⟨y1, cy1, w5, hap4, o3, t3⟩ := app_all nrow (Lis.take (HL.out _ b2) hq) o2 b2.size (by omega)
                have b3 := b2.trans (t3.below (fun q hq => (World.ownsRow.lt o2 q hq).1) b2.size)
                refine wpAnyT_one (i := 5) (by kernel_rfl) rfl (fun K hK => ?_)
                refine st_append rfl _ _ 22 rfl _ _ rfl rfl hap4 ?_
                (try simp only [Act.put, List.getElem_toArray, List.getElem_cons_succ, List.getElem_cons_zero, List.setIfInBounds_toArray, List.set_cons_zero, List.set_cons_succ])
                refine hK.out _ _ (fun _ => HS.out _ b3) ?_
                clear hK K
                have l3 := (t3.block _ (lt_heap l2) (fun e => by simp [Value.ownBlock] at e)).trans l2
                obtain ⟨z, cz, w6, hap5, o5, t5⟩ := app_one (a := o) nrow o3 b3.size l3 rfl (by rw [hlq]; omega) (by rw [hlq]; omega)
                rw [hlq] at hap5 o5
                have b5 := b3.trans (t5.below (fun q hq => (World.ownsRow.lt o3 q hq).1) b3.size)
                refine wpAnyT_one (i := 11) (by kernel_rfl) rfl (fun K hK => ?_)
                refine st_append rfl _ _ 22 rfl _ _ rfl rfl hap5 ?_
                (try simp only [Act.put, List.getElem_toArray, List.getElem_cons_succ, List.getElem_cons_zero, List.setIfInBounds_toArray, List.set_cons_zero, List.set_cons_succ])
                refine hK.out _ _ (fun _ => HS.out _ b5) ?_
                clear hK K
                obtain ⟨z2, cz2, w7, hap6, o6, t6⟩ := app_more nrow (Lis.drop (HL.out _ b5) q hq) o5 b5.size (by rw [hl3]; omega) (by rw [hl3]; omega)
                rw [hl3, hl4] at hap6 o6
                have b6 := b5.trans (t6.below (fun q hq => (World.ownsRow.lt o5 q hq).1) b5.size)
                refine wpAnyT_one (i := 16) (by kernel_rfl) rfl (fun K hK => ?_)
                refine st_append rfl _ _ 22 rfl _ _ rfl rfl hap6 ?_
                (try simp only [Act.put, List.getElem_toArray, List.getElem_cons_succ, List.getElem_cons_zero, List.setIfInBounds_toArray, List.set_cons_zero, List.set_cons_succ])
                refine hK.out _ _ (fun _ => HS.out _ b6) ?_
                clear hK K
                have hg8 := (b6.block p (lt_heap HXw.out.box)).trans HXw.out.box
                have q8 := cell_heap (j := 3) hg8 rfl
                have f8 := fr_heap hg8 3
                have HFin := hid (And.intro hg8 (And.intro o6 b6))
                clear hap4 hap5 hap6 hg8 o1 o2 o3 t3 b1 b2 b3 l2 l3 o5 o6 t5 t6 b5 b6
                refine wpAnyT_one (i := 17) (by kernel_rfl) rfl (fun K hK => ?_)
                go_simp
                refine hK.out _ _ (fun h => absurd (by decide) h) ?_
                clear hK K
                refine wpAnyT_one (i := 18) (by kernel_rfl) rfl (fun K hK => ?_)
                go_simp
                refine hK.out _ _ (fun h => absurd (by decide) h) ?_
                clear hK K
                refine wpAnyT_done (by kernel_rfl) ?_ _
                clear q8 f8
                go_wp2_with fail
                go_roundw
                case rel => exact ⟨t + 1, by omega, by go_num, _, _, _, _, HXw.out.next HPz.out.2 HPr.out (Int.not_lt.2 HGe.out) HFin.out.1 HFin.out.2.1 HFin.out.2.2 HStop.out⟩
                case measure => simp [intOf]; omega
            · go_simp
              have b1 := on HBD.out (al wD (.cells #[.int .i64 o] 3))
              have l1 := heap_alloc_new wD (.cells #[.int .i64 o] 3)
              refine hK.out _ _ (fun _ => HS.out _ b1) ?_
              clear hK K
              have b2 := on b1 (al (wD.alloc (.cells #[.int .i64 o] 3)) (.cells #[] 3))
              have l2 := ((al (wD.alloc (.cells #[.int .i64 o] 3)) (.cells #[] 3)).block _ (lt_heap l1)).trans l1
              have o2 : Own ((wD.alloc (.cells #[.int .i64 o] 3)).alloc (.cells #[] 3)) wq.heap.size 3 1 enN (.slice (some ⟨wD.heap.size + 1, 0, none⟩) 0 0) [] := by have := Own.empty (wD.alloc (.cells #[.int .i64 o] 3)) b1.size 3 1 enN; rw [show (wD.alloc (.cells #[.int .i64 o] 3)).heap.size = wD.heap.size + 1 by simp] at this; exact this
              refine wpAnyT_one (i := 0) (by kernel_rfl) rfl (fun K hK => ?_)
              go_simp
              refine hK.out _ _ (fun _ => HS.out _ b2) ?_
              clear hK K
              obtain ⟨y1, cy1, w5, hap4, o3, t3⟩ := app_all nrow (Lis.take (HL.out _ b2) hq) o2 b2.size (by omega)
              have b3 := b2.trans (t3.below (fun q hq => (World.ownsRow.lt o2 q hq).1) b2.size)
              refine wpAnyT_one (i := 5) (by kernel_rfl) rfl (fun K hK => ?_)
              refine st_append rfl _ _ 22 rfl _ _ rfl rfl hap4 ?_
              (try simp only [Act.put, List.getElem_toArray, List.getElem_cons_succ, List.getElem_cons_zero, List.setIfInBounds_toArray, List.set_cons_zero, List.set_cons_succ])
              refine hK.out _ _ (fun _ => HS.out _ b3) ?_
              clear hK K
              have l3 := (t3.block _ (lt_heap l2) (fun e => by simp [Value.ownBlock] at e)).trans l2
              obtain ⟨z, cz, w6, hap5, o5, t5⟩ := app_one (a := o) nrow o3 b3.size l3 rfl (by rw [hlq]; omega) (by rw [hlq]; omega)
              rw [hlq] at hap5 o5
              have b5 := b3.trans (t5.below (fun q hq => (World.ownsRow.lt o3 q hq).1) b3.size)
              refine wpAnyT_one (i := 11) (by kernel_rfl) rfl (fun K hK => ?_)
              refine st_append rfl _ _ 22 rfl _ _ rfl rfl hap5 ?_
              (try simp only [Act.put, List.getElem_toArray, List.getElem_cons_succ, List.getElem_cons_zero, List.setIfInBounds_toArray, List.set_cons_zero, List.set_cons_succ])
              refine hK.out _ _ (fun _ => HS.out _ b5) ?_
              clear hK K
              obtain ⟨z2, cz2, w7, hap6, o6, t6⟩ := app_more nrow (Lis.drop (HL.out _ b5) q hq) o5 b5.size (by rw [hl3]; omega) (by rw [hl3]; omega)
              rw [hl3, hl4] at hap6 o6
              have b6 := b5.trans (t6.below (fun q hq => (World.ownsRow.lt o5 q hq).1) b5.size)
              refine wpAnyT_one (i := 16) (by kernel_rfl) rfl (fun K hK => ?_)
              refine st_append rfl _ _ 22 rfl _ _ rfl rfl hap6 ?_
              (try simp only [Act.put, List.getElem_toArray, List.getElem_cons_succ, List.getElem_cons_zero, List.setIfInBounds_toArray, List.set_cons_zero, List.set_cons_succ])
              refine hK.out _ _ (fun _ => HS.out _ b6) ?_
              clear hK K
              have hg8 := (b6.block p (lt_heap HXw.out.box)).trans HXw.out.box
              have q8 := cell_heap (j := 3) hg8 rfl
              have f8 := fr_heap hg8 3
              have HFin := hid (And.intro hg8 (And.intro o6 b6))
              clear hap4 hap5 hap6 hg8 o2 o3 t3 b1 b2 b3 l1 l2 l3 o5 o6 t5 t6 b5 b6
              refine wpAnyT_one (i := 17) (by kernel_rfl) rfl (fun K hK => ?_)
              go_simp
              refine hK.out _ _ (fun h => absurd (by decide) h) ?_
              clear hK K
              refine wpAnyT_one (i := 18) (by kernel_rfl) rfl (fun K hK => ?_)
              go_simp
              refine hK.out _ _ (fun h => absurd (by decide) h) ?_
              clear hK K
              refine wpAnyT_done (by kernel_rfl) ?_ _
              clear q8 f8
              go_wp2_with fail
              go_roundw
              case rel => exact ⟨t + 1, by omega, by go_num, _, _, _, _, HXw.out.next HPz.out.2 HPr.out (Int.not_lt.2 HGe.out) HFin.out.1 HFin.out.2.1 HFin.out.2.2 HStop.out⟩
              case measure => simp [intOf]; omega
          have hqp : (0 : Int) < (q : Int) := by omega
          obtain ⟨r, hr⟩ : ∃ r, q = r + 1 := ⟨q - 1, by omega⟩
          have hqw : IntKind.i64.wrap ((q : Int) - 1) = (r : Int) := by rw [IntKind.wrap_i64]; omega
          have hrn : (r : Int) < (no : Int) := by omega
          obtain ⟨g, cw, ew, _, _, _, hgl⟩ := HXq.out.own.there (fun e => by have := HX.out.len; rw [e] at this; simp at this; omega)
          injection ew with ew1 ew2 ew3
          subst ew1
          obtain ⟨a, ha⟩ := HWl.out r (by omega)
          have s5 : wr.cell? ⟨g, r, none⟩ = some (.int .i64 a) := by
            have := HXq.out.own.cell nrow.len ha (j := 0) rfl
            simpa using this
          have p5 := After.cell s5
          have HAa := hid ha
          have HRq := hid hr
          clear s5 ha hr ew2 ew3 hgl
          by_cases hoa : o < a
          · have HNx : Hid (∀ (j : Nat) (b : Int), r ≤ j → W[j]? = some b → o < b) := hid fun j b hj hb => by
              by_cases e : j = r
              · subst e
                have := Option.some.inj (HAa.out.symm.trans hb)
                rw [← this]
                exact hoa
              · exact HQ.out.2 j b (by have := HRq.out; omega) hb
            go_wp2_with fail
            refine wp_region_after (by kernel_rfl) (by kernel_rfl) ?_
            repeat (go_big_quiet_step (simp only []))
            refine wpQuiet_nil ?_
            rintro _ ⟨Z, rfl⟩
            go_wp2_with fail
            go_roundw
            case rel => exact ⟨r, by have := HRq.out; omega, by go_num, on HQ.out.1 Z.h, HNx.out⟩
            case measure => have := HRq.out; simp [intOf]; omega
          · have HStop : Hid (insR o W = W.take q ++ [o] ++ W.drop q) := hid (ins_stop HX.out.ris (by have := HX.out.len; omega) HQ.out.2 (.inr ⟨a, by rw [show q - 1 = r by have := HRq.out; omega]; exact HAa.out, by omega⟩))
            go_wp2_with fail
            refine wp_region_after (by kernel_rfl) (by kernel_rfl) ?_
            repeat (go_big_quiet_step (simp only []))
            refine wpQuiet_nil ?_
            rintro _ ⟨Z, rfl⟩
            go_upto_region 21 with (fail)
            obtain ⟨wq, hwq⟩ : ∃ wq, wq = Z.W := ⟨_, rfl⟩
            have bz : Below wr.heap.size wr wq := by rw [hwq]; exact Z.h
            rw [← hwq]
            clear hwq
            have HXw : Hid (StAt w2 wq p since B0 P t (some ⟨g, 0, none⟩) no co W) := hid (HXq.out.below bz)
            have HL : Hid (∀ X, Below wq.heap.size wq X → Ns X (fun _ => True) (some ⟨g, 0, none⟩) no co W) := hid fun X hX => own_lis nrow (HXw.out.own.below hX) (by have := HXw.out.len; omega) (fun _ _ => trivial) (fun _ _ => trivial)
            have HS : Hid (∀ X, Below wq.heap.size wq X → X.cell? ⟨p, 3, none⟩ = some (.slice (some ⟨g, 0, none⟩) no co) ∧ X.cell? ⟨bw, ow + t, none⟩ = some (.int .i64 o)) := hid fun X hX => ⟨keep hX (cell_heap HXw.out.box rfl), keep (on HBr.out (on HQ.out.1 (on bz hX))) HK1.out⟩
            have hlq : (W.take q).length = q := by rw [List.length_take]; have := HXw.out.len; omega
            have hl3 : (W.take q ++ [o]).length = q + 1 := by rw [List.length_append, hlq]; rfl
            have hl4 : q + 1 + (no - q) = no + 1 := by omega
            have hco : q ≤ co := by have := (HL.out wq (Below.refl _ _)).le; omega
            have hcut1 := fun V => icut_head (some ⟨g, 0, none⟩) no co q V hco
            have hcut2 := fun V => icut_from (some ⟨g, 0, none⟩) no co q V hq
            clear p1 p3 bz
            have bD : Below wq.heap.size wq wq.drew := (Below.refl _ _).drew
            have S1 := HS.out _ bD
            refine wp_region_tail (fun W => W.cell? ⟨p, 3, none⟩ = some (.slice (some ⟨g, 0, none⟩) no co) ∧ W.cell? ⟨bw, ow + t, none⟩ = some (.int .i64 o)) [17, 18] (by kernel_rfl) S1 (fun hS => ?_)
            have HBD := hid bD
            clear S1 bD
            generalize wq.drew = wD at *
            refine By.tk 1 ?_
            refine By.tk 2 ?_
            refine By.tk 3 ?_
            refine By.tk 4 ?_
            refine By.tk 6 ?_
            refine By.tk 7 ?_
            refine By.tk 8 ?_
            refine By.tk 9 ?_
            refine By.tk 12 ?_
            refine By.tk 13 ?_
            refine By.tk 14 ?_
            refine By.tk 15 ?_
            clear hS hcut1 hcut2
            refine wpAnyT_two (i := 0) (j := 10) (by kernel_rfl) rfl rfl (fun K hK => ?_) (fun K hK => ?_)
            · go_simp
              have b1 := on HBD.out (al wD (.cells #[] 3))
              have o1 : Own (wD.alloc (.cells #[] 3)) wq.heap.size 3 1 enN (.slice (some ⟨wD.heap.size, 0, none⟩) 0 0) [] := Own.empty wD HBD.out.size _ _ _
              refine hK.out _ _ (fun _ => HS.out _ b1) ?_
              clear hK K
              refine wpAnyT_two (i := 5) (j := 10) (by kernel_rfl) rfl rfl (fun K hK => ?_) (fun K hK => ?_)
              · obtain ⟨y1, cy1, w5, hap4, o2, t2⟩ := app_all nrow (Lis.take (HL.out _ b1) hq) o1 b1.size (by omega)
                have b2 := b1.trans (t2.below (fun q hq => (World.ownsRow.lt o1 q hq).1) b1.size)
                refine st_append rfl _ _ 22 rfl _ _ rfl rfl hap4 ?_
                (try simp only [Act.put, List.getElem_toArray, List.getElem_cons_succ, List.getElem_cons_zero, List.setIfInBounds_toArray, List.set_cons_zero, List.set_cons_succ])
                refine hK.out _ _ (fun _ => HS.out _ b2) ?_
                clear hK K
                have b3 := on b2 (al w5 (.cells #[.int .i64 o] 3))
                have l3 := heap_alloc_new w5 (.cells #[.int .i64 o] 3)
                have o3 := o2.below (al w5 (.cells #[.int .i64 o] 3))
                refine wpAnyT_one (i := 10) (by kernel_rfl) rfl (fun K hK => ?_)
                go_simp
                refine hK.out _ _ (fun _ => HS.out _ b3) ?_
                clear hK K
                obtain ⟨z, cz, w6, hap5, o5, t5⟩ := app_one (a := o) nrow o3 b3.size l3 rfl (by rw [hlq]; omega) (by rw [hlq]; omega)
                rw [hlq] at hap5 o5
                have b5 := b3.trans (t5.below (fun q hq => (World.ownsRow.lt o3 q hq).1) b3.size)
                refine wpAnyT_one (i := 11) (by kernel_rfl) rfl (fun K hK => ?_)
                refine st_append rfl _ _ 22 rfl _ _ rfl rfl hap5 ?_
                (try simp only [Act.put, List.getElem_toArray, List.getElem_cons_succ, List.getElem_cons_zero, List.setIfInBounds_toArray, List.set_cons_zero, List.set_cons_succ])
                refine hK.out _ _ (fun _ => HS.out _ b5) ?_
                clear hK K
                obtain ⟨z2, cz2, w7, hap6, o6, t6⟩ := app_more nrow (Lis.drop (HL.out _ b5) q hq) o5 b5.size (by rw [hl3]; omega) (by rw [hl3]; omega)
                rw [hl3, hl4] at hap6 o6
                have b6 := b5.trans (t6.below (fun q hq => (World.ownsRow.lt o5 q hq).1) b5.size)
                refine wpAnyT_one (i := 16) (by kernel_rfl) rfl (fun K hK => ?_)
                refine st_append rfl _ _ 22 rfl _ _ rfl rfl hap6 ?_
                (try simp only [Act.put, List.getElem_toArray, List.getElem_cons_succ, List.getElem_cons_zero, List.setIfInBounds_toArray, List.set_cons_zero, List.set_cons_succ])
                refine hK.out _ _ (fun _ => HS.out _ b6) ?_
                clear hK K
                have hg8 := (b6.block p (lt_heap HXw.out.box)).trans HXw.out.box
                have q8 := cell_heap (j := 3) hg8 rfl
                have f8 := fr_heap hg8 3
                have HFin := hid (And.intro hg8 (And.intro o6 b6))
                clear hap4 hap5 hap6 hg8 o1 o2 o3 t2 b1 b2 b3 l3 o5 o6 t5 t6 b5 b6
                refine wpAnyT_one (i := 17) (by kernel_rfl) rfl (fun K hK => ?_)
                go_simp
                refine hK.out _ _ (fun h => absurd (by decide) h) ?_
                clear hK K
                refine wpAnyT_one (i := 18) (by kernel_rfl) rfl (fun K hK => ?_)
                go_simp
                refine hK.out _ _ (fun h => absurd (by decide) h) ?_
                clear hK K
                refine wpAnyT_done (by kernel_rfl) ?_ _
                clear q8 f8
                go_wp2_with fail
                go_roundw
                case rel => exact ⟨t + 1, by omega, by go_num, _, _, _, _, HXw.out.next HPz.out.2 HPr.out (Int.not_lt.2 HGe.out) HFin.out.1 HFin.out.2.1 HFin.out.2.2 HStop.out⟩
                case measure => simp [intOf]; omega
              · go_simp
                have b2 := on b1 (al (wD.alloc (.cells #[] 3)) (.cells #[.int .i64 o] 3))
                have l2 := heap_alloc_new (wD.alloc (.cells #[] 3)) (.cells #[.int .i64 o] 3)
                rw [show (wD.alloc (.cells #[] 3)).heap.size = wD.heap.size + 1 by simp] at l2
                have o2 := o1.below (al (wD.alloc (.cells #[] 3)) (.cells #[.int .i64 o] 3))
                refine hK.out _ _ (fun _ => HS.out _ b2) ?_
                clear hK K
                obtain ⟨y1, cy1, w5, hap4, o3, t3⟩ := app_all nrow (Lis.take (HL.out _ b2) hq) o2 b2.size (by omega)
                have b3 := b2.trans (t3.below (fun q hq => (World.ownsRow.lt o2 q hq).1) b2.size)
                refine wpAnyT_one (i := 5) (by kernel_rfl) rfl (fun K hK => ?_)
                refine st_append rfl _ _ 22 rfl _ _ rfl rfl hap4 ?_
                (try simp only [Act.put, List.getElem_toArray, List.getElem_cons_succ, List.getElem_cons_zero, List.setIfInBounds_toArray, List.set_cons_zero, List.set_cons_succ])
                refine hK.out _ _ (fun _ => HS.out _ b3) ?_
                clear hK K
                have l3 := (t3.block _ (lt_heap l2) (fun e => by simp [Value.ownBlock] at e)).trans l2
                obtain ⟨z, cz, w6, hap5, o5, t5⟩ := app_one (a := o) nrow o3 b3.size l3 rfl (by rw [hlq]; omega) (by rw [hlq]; omega)
                rw [hlq] at hap5 o5
                have b5 := b3.trans (t5.below (fun q hq => (World.ownsRow.lt o3 q hq).1) b3.size)
                refine wpAnyT_one (i := 11) (by kernel_rfl) rfl (fun K hK => ?_)
                refine st_append rfl _ _ 22 rfl _ _ rfl rfl hap5 ?_
                (try simp only [Act.put, List.getElem_toArray, List.getElem_cons_succ, List.getElem_cons_zero, List.setIfInBounds_toArray, List.set_cons_zero, List.set_cons_succ])
                refine hK.out _ _ (fun _ => HS.out _ b5) ?_
                clear hK K
                obtain ⟨z2, cz2, w7, hap6, o6, t6⟩ := app_more nrow (Lis.drop (HL.out _ b5) q hq) o5 b5.size (by rw [hl3]; omega) (by rw [hl3]; omega)
                rw [hl3, hl4] at hap6 o6
                have b6 := b5.trans (t6.below (fun q hq => (World.ownsRow.lt o5 q hq).1) b5.size)
                refine wpAnyT_one (i := 16) (by kernel_rfl) rfl (fun K hK => ?_)
                refine st_append rfl _ _ 22 rfl _ _ rfl rfl hap6 ?_
                (try simp only [Act.put, List.getElem_toArray, List.getElem_cons_succ, List.getElem_cons_zero, List.setIfInBounds_toArray, List.set_cons_zero, List.set_cons_succ])
                refine hK.out _ _ (fun _ => HS.out _ b6) ?_
                clear hK K
                have hg8 := (b6.block p (lt_heap HXw.out.box)).trans HXw.out.box
                have q8 := cell_heap (j := 3) hg8 rfl
                have f8 := fr_heap hg8 3
                have HFin := hid (And.intro hg8 (And.intro o6 b6))
                clear hap4 hap5 hap6 hg8 o1 o2 o3 t3 b1 b2 b3 l2 l3 o5 o6 t5 t6 b5 b6
                refine wpAnyT_one (i := 17) (by kernel_rfl) rfl (fun K hK => ?_)
                go_simp
                refine hK.out _ _ (fun h => absurd (by decide) h) ?_
                clear hK K
                refine wpAnyT_one (i := 18) (by kernel_rfl) rfl (fun K hK => ?_)
                go_simp
                refine hK.out _ _ (fun h => absurd (by decide) h) ?_
                clear hK K
                refine wpAnyT_done (by kernel_rfl) ?_ _
                clear q8 f8
                go_wp2_with fail
                go_roundw
                case rel => exact ⟨t + 1, by omega, by go_num, _, _, _, _, HXw.out.next HPz.out.2 HPr.out (Int.not_lt.2 HGe.out) HFin.out.1 HFin.out.2.1 HFin.out.2.2 HStop.out⟩
                case measure => simp [intOf]; omega
            · go_simp
              have b1 := on HBD.out (al wD (.cells #[.int .i64 o] 3))
              have l1 := heap_alloc_new wD (.cells #[.int .i64 o] 3)
              refine hK.out _ _ (fun _ => HS.out _ b1) ?_
              clear hK K
              have b2 := on b1 (al (wD.alloc (.cells #[.int .i64 o] 3)) (.cells #[] 3))
              have l2 := ((al (wD.alloc (.cells #[.int .i64 o] 3)) (.cells #[] 3)).block _ (lt_heap l1)).trans l1
              have o2 : Own ((wD.alloc (.cells #[.int .i64 o] 3)).alloc (.cells #[] 3)) wq.heap.size 3 1 enN (.slice (some ⟨wD.heap.size + 1, 0, none⟩) 0 0) [] := by have := Own.empty (wD.alloc (.cells #[.int .i64 o] 3)) b1.size 3 1 enN; rw [show (wD.alloc (.cells #[.int .i64 o] 3)).heap.size = wD.heap.size + 1 by simp] at this; exact this
              refine wpAnyT_one (i := 0) (by kernel_rfl) rfl (fun K hK => ?_)
              go_simp
              refine hK.out _ _ (fun _ => HS.out _ b2) ?_
              clear hK K
              obtain ⟨y1, cy1, w5, hap4, o3, t3⟩ := app_all nrow (Lis.take (HL.out _ b2) hq) o2 b2.size (by omega)
              have b3 := b2.trans (t3.below (fun q hq => (World.ownsRow.lt o2 q hq).1) b2.size)
              refine wpAnyT_one (i := 5) (by kernel_rfl) rfl (fun K hK => ?_)
              refine st_append rfl _ _ 22 rfl _ _ rfl rfl hap4 ?_
              (try simp only [Act.put, List.getElem_toArray, List.getElem_cons_succ, List.getElem_cons_zero, List.setIfInBounds_toArray, List.set_cons_zero, List.set_cons_succ])
              refine hK.out _ _ (fun _ => HS.out _ b3) ?_
              clear hK K
              have l3 := (t3.block _ (lt_heap l2) (fun e => by simp [Value.ownBlock] at e)).trans l2
              obtain ⟨z, cz, w6, hap5, o5, t5⟩ := app_one (a := o) nrow o3 b3.size l3 rfl (by rw [hlq]; omega) (by rw [hlq]; omega)
              rw [hlq] at hap5 o5
              have b5 := b3.trans (t5.below (fun q hq => (World.ownsRow.lt o3 q hq).1) b3.size)
              refine wpAnyT_one (i := 11) (by kernel_rfl) rfl (fun K hK => ?_)
              refine st_append rfl _ _ 22 rfl _ _ rfl rfl hap5 ?_
              (try simp only [Act.put, List.getElem_toArray, List.getElem_cons_succ, List.getElem_cons_zero, List.setIfInBounds_toArray, List.set_cons_zero, List.set_cons_succ])
              refine hK.out _ _ (fun _ => HS.out _ b5) ?_
              clear hK K
              obtain ⟨z2, cz2, w7, hap6, o6, t6⟩ := app_more nrow (Lis.drop (HL.out _ b5) q hq) o5 b5.size (by rw [hl3]; omega) (by rw [hl3]; omega)
              rw [hl3, hl4] at hap6 o6
              have b6 := b5.trans (t6.below (fun q hq => (World.ownsRow.lt o5 q hq).1) b5.size)
              refine wpAnyT_one (i := 16) (by kernel_rfl) rfl (fun K hK => ?_)
              refine st_append rfl _ _ 22 rfl _ _ rfl rfl hap6 ?_
              (try simp only [Act.put, List.getElem_toArray, List.getElem_cons_succ, List.getElem_cons_zero, List.setIfInBounds_toArray, List.set_cons_zero, List.set_cons_succ])
              refine hK.out _ _ (fun _ => HS.out _ b6) ?_
              clear hK K
              have hg8 := (b6.block p (lt_heap HXw.out.box)).trans HXw.out.box
              have q8 := cell_heap (j := 3) hg8 rfl
              have f8 := fr_heap hg8 3
              have HFin := hid (And.intro hg8 (And.intro o6 b6))
              clear hap4 hap5 hap6 hg8 o2 o3 t3 b1 b2 b3 l1 l2 l3 o5 o6 t5 t6 b5 b6
              refine wpAnyT_one (i := 17) (by kernel_rfl) rfl (fun K hK => ?_)
              go_simp
              refine hK.out _ _ (fun h => absurd (by decide) h) ?_
              clear hK K
              refine wpAnyT_one (i := 18) (by kernel_rfl) rfl (fun K hK => ?_)
              go_simp
              refine hK.out _ _ (fun h => absurd (by decide) h) ?_
              clear hK K
              refine wpAnyT_done (by kernel_rfl) ?_ _
              clear q8 f8
              go_wp2_with fail
              go_roundw
              case rel => exact ⟨t + 1, by omega, by go_num, _, _, _, _, HXw.out.next HPz.out.2 HPr.out (Int.not_lt.2 HGe.out) HFin.out.1 HFin.out.2.1 HFin.out.2.2 HStop.out⟩
              case measure => simp [intOf]; omega
    have htn2 : (t : Int) < (n : Int) := by omega
    obtain ⟨h, hh, hm⟩ := Lis.some HA.out htn
    rcases HA.out.row with hr0 | ⟨bl, o, hx, hbl, _, hc⟩
    · omega
    have k0 := n_at hc hh
    subst hx
    have HC := hid hc
    have HBR := hid (on HB.out HR.out.1)
    have HN := hid (best_drop (k := k) (b := b) hh)
    have HK := hid k0
    clear hm hc k0 hh hbl
    obtain ⟨w2, hw2⟩ : ∃ w2, w2 = wr := ⟨_, rfl⟩
    subst hw2
    go_wp2_with fail
    go_loopw [13, 12] (fun j cv wr => ∃ (j0 c0 : Nat), j0 ≤ n ∧ c0 ≤ j0 ∧ j = .int .i64 j0 ∧ cv = .int .i64 c0 ∧ Hid (Below w2.heap.size w2 wr ∧ c0 = ((H.take j0).filter fun g => decide (h ≤ g)).length)) (fun j _ _ => n - (intOf j).toNat)
    case atStart => exact ⟨0, 0, by omega, by omega, rfl, rfl, Below.refl _ _, rfl⟩
    case round =>
      obtain ⟨j, cc, hj, hcc, rfl, rfl, HQ⟩ := hrel
      have r0 := keep (on HBR.out HQ.out.1) HK.out
      by_cases hjn : j < n
      rotate_left
      · have e1 : n = j := by omega
        subst e1
        have HF : Hid (cc = atLeast H h) := hid (by rw [HQ.out.2]; exact at_full HLn.out.1)
        by_cases hk : k ≤ (cc : Int)
        rotate_left
        · have HE : Hid (bestF H k (H.drop (t + 1)) b = BF) := hid (by
            rw [← HR.out.2, HN.out, if_neg]
            rintro ⟨q, _⟩
            rw [← HF.out] at q
            exact hk q)
          go_wp2_with fail
          go_roundw
          case rel => exact ⟨t + 1, b, by omega, by go_num, rfl, rfl, on HR.out.1 HQ.out.1, HE.out⟩
          case measure => simp [intOf]; omega
        cases b with
        | none =>
          have HE : Hid (bestF H k (H.drop (t + 1)) (some h) = BF) := hid (by
            rw [← HR.out.2, HN.out, if_pos]
            exact ⟨by rw [← HF.out]; exact hk, .inl rfl⟩)
          go_wp2_with fail
          go_roundw
          case rel => exact ⟨t + 1, some h, by omega, by go_num, rfl, rfl, on HR.out.1 HQ.out.1, HE.out⟩
          case measure => simp [intOf]; omega
        | some b =>
          by_cases hb : b < h
          · have HE : Hid (bestF H k (H.drop (t + 1)) (some h) = BF) := hid (by
              rw [← HR.out.2, HN.out, if_pos]
              exact ⟨by rw [← HF.out]; exact hk, .inr hb⟩)
            go_wp2_with fail
            go_roundw
            case rel => exact ⟨t + 1, some h, by omega, by go_num, rfl, rfl, on HR.out.1 HQ.out.1, HE.out⟩
            case measure => simp [intOf]; omega
          · have HE : Hid (bestF H k (H.drop (t + 1)) (some b) = BF) := hid (by
              rw [← HR.out.2, HN.out, if_neg]
              rintro ⟨_, q | q⟩
              · cases q
              · exact hb q)
            go_wp2_with fail
            go_roundw
            case rel => exact ⟨t + 1, some b, by omega, by go_num, rfl, rfl, on HR.out.1 HQ.out.1, HE.out⟩
            case measure => simp [intOf]; omega
      have hjn2 : (j : Int) < (n : Int) := by omega
      obtain ⟨a, ha, hm⟩ := Lis.some HA.out hjn
      have s0 := After.cell (keep (on HBR.out HQ.out.1) (n_at HC.out ha))
      have s1 := After.cell r0
      have HS := hid (at_step (h := h) ha)
      clear r0 ha hm
      haveI := After.ne wr
      by_cases hge : h ≤ a
      · have HF : Hid (cc + 1 = ((H.take (j + 1)).filter fun g => decide (h ≤ g)).length) := hid (by rw [HS.out, if_pos hge, ← HQ.out.2])
        go_wp2_with fail
        refine wp_region_after (by kernel_rfl) (by kernel_rfl) ?_
        repeat (go_big_quiet_step (simp only []))
        refine wpQuiet_nil ?_
        rintro _ ⟨q, rfl⟩
        go_wp2_with fail
        go_roundw
        case rel => exact ⟨j + 1, cc + 1, by omega, by omega, by go_num, by go_num, on HQ.out.1 q.h, HF.out⟩
        case measure => simp [intOf]; omega
      · have HF : Hid (cc = ((H.take (j + 1)).filter fun g => decide (h ≤ g)).length) := hid (by rw [HS.out, if_neg hge, ← HQ.out.2]; rfl)
        go_wp2_with fail
        refine wp_region_after (by kernel_rfl) (by kernel_rfl) ?_
        repeat (go_big_quiet_step (simp only []))
        refine wpQuiet_nil ?_
        rintro _ ⟨q, rfl⟩
        go_wp2_with fail
        go_roundw
        case rel => exact ⟨j + 1, cc, by omega, by omega, by go_num, rfl, on HQ.out.1 q.h, HF.out⟩
        case measure => simp [intOf]; omega

end Go.Proofs.Ytgcjecmgjncclaa.Pe
