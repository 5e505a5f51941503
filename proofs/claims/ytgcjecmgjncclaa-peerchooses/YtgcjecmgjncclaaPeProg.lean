/-
  The program's Choose.
  Conditions: intervals and infos lie in memory.
-/
import Derived.Test.YtgcjecmgjncclaaPeCnt
import Derived.Test.YtgcjecmgjncclaaPeSta
namespace Go.Proofs.Ytgcjecmgjncclaa.Pe
open Go.RowKit By Fl Pz
set_option linter.unusedVariables false
set_option linter.unusedSimpArgs false
set_option maxRecDepth 100000
attribute [local go_sem] Oper.semAt_some

set_option maxHeartbeats 6400000 in
theorem fall_p {w : World} {F : Nat → Prop} {x : Option Addr} {n c : Nat} {L : List JV} (hL : Js w F x n c L) :
    Calls Try.prog 21 #[.slice x n c] w fun e w' => e = .returned (.bool (falls (L.map pJ))) ∧ Below w.heap.size w w' := by
  obtain ⟨PP, hPP⟩ : ∃ PP, PP = falls (L.map pJ) := ⟨_, rfl⟩
  have HPP := hid hPP
  have HL := hid hL
  have HLn : Hid (L.length = n) := hid hL.len
  have hs1 := hL.small
  rw [← hPP]
  clear hL hPP
  go_enter Try.func21, Try.ntmps21
  go_wp2_with fail
  go_loopw [3] (fun i wr => ∃ t : Nat, 1 ≤ t ∧ (t ≤ n ∨ t = 1) ∧ i = .int .i64 t ∧ Hid (Below w.heap.size w wr ∧ ∀ (j : Nat) (a b : Itv), j + 1 < t → (L.map pJ)[j]? = some a → (L.map pJ)[j + 1]? = some b → b.fr < a.fr)) (fun i _ => n - (intOf i).toNat)
  case atStart => exact ⟨1, by omega, .inr rfl, rfl, Below.refl _ _, fun j a b h => by omega⟩
  case round =>
    obtain ⟨t, ht1, ht2, rfl, HR⟩ := hrel
    by_cases htn : t < n
    · have htn2 : (t : Int) < (n : Int) := by omega
      obtain ⟨s, hs⟩ : ∃ s, t = s + 1 := ⟨t - 1, by omega⟩
      have hw : IntKind.i64.wrap ((t : Int) - 1) = (s : Int) := by rw [IntKind.wrap_i64]; omega
      have hsn : (s : Int) < (n : Int) := by omega
      obtain ⟨a, ha, _⟩ := Lis.some HL.out (show s < n by omega)
      obtain ⟨b, hb, _⟩ := Lis.some HL.out htn
      rcases HL.out.row with hr0 | ⟨bl, o, hx, hbl, _, hc⟩
      · omega
      have k0 := (j_at hc ha).1
      have k1 := (j_at hc hb).1
      subst hx
      have hbw := HR.out.1
      have r0 := After.cell (keep hbw k0)
      have r1 := After.cell (keep hbw k1)
      have HAB : Hid ((L.map pJ)[s]? = some (pJ a) ∧ (L.map pJ)[t]? = some (pJ b) ∧ t = s + 1) := hid ⟨by rw [List.getElem?_map, ha]; rfl, by rw [List.getElem?_map, hb]; rfl, hs⟩
      haveI := After.ne wr
      clear ha hb hc k0 k1 hbw hs
      by_cases hlt : b.fr < a.fr
      · have hlt2 : ¬ a.fr ≤ b.fr := by omega
        have HF : Hid (∀ (j : Nat) (a b : Itv), j + 1 < t + 1 → (L.map pJ)[j]? = some a → (L.map pJ)[j + 1]? = some b → b.fr < a.fr) := hid fun j a' b' hj h1 h2 => by
          by_cases e : j = s
          · subst e
            have e1 := Option.some.inj (HAB.out.1.symm.trans h1)
            have e2 := Option.some.inj ((show (L.map pJ)[j + 1]? = some (pJ b) by rw [← HAB.out.2.2]; exact HAB.out.2.1).symm.trans h2)
            subst e1 e2
            exact hlt
          · exact HR.out.2 j a' b' (by have := HAB.out.2.2; omega) h1 h2
        go_wp2_with fail
        refine wp_region_after (by kernel_rfl) (by kernel_rfl) ?_
        repeat (go_big_quiet_step (simp only []))
        refine wpQuiet_nil ?_
        rintro _ ⟨q, rfl⟩
        go_wp2_with fail
        go_roundw
        case rel => exact ⟨t + 1, by omega, .inl (by omega), by go_num, on HR.out.1 q.h, HF.out⟩
        case measure => simp [intOf]; omega
      · have hle : a.fr ≤ b.fr := by omega
        have HE : Hid (PP = false) := hid (by rw [HPP.out]; exact falls_no HAB.out.1 (show (L.map pJ)[s + 1]? = some (pJ b) by rw [← HAB.out.2.2]; exact HAB.out.2.1) hle)
        go_wp2_with fail
        refine wp_region_after (by kernel_rfl) (by kernel_rfl) ?_
        repeat (go_big_quiet_step (simp only []))
        refine wpQuiet_nil ?_
        rintro _ ⟨q, rfl⟩
        go_wp2_with fail
        go_ret
        exact ⟨by rw [HE.out]; rfl, on HR.out.1 q.h⟩
    · have htn2 : ¬ (t : Int) < (n : Int) := by omega
      have HF : Hid (PP = true) := hid (by
        rw [HPP.out]
        exact falls_yes fun j a b h1 h2 => by
          have := (List.getElem?_eq_some_iff.1 h2).1
          rw [List.length_map, HLn.out] at this
          exact HR.out.2 j a b (by omega) h1 h2)
      go_wp2_with fail
      go_ret
      exact ⟨by rw [HF.out]; rfl, HR.out.1⟩

/- Does one of some lack it? -/
def lkF (v : JV) (u : FV) : Bool := lacks (pJ v) (pF u)
set_option maxHeartbeats 3200000 in
theorem lack_clos {w : World} {F : Nat → Prop} {v : JV} {bx : Nat} (h : JAt w F v) (hb : w.heap[bx]? = some (.cells (JCells v) 24 (0, 0))) : Pr 33 #[.pointer (some ⟨bx, 0, none⟩)] (lkF v) w := by
  intro W G u hW hu
  have b0 := al W (.cells (FCells u) 27)
  have cL := placks_any (JAt.below h (on hW b0)) (FAt.below hu b0)
  have gb := ((on hW b0).block _ (lt_heap hb)).trans hb
  obtain ⟨j0, j1, j2, j3, j4, j5⟩ := jcells gb
  have HB := hid b0
  unfold lkF
  generalize lacks (pJ v) (pF u) = t at *
  clear h hb hW hu gb b0
  obtain ⟨os, li, no, he, x, n, c, L⟩ := u
  unfold vJ vF at cL
  unfold FCells at cL j0 j1 j2 j3 j4 j5 HB
  unfold vF
  dsimp only at *
  show Calls Try.prog 33 #[.agg #[.int .i64 os, .int .i64 li, .int .i64 no, .int .i64 he, .slice x n c], .pointer (some ⟨bx, 0, none⟩)] W _
  go_enter Try.func33, Try.ntmps33
  go_wp2_with (go_at_call 10; refine cL.mono ?_; rintro e wa ⟨rfl, hb⟩; clear cL)
  go_ret
  exact ⟨rfl, on HB.out hb⟩

theorem any_lacks {w : World} {F G : Nat → Prop} {v : JV} {y : Option Addr} {m d : Nat} {S : List FV} (h : JAt w F v) (hI : Fs w G y m d S) :
    Calls Try.prog 25 #[vJ v, .slice y m d] w fun e w' => e = .returned (.bool ((S.map pF).any (lacks (pJ v)))) ∧ Below w.heap.size w w' := by
  have b0 := al w (.cells (JCells v) 24)
  have g0 := heap_alloc_new w (.cells (JCells v) 24)
  have cC := contains_any (lkF v) 33 #[.pointer (some ⟨w.heap.size, 0, none⟩)] (enters_of Try.func33 (by kernel_rfl) rfl) (Fs.below hI b0) (lack_clos (JAt.below h b0) g0)
  have e : (S.map pF).any (lacks (pJ v)) = S.any (lkF v) := by rw [List.any_map]; rfl
  rw [e]
  generalize S.any (lkF v) = t at *
  have HB := hid b0
  unfold JCells at cC HB
  unfold vJ
  clear h hI b0 g0 e
  go_enter Try.func25, Try.ntmps25
  go_wp2_with (go_at_call 29; refine cC.mono ?_; rintro e wa ⟨rfl, hb⟩; clear cC)
  go_ret
  exact ⟨rfl, on HB.out hb⟩

set_option maxHeartbeats 12800000 in
theorem pchoose_any {w : World} {F G : Nat → Prop} {x y : Option Addr} {n c m d : Nat} {L : List JV} {I : List FV} (k : Int) (hL : Js w F x n c L) (hI : Fs w G y m d I) (hos : ∀ i ∈ I, wfI i.os) (hz : m * 56 ≤ 140737488351232) :
    Calls Try.prog 13 #[.slice x n c, .slice y m d, .int .i64 k] w fun e w' => RC w (chooseP (L.map pJ) (I.map pF) k) e w' := by
  obtain ⟨PP, hPP⟩ : ∃ PP, PP = chooseP (L.map pJ) (I.map pF) k := ⟨_, rfl⟩
  obtain ⟨ff, hff⟩ : ∃ ff, ff = falls (L.map pJ) := ⟨_, rfl⟩
  have HNo : Hid (ff = false → PP = (zC, 1)) := hid fun h => by rw [hPP]; unfold chooseP; rw [← hff, h]; rfl
  have HLow : Hid (¬ 1 ≤ k → PP = (zC, 1)) := hid fun h => by rw [hPP]; unfold chooseP; rw [if_neg (fun q => h q.2)]
  have HYes : Hid (ff = true → 1 ≤ k → PP = (goes 3 1 2 (I.map pF) k ((L.map pJ).drop 0), 0)) := hid fun h1 h2 => by rw [hPP]; unfold chooseP; rw [if_pos ⟨hff.symm.trans h1, h2⟩]; rfl
  rw [← hPP]
  obtain ⟨w1, hw1⟩ : ∃ w1, w1 = w.alloc (.cells (CCells zCV) 35) := ⟨_, rfl⟩
  have bb := al w (.cells (CCells zCV) 35)
  have g0 := heap_alloc_new w (.cells (CCells zCV) 35)
  rw [← hw1] at bb g0
  have cF := fall_p (hL.below bb)
  rw [← hff] at cF
  have HB := hid bb
  have HSz : Hid (w1.heap.size = w.heap.size + 1) := hid (by rw [hw1]; simp)
  have HG0 : Hid (∀ W, Below w1.heap.size w1 W → W.heap[w.heap.size]? = some (.cells #[.int .i64 0, .int .i64 0, .int .i64 0, .slice none 0 0] 35 (0, 0))) := hid fun W hW => (hW.block _ (lt_heap g0)).trans g0
  have HL := hid hL
  have HI : Hid (∀ W, Below w.heap.size w W → Fs W G y m d I) := hid fun W hW => Fs.below hI hW
  have HLn : Hid (L.length = n ∧ I.length = m) := hid ⟨hL.len, hI.len⟩
  have hs1 := hL.small
  unfold CCells zCV at hw1
  dsimp only at hw1
  clear hL hI hos bb g0 hPP hff
  go_enter Try.func13, Try.ntmps13
  go_upto_region 1 with (fail)
  rw [← hw1]
  clear hw1
  by_cases hk : k < 1
  · have HE : Hid (PP = (zC, 1)) := hid (HLow.out (by omega))
    have gr := HG0.out _ (Below.refl _ _)
    obtain ⟨c0, c1, c2, c3⟩ := ccells gr
    have f0 := fr_heap gr 0
    have f1 := fr_heap gr 1
    have f2 := fr_heap gr 2
    have f3 := fr_heap gr 3
    clear gr
    go_wp2_with fail
    refine bodyPost_ret (v := .tuple #[vC zCV, .int .i64 1]) ?_ rfl ?_
    · rw [results_cell2 rfl]
      unfold vC zCV
      go_simp
    · exact RC.tell zCV 1 HB.out HSz.out (Below.refl _ _) (Lis.empty _ _) HE.out.symm (turns4 _ _ _ _)
  have hk1 : (1 : Int) ≤ k := by omega
  cases ff with
  | false =>
    have HE : Hid (PP = (zC, 1)) := hid (HNo.out rfl)
    go_wp2_with (go_at_call 21; refine cF.mono ?_; rintro e wa ⟨rfl, hb⟩; have HBa := hid hb; have gr := HG0.out wa hb; obtain ⟨c0, c1, c2, c3⟩ := ccells gr; have f0 := fr_heap gr 0; have f1 := fr_heap gr 1; have f2 := fr_heap gr 2; have f3 := fr_heap gr 3; clear gr hb cF)
    refine bodyPost_ret (v := .tuple #[vC zCV, .int .i64 1]) ?_ rfl ?_
    · rw [results_cell2 rfl]
      unfold vC zCV
      go_simp
    · exact RC.tell zCV 1 HB.out HSz.out HBa.out (Lis.empty _ _) HE.out.symm (turns4 _ _ _ _)
  | true =>
  have HGo := hid (HYes.out rfl hk1)
  clear HYes HNo HLow
  go_upto_region 4 with (go_at_call 21; refine cF.mono ?_; rintro e wa ⟨rfl, hb⟩; have HBr := hid hb; clear hb cF)
  go_loopw [23] (fun i wr => ∃ t : Nat, t ≤ n ∧ i = .int .i64 t ∧ Hid (Below w1.heap.size w1 wr ∧ PP = (goes 3 1 2 (I.map pF) k ((L.map pJ).drop t), 0))) (fun i _ => n - (intOf i).toNat)
  case atStart => exact ⟨0, by omega, rfl, HBr.out, HGo.out⟩
  case round =>
    clear HBr HGo
    obtain ⟨t, ht, rfl, HR⟩ := hrel
    by_cases htn : t < n
    rotate_left
    · have e1 : n = t := by omega
      subst e1
      have HE : Hid (PP = ((⟨2, 0, 0, []⟩ : Cho), 0)) := hid (by
        rw [HR.out.2, List.drop_eq_nil_of_le (by rw [List.length_map]; have := HLn.out.1; omega)]
        rfl)
      have gr := HG0.out _ HR.out.1
      obtain ⟨c0, c1, c2, c3⟩ := ccells gr
      have f0 := fr_heap gr 0
      have f1 := fr_heap gr 1
      have f2 := fr_heap gr 2
      have f3 := fr_heap gr 3
      clear gr
      go_wp2_with fail
      refine bodyPost_ret (v := .tuple #[vC ⟨2, 0, 0, none, 0, 0, []⟩, .int .i64 0]) ?_ rfl ?_
      · rw [results_cell2 rfl]
        unfold vC
        go_simp
      · exact RC.tell ⟨2, 0, 0, none, 0, 0, []⟩ 0 HB.out HSz.out HR.out.1 (Lis.empty _ _) HE.out.symm (turns4 _ _ _ _)
    have htn2 : (t : Int) < (n : Int) := by omega
    obtain ⟨v, hv, hvm⟩ := Lis.some HL.out htn
    rcases HL.out.row with hr0 | ⟨bl, o, hx, hbl, _, hc⟩
    · omega
    have kk := j_at hc hv
    subst hx
    have HJ : Hid (∀ W, Below w.heap.size w W → JAt W F v) := hid fun W hW => JAt.below (HL.out.each v hvm) hW
    have HGs : Hid (PP = (if (many (pJ v) : Int) < k then goes 3 1 2 (I.map pF) k ((L.map pJ).drop (t + 1)) else
        if k ≤ ((pairs (pJ v) (sel (pJ v) (I.map pF) [])).length : Int) then { stateC (pJ v).fr (pairs (pJ v) (sel (pJ v) (I.map pF) [])) k with kind := 3 } else
        if (sel (pJ v) (I.map pF) []).any (lacks (pJ v)) then goes 3 1 2 (I.map pF) k ((L.map pJ).drop (t + 1)) else ⟨1, 0, 0, []⟩, 0)) := hid (by rw [HR.out.2, goes_drop (show (L.map pJ)[t]? = some (pJ v) by rw [List.getElem?_map, hv]; rfl)])
    have hbw := on HB.out HR.out.1
    obtain ⟨kk0, kk1, kk2, kk3, kk4, kk5⟩ := kk
    have r0 := keep hbw kk0
    have r1 := keep hbw kk1
    have r2 := keep hbw kk2
    have r3 := keep hbw kk3
    have r4 := keep hbw kk4
    have r5 := keep hbw kk5
    clear kk0 kk1 kk2 kk3 kk4 kk5 hc hv hvm hbw hbl
    go_upto_region 6 with (fail)
    clear r0 r1 r2 r3 r4 r5
    obtain ⟨xb, hxb⟩ : ∃ xb, xb = wr.heap.size := ⟨_, rfl⟩
    obtain ⟨wx, hwx⟩ : ∃ wx, wx = wr.alloc (.cells #[.int .i64 v.fr, .int .i64 v.to, .slice v.x1 v.n1 v.c1, .slice v.x2 v.n2 v.c2, .slice v.x3 v.n3 v.c3, .int .i64 v.pr] 24) := ⟨_, rfl⟩
    have bx : Below wr.heap.size wr wx := by rw [hwx]; exact al _ _
    have gx : wx.heap[xb]? = some (.cells (JCells v) 24 (0, 0)) := by rw [hwx, hxb]; exact heap_alloc_new _ _
    rw [← hwx, ← hxb]
    have HBx := hid (on HR.out.1 bx)
    have HGx : Hid (∀ W, Below wx.heap.size wx W → W.heap[xb]? = some (.cells (JCells v) 24 (0, 0))) := hid fun W hW => (hW.block _ (lt_heap gx)).trans gx
    have HJx := HJ.out wx (on HB.out HBx.out)
    have cE := enough_p HJx.a (Nat.le_trans HJx.a.small (by omega)) (x2 := v.x2) (n2 := v.n2) (c2 := v.c2) (x3 := v.x3) (n3 := v.n3) (c3 := v.c3) v.fr v.to v.pr k
    have hmany : nh v.A = many (pJ v) := rfl
    rw [hmany] at cE
    obtain ⟨q0, q1, q2, q3, q4, q5⟩ := jcells gx
    clear hwx hxb bx gx HR HJx hmany
    by_cases hm : k ≤ (many (pJ v) : Int)
    rotate_left
    · have HE := hid (HGs.out.trans (by rw [if_pos (by omega)]))
      rw [decide_eq_false hm] at cE
      clear hm
      go_wp2_with (go_at_call 22; refine cE.mono ?_; rintro e wm ⟨rfl, hb⟩; have HBm := hid hb; clear hb cE)
      go_roundw
      case rel => exact ⟨t + 1, by omega, by go_num, on HBx.out HBm.out, HE.out⟩
      case measure => simp [intOf]; omega
    have HGt := hid (HGs.out.trans (by rw [if_neg (by omega)]))
    rw [decide_eq_true hm] at cE
    clear hm HGs
    go_upto_region 7 with (go_at_call 22; refine cE.mono ?_; rintro e wA ⟨rfl, hb⟩; have HBA := hid hb; clear hb cE)
    clear q0 q1 q2 q3 q4 q5
    obtain ⟨q0, q1, q2, q3, q4, q5⟩ := jcells (HGx.out wA HBA.out)
    have HBB := hid (on HB.out (on HBx.out HBA.out))
    have cC := count_p (HJ.out wA HBB.out) (HI.out wA HBB.out) hz
    unfold vJ at cC
    go_upto_region 8 with (go_at_call 23; refine cC.mono ?_; rintro e wC ⟨yc, mc, dc, S, rfl, HC⟩; clear cC)
    clear q0 q1 q2 q3 q4 q5
    have HBC := hid (on HBA.out HC.out.2.2.2)
    have HBD := hid (on HB.out (on HBx.out HBC.out))
    rw [← HC.out.2.1] at HGt
    have cS := state_p k hk1 (HJ.out wC HBD.out) HC.out.1
    have HAL : Hid (∀ W, Below wC.heap.size wC W → Calls Try.prog 25 #[vJ v, .slice yc mc dc] W fun e w' => e = .returned (.bool ((S.map pF).any (lacks (pJ v)))) ∧ Below W.heap.size W w') := hid fun W hW => any_lacks (HJ.out W (on HBD.out hW)) (Fs.below HC.out.1 hW)
    obtain ⟨q0, q1, q2, q3, q4, q5⟩ := jcells (HGx.out wC HBC.out)
    unfold vJ at cS HAL
    go_upto_region 9 with (go_at_call 24; refine cS.mono ?_; rintro e wS ⟨u, b, rfl, HS⟩; unfold vC; clear cS)
    clear q0 q1 q2 q3 q4 q5
    obtain ⟨yb, hyb⟩ : ∃ yb, yb = wS.heap.size := ⟨_, rfl⟩
    obtain ⟨wy, hwy⟩ : ∃ wy, wy = wS.alloc (.cells #[.int .i64 u.kind, .int .i64 u.si, .int .i64 u.he, .slice u.x u.n u.c] 35) := ⟨_, rfl⟩
    have by_ : Below wS.heap.size wS wy := by rw [hwy]; exact al _ _
    have gy : wy.heap[yb]? = some (.cells #[.int .i64 u.kind, .int .i64 u.si, .int .i64 u.he, .slice u.x u.n u.c] 35 (0, 0)) := by rw [hwy, hyb]; exact heap_alloc_new _ _
    rw [← hwy, ← hyb]
    have HBy := hid (on HBC.out (on HS.out.2.2.2 by_))
    have HBz := hid (on HBx.out HBy.out)
    have HCy : Hid (CAt wy (New wC wy) u) := hid (CAt.weak (CAt.below HS.out.1 by_) (fun g hg => ⟨hg.1, Nat.lt_of_lt_of_le hg.2 by_.size⟩))
    obtain ⟨p0, p1, p2, p3⟩ := ccells gy
    clear hwy hyb
    have hb2 := HS.out.2.1
    by_cases hkp : k ≤ ((pairs (pJ v) (S.map pF)).length : Int)
    · rw [decide_eq_true hkp] at hb2
      subst hb2
      have HE : Hid (PP = ({ stateC (pJ v).fr (pairs (pJ v) (S.map pF)) k with kind := 3 }, 0)) := hid (by rw [HGt.out, if_pos hkp])
      have gr := HG0.out _ HBz.out
      obtain ⟨c0, c1, c2, c3⟩ := ccells gr
      have f0 := fr_heap gr 0
      have f1 := fr_heap gr 1
      have f2 := fr_heap gr 2
      have f3 := fr_heap gr 3
      have hlt := lt_heap gy
      clear gr hkp by_ gy
      go_wp2_with fail
      refine bodyPost_ret (v := .tuple #[vC u, .int .i64 0]) ?_ rfl ?_
      · rw [results_cell2 rfl]
        unfold vC
        go_simp
      · exact RC.tell u 0 HB.out HSz.out HBz.out (Ns.weak HCy.out (fun g hg => ⟨Nat.le_trans (on HBx.out HBC.out).size hg.1, hg.2⟩)) (by rw [HS.out.2.2.1 (by simp), HE.out]) (turns4 _ _ _ _)
    · rw [decide_eq_false hkp] at hb2
      subst hb2
      have HGu := hid (HGt.out.trans (by rw [if_neg hkp]))
      have cA := HAL.out wy (on HS.out.2.2.2 by_)
      obtain ⟨aa, haa⟩ : ∃ aa, aa = (S.map pF).any (lacks (pJ v)) := ⟨_, rfl⟩
      rw [← haa] at cA HGu
      clear haa hkp by_ gy HAL p0 p1 p2 p3
      obtain ⟨q0, q1, q2, q3, q4, q5⟩ := jcells (HGx.out wy HBy.out)
      cases aa with
      | true =>
        have HE : Hid (PP = (goes 3 1 2 (I.map pF) k ((L.map pJ).drop (t + 1)), 0)) := hid (HGu.out.trans (by rw [if_pos rfl]))
        go_wp2_with (go_at_call 25; refine cA.mono ?_; rintro e wL ⟨rfl, hb⟩; have HBL := hid (on HBz.out hb); clear hb cA)
        go_roundw
        case rel => exact ⟨t + 1, by omega, by go_num, HBL.out, HE.out⟩
        case measure => simp [intOf]; omega
      | false =>
        have HE : Hid (PP = ((⟨1, 0, 0, []⟩ : Cho), 0)) := hid (HGu.out.trans (by rw [if_neg (by simp)]))
        go_wp2_with (go_at_call 25; refine cA.mono ?_; rintro e wL ⟨rfl, hb⟩; have HBL := hid (on HBz.out hb); have gr := HG0.out _ HBL.out; obtain ⟨c0, c1, c2, c3⟩ := ccells gr; have f0 := fr_heap gr 0; have f1 := fr_heap gr 1; have f2 := fr_heap gr 2; have f3 := fr_heap gr 3; clear gr hb cA)
        refine bodyPost_ret (v := .tuple #[vC ⟨1, 0, 0, none, 0, 0, []⟩, .int .i64 0]) ?_ rfl ?_
        · rw [results_cell2 rfl]
          unfold vC
          go_simp
        · exact RC.tell ⟨1, 0, 0, none, 0, 0, []⟩ 0 HB.out HSz.out HBL.out (Lis.empty _ _) HE.out.symm (turns4 _ _ _ _)
end Go.Proofs.Ytgcjecmgjncclaa.Pe
