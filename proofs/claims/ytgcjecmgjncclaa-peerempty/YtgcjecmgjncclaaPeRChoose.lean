/-
  The document's Choose.
  Conditions: intervals and infos lie in memory; numbers of 64 bits.
-/
import Derived.Test.YtgcjecmgjncclaaPeInn
import Derived.Test.YtgcjecmgjncclaaPeRef2
import Derived.Test.YtgcjecmgjncclaaPeState
import Derived.Lib.AppendZerosOnto
namespace Go.Proofs.Ytgcjecmgjncclaa.Pe
open Go.RowKit By Fl Pz
set_option linter.unusedVariables false
set_option linter.unusedSimpArgs false
set_option maxRecDepth 100000
attribute [local go_sem] Oper.semAt_some

def chooseP (L : List Itv) (I : List Inf) (k : Int) : Cho × Int := if falls L = true ∧ 1 ≤ k then (goes 3 1 2 I k L, 0) else (zC, 1)
theorem falls_no : ∀ {L : List Itv} {j : Nat} {a b : Itv}, L[j]? = some a → L[j + 1]? = some b → a.fr ≤ b.fr → falls L = false
  | [], j, a, b, h, _, _ => by simp at h
  | [c], j, a, b, _, h, _ => by simp at h
  | c :: d :: L, 0, a, b, h1, h2, h => by
    injection h1 with h1
    injection h2 with h2
    subst h1 h2
    unfold falls
    rw [decide_eq_false (by omega)]
    rfl
  | c :: d :: L, j + 1, a, b, h1, h2, h => by
    unfold falls
    rw [falls_no (L := d :: L) (j := j) h1 h2 h, Bool.and_false]
theorem falls_yes : ∀ {L : List Itv}, (∀ (j : Nat) (a b : Itv), L[j]? = some a → L[j + 1]? = some b → b.fr < a.fr) → falls L = true
  | [], _ => rfl
  | [c], _ => rfl
  | c :: d :: L, h => by
    unfold falls
    rw [decide_eq_true (h 0 c d rfl rfl), falls_yes (L := d :: L) (fun j a b h1 h2 => h (j + 1) a b h1 h2)]
    rfl
theorem goes_drop {kS kW kE : Int} {I : List Inf} {k : Int} {L : List Itv} {t : Nat} {x : Itv} (h : L[t]? = some x) : goes kS kW kE I k (L.drop t) = if (many x : Int) < k then goes kS kW kE I k (L.drop (t + 1)) else
    if k ≤ ((pairs x (sel x I [])).length : Int) then { stateC x.fr (pairs x (sel x I [])) k with kind := kS } else
    if (sel x I []).any (lacks x) then goes kS kW kE I k (L.drop (t + 1)) else ⟨kW, 0, 0, []⟩ := by
  rw [drop_at h]
  rfl

/- What the call leaves. -/
def RC (w : World) (PP : Cho × Int) (e : Ending) (w' : World) : Prop := ∃ (v : CV) (z : Int), e = .returned (.tuple #[vC v, .int .i64 z]) ∧ Hid (CAt w' (New w w') v ∧ (pC v, z) = PP ∧ Below w.heap.size w w')
theorem RC.tell {w w1 wz W : World} {PP : Cho × Int} (v : CV) (z : Int) (h1 : Below w.heap.size w w1) (hs : w1.heap.size = w.heap.size + 1) (hz : Below w1.heap.size w1 wz) (hv : Ns wz (fun g => w1.heap.size ≤ g ∧ g < wz.heap.size) v.x v.n v.c v.W) (hp : (pC v, z) = PP) (t : Turns (fun k => k = w.heap.size) wz W) :
    RC w PP (.returned (.tuple #[vC v, .int .i64 z])) W := by
  have hzz := hz.size
  refine ⟨v, z, rfl, hid ⟨Ns.weak (hv.keeps (.turns t (fun g hg e => by omega))) (fun g hg => ⟨by omega, Nat.lt_of_lt_of_le hg.2 t.size⟩), hp, (on h1 hz).trans (t.below (fun q e => by omega) (by omega))⟩⟩
theorem turns4 {w : World} {g : Nat} (v0 v1 v2 v3 : Value) : Turns (fun k => k = g) w ((((w.setCell ⟨g, 0, none⟩ v0).setCell ⟨g, 1, none⟩ v1).setCell ⟨g, 2, none⟩ v2).setCell ⟨g, 3, none⟩ v3) := turns_put (turns_put (turns_put (turns_put (Turns.refl _ _) _ _) _ _) _ _) _ _

set_option maxHeartbeats 12800000 in
theorem rchoose_any {w : World} {F G : Nat → Prop} {x y : Option Addr} {n c m d : Nat} {L : List JV} {I : List FV} (k : Int) (hL : Js w F x n c L) (hI : Fs w G y m d I) (hos : ∀ i ∈ I, wfI i.os) :
    Calls Try.prog 14 #[.slice x n c, .slice y m d, .int .i64 k] w fun e w' => RC w (chooseP (L.map pJ) (I.map pF) k) e w' := by
  obtain ⟨PP, hPP⟩ : ∃ PP, PP = chooseP (L.map pJ) (I.map pF) k := ⟨_, rfl⟩
  have HNo : Hid (falls (L.map pJ) = false → PP = (zC, 1)) := hid fun h => by rw [hPP]; unfold chooseP; rw [h]; rfl
  have HLow : Hid (¬ 1 ≤ k → PP = (zC, 1)) := hid fun h => by rw [hPP]; unfold chooseP; rw [if_neg (fun q => h q.2)]
  have HYes : Hid (falls (L.map pJ) = true → 1 ≤ k → PP = (goes 3 1 2 (I.map pF) k ((L.map pJ).drop 0), 0)) := hid fun h1 h2 => by rw [hPP]; unfold chooseP; rw [if_pos ⟨h1, h2⟩]; rfl
  rw [← hPP]
  obtain ⟨w1, hw1⟩ : ∃ w1, w1 = w.alloc (.cells (CCells zCV) 35) := ⟨_, rfl⟩
  have bb := al w (.cells (CCells zCV) 35)
  have g0 := heap_alloc_new w (.cells (CCells zCV) 35)
  rw [← hw1] at bb g0
  have HB := hid bb
  have HSz : Hid (w1.heap.size = w.heap.size + 1) := hid (by rw [hw1]; simp)
  have HG0 : Hid (∀ W, Below w1.heap.size w1 W → W.heap[w.heap.size]? = some (.cells #[.int .i64 0, .int .i64 0, .int .i64 0, .slice none 0 0] 35 (0, 0))) := hid fun W hW => (hW.block _ (lt_heap g0)).trans g0
  have HL := hid hL
  have HI := hid hI
  have HOs := hid hos
  have HLn : Hid (L.length = n ∧ I.length = m) := hid ⟨hL.len, hI.len⟩
  have hs1 := hL.small
  have hs2 := hI.small
  unfold CCells zCV at hw1
  dsimp only at hw1
  clear hL hI hos bb g0 hPP
  go_enter Try.func14, Try.ntmps14
  go_upto_region 1 with (fail)
  rw [← hw1]
  clear hw1
  go_wp2_with fail
  go_loopw [8] (fun i wr => ∃ t : Nat, 1 ≤ t ∧ (t ≤ n ∨ t = 1) ∧ i = .int .i64 t ∧ Hid (Below w1.heap.size w1 wr ∧ ∀ (j : Nat) (a b : Itv), j + 1 < t → (L.map pJ)[j]? = some a → (L.map pJ)[j + 1]? = some b → b.fr < a.fr)) (fun i _ => n - (intOf i).toNat)
  case atStart => exact ⟨1, by omega, .inr rfl, rfl, Below.refl _ _, fun j a b h => by omega⟩
  case round =>
    obtain ⟨t, ht1, ht2, rfl, HR⟩ := hrel
    by_cases htn : t < n
    · have htn2 : (t : Int) < (n : Int) := by omega
      obtain ⟨s, hs⟩ : ∃ s, t = s + 1 := ⟨t - 1, by omega⟩
      have hw : IntKind.i64.wrap ((t : Int) - 1) = (s : Int) := by rw [IntKind.wrap_i64]; omega
      have hsn : (s : Int) < (n : Int) := by omega
      obtain ⟨a, ha, _⟩ := Lis.some HL.out (show s < n by omega)
      obtain ⟨b, hb, _⟩ := Lis.some HL.out htn
      rcases HL.out.row with hr0 | ⟨bl, o, hx, hbl, _, hc⟩
      · omega
      have k0 := (j_at hc ha).1
      have k1 := (j_at hc hb).1
      subst hx
      have hbw := on HB.out HR.out.1
      have r0 := After.cell (keep hbw k0)
      have r1 := After.cell (keep hbw k1)
      have HAB : Hid ((L.map pJ)[s]? = some (pJ a) ∧ (L.map pJ)[t]? = some (pJ b) ∧ t = s + 1) := hid ⟨by rw [List.getElem?_map, ha]; rfl, by rw [List.getElem?_map, hb]; rfl, hs⟩
      haveI := After.ne wr
      clear ha hb hc k0 k1 hbw hs
      by_cases hlt : b.fr < a.fr
      · have hlt2 : ¬ a.fr ≤ b.fr := by omega
        have HF : Hid (∀ (j : Nat) (a b : Itv), j + 1 < t + 1 → (L.map pJ)[j]? = some a → (L.map pJ)[j + 1]? = some b → b.fr < a.fr) := hid fun j a' b' hj h1 h2 => by
          by_cases e : j = s
          · subst e
            have e1 := Option.some.inj (HAB.out.1.symm.trans h1)
            have e2 := Option.some.inj ((show (L.map pJ)[j + 1]? = some (pJ b) by rw [← HAB.out.2.2]; exact HAB.out.2.1).symm.trans h2)
            subst e1 e2
            exact hlt
          · exact HR.out.2 j a' b' (by have := HAB.out.2.2; omega) h1 h2
        go_wp2_with fail
        refine wp_region_after (by kernel_rfl) (by kernel_rfl) ?_
        repeat (go_big_quiet_step (simp only []))
        refine wpQuiet_nil ?_
        rintro _ ⟨q, rfl⟩
        go_wp2_with fail
        go_roundw
        case rel => exact ⟨t + 1, by omega, .inl (by omega), by go_num, on HR.out.1 q.h, HF.out⟩
        case measure => simp [intOf]; omega
      · have hle : a.fr ≤ b.fr := by omega
        have HE : Hid (PP = (zC, 1)) := hid (HNo.out (falls_no HAB.out.1 (show (L.map pJ)[s + 1]? = some (pJ b) by rw [← HAB.out.2.2]; exact HAB.out.2.1) hle))
        go_wp2_with fail
        refine wp_region_after (by kernel_rfl) (by kernel_rfl) ?_
        repeat (go_big_quiet_step (simp only []))
        refine wpQuiet_nil ?_
        rintro _ ⟨q, rfl⟩
        have bq := on HR.out.1 q.h
        have gr := HG0.out _ bq
        obtain ⟨c0, c1, c2, c3⟩ := ccells gr
        have f0 := fr_heap gr 0
        have f1 := fr_heap gr 1
        have f2 := fr_heap gr 2
        have f3 := fr_heap gr 3
        have HBq := hid bq
        clear gr bq
        go_wp2_with fail
        refine bodyPost_ret (v := .tuple #[vC zCV, .int .i64 1]) ?_ rfl ?_
        · rw [results_cell2 rfl]
          unfold vC zCV
          go_simp
        · exact RC.tell zCV 1 HB.out HSz.out HBq.out (Lis.empty _ _) HE.out.symm (turns4 _ _ _ _)
    · have htn2 : ¬ (t : Int) < (n : Int) := by omega
      have HF : Hid (falls (L.map pJ) = true) := hid (falls_yes fun j a b h1 h2 => by
        have := (List.getElem?_eq_some_iff.1 h2).1
        rw [List.length_map, HLn.out.1] at this
        exact HR.out.2 j a b (by omega) h1 h2)
      by_cases hk : k < 1
      · have HE : Hid (PP = (zC, 1)) := hid (HLow.out (by omega))
        have gr := HG0.out _ HR.out.1
        obtain ⟨c0, c1, c2, c3⟩ := ccells gr
        have f0 := fr_heap gr 0
        have f1 := fr_heap gr 1
        have f2 := fr_heap gr 2
        have f3 := fr_heap gr 3
        clear gr
        go_wp2_with fail
        refine bodyPost_ret (v := .tuple #[vC zCV, .int .i64 1]) ?_ rfl ?_
        · rw [results_cell2 rfl]
          unfold vC zCV
          go_simp
        · exact RC.tell zCV 1 HB.out HSz.out HR.out.1 (Lis.empty _ _) HE.out.symm (turns4 _ _ _ _)
      have hk1 : (1 : Int) ≤ k := by omega
      have HGo := hid (HYes.out HF.out hk1)
      have HBr := hid HR.out.1
      clear HR HF HYes HNo HLow
      obtain ⟨wz, hwz⟩ : ∃ wz, wz = wr := ⟨_, rfl⟩
      subst hwz
      go_wp2_with fail
      go_loopw [9] (fun i wr => ∃ t : Nat, t ≤ n ∧ i = .int .i64 t ∧ Hid (Below w1.heap.size w1 wr ∧ PP = (goes 3 1 2 (I.map pF) k ((L.map pJ).drop t), 0))) (fun i _ => n - (intOf i).toNat)
      case atStart => exact ⟨0, by omega, rfl, HBr.out, HGo.out⟩
      case round =>
        clear HBr HGo
        obtain ⟨t, ht, rfl, HR⟩ := hrel
        by_cases htn : t < n
        rotate_left
        · have e1 : n = t := by omega
          subst e1
          have HE : Hid (PP = ((⟨2, 0, 0, []⟩ : Cho), 0)) := hid (by
            rw [HR.out.2, List.drop_eq_nil_of_le (by rw [List.length_map]; have := HLn.out.1; omega)]
            rfl)
          have gr := HG0.out _ HR.out.1
          obtain ⟨c0, c1, c2, c3⟩ := ccells gr
          have f0 := fr_heap gr 0
          have f1 := fr_heap gr 1
          have f2 := fr_heap gr 2
          have f3 := fr_heap gr 3
          clear gr
          go_wp2_with fail
          refine bodyPost_ret (v := .tuple #[vC ⟨2, 0, 0, none, 0, 0, []⟩, .int .i64 0]) ?_ rfl ?_
          · rw [results_cell2 rfl]
            unfold vC
            go_simp
          · exact RC.tell ⟨2, 0, 0, none, 0, 0, []⟩ 0 HB.out HSz.out HR.out.1 (Lis.empty _ _) HE.out.symm (turns4 _ _ _ _)
        have htn2 : (t : Int) < (n : Int) := by omega
        obtain ⟨v, hv, hvm⟩ := Lis.some HL.out htn
        rcases HL.out.row with hr0 | ⟨bl, o, hx, hbl, _, hc⟩
        · omega
        have kk := j_at hc hv
        subst hx
        have HJ : Hid (∀ W, Below w.heap.size w W → JAt W F v) := hid fun W hW => JAt.below (HL.out.each v hvm) hW
        have HGs : Hid (PP = (if (many (pJ v) : Int) < k then goes 3 1 2 (I.map pF) k ((L.map pJ).drop (t + 1)) else
            if k ≤ ((pairs (pJ v) (sel (pJ v) (I.map pF) [])).length : Int) then { stateC (pJ v).fr (pairs (pJ v) (sel (pJ v) (I.map pF) [])) k with kind := 3 } else
            if (sel (pJ v) (I.map pF) []).any (lacks (pJ v)) then goes 3 1 2 (I.map pF) k ((L.map pJ).drop (t + 1)) else ⟨1, 0, 0, []⟩, 0)) := hid (by rw [HR.out.2, goes_drop (show (L.map pJ)[t]? = some (pJ v) by rw [List.getElem?_map, hv]; rfl)])
        have hbw := on HB.out HR.out.1
        obtain ⟨kk0, kk1, kk2, kk3, kk4, kk5⟩ := kk
        have r0 := keep hbw kk0
        have r1 := keep hbw kk1
        have r2 := keep hbw kk2
        have r3 := keep hbw kk3
        have r4 := keep hbw kk4
        have r5 := keep hbw kk5
        clear kk0 kk1 kk2 kk3 kk4 kk5 hc hv hvm hbw hbl
        go_upto_region 12 with (fail)
        clear r0 r1 r2 r3 r4 r5
        obtain ⟨xb, hxb⟩ : ∃ xb, xb = wr.heap.size := ⟨_, rfl⟩
        obtain ⟨wx, hwx⟩ : ∃ wx, wx = wr.alloc (.cells #[.int .i64 v.fr, .int .i64 v.to, .slice v.x1 v.n1 v.c1, .slice v.x2 v.n2 v.c2, .slice v.x3 v.n3 v.c3, .int .i64 v.pr] 24) := ⟨_, rfl⟩
        have bx : Below wr.heap.size wr wx := by rw [hwx]; exact al _ _
        have gx : wx.heap[xb]? = some (.cells (JCells v) 24 (0, 0)) := by rw [hwx, hxb]; exact heap_alloc_new _ _
        rw [← hwx, ← hxb]
        have HBx := hid (on HR.out.1 bx)
        have HGx := hid gx
        have cM := many_any (HJ.out wx (on HB.out HBx.out))
        unfold vJ at cM
        obtain ⟨q0, q1, q2, q3, q4, q5⟩ := jcells gx
        clear hwx hxb bx gx HR
        by_cases hm : (many (pJ v) : Int) < k
        · have HE := hid (HGs.out.trans (by rw [if_pos hm]))
          go_wp2_with (go_at_call 26; refine cM.mono ?_; rintro e wm ⟨rfl, hb⟩; have HBm := hid hb; clear hb cM)
          go_roundw
          case rel => exact ⟨t + 1, by omega, by go_num, on HBx.out HBm.out, HE.out⟩
          case measure => simp [intOf]; omega
        have HGt := hid (HGs.out.trans (by rw [if_neg hm]))
        go_upto_region 13 with (go_at_call 26; refine cM.mono ?_; rintro e wA ⟨rfl, hb⟩; have HBA := hid (on HBx.out hb); have HKx : Hid (∀ W, Below wA.heap.size wA W → W.heap[xb]? = some (.cells (JCells v) 24 (0, 0))) := hid fun W hW => ((on hb hW).block _ (lt_heap HGx.out)).trans HGx.out; clear hb cM)
        clear q0 q1 q2 q3 q4 q5 HGs HGx hm
        have HM0 := hid (Mm.start wA)
        have HS0 := hid (Seen.start (pJ v) (I.map pF))
        have hmk : ∀ W : World, (Instr.makeMap 46 none).run Try.prog W = .ok (.map (some W.heap.size)) (W.alloc (.map #[] 0)) := fun W => by kernel_rfl
        go_upto_region 15 with (fail)
        clear hmk
        obtain ⟨mb, hmb⟩ : ∃ mb, mb = wA.heap.size + 2 := ⟨_, rfl⟩
        rw [← hmb] at HM0
        try rw [show wA.heap.size + 1 + 1 = mb by omega]
        clear hmb
        generalize ((wA.alloc (.cells #[] 3)).alloc (.cells #[] 3)).alloc (.map #[] 0) = wi at *
        go_wp2_with fail
        go_loopw [15, 14, 11, 12] (fun i lv hv wv wr => ∃ (t2 : Nat) (lb : Bool) (x1 : Option Addr) (n1 c1 : Nat) (x2 : Option Addr) (n2 c2 : Nat), t2 ≤ m ∧ i = .int .i64 t2 ∧ lv = .bool lb ∧ hv = .slice x1 n1 c1 ∧ wv = .slice x2 n2 c2 ∧
          Hid (∃ (S : List Inf) (M : List Int) (nb : Nat) (D : DataW Value) (H W : List Int), nb ≤ t2 ∧ Mm wA wr mb nb D M (.slice x1 n1 c1) (.slice x2 n2 c2) H W ∧ Seen (pJ v) (I.map pF) t2 S M lb H W)) (fun i _ _ _ _ => m - (intOf i).toNat)
        case atStart => exact ⟨0, false, _, _, _, _, _, _, by omega, rfl, rfl, rfl, rfl, _, _, _, _, _, _, Nat.le_refl _, HM0.out, HS0.out⟩
        case round =>
          clear HM0 HS0
          obtain ⟨t2, lb, x1, n1, c1, x2, n2, c2, ht2, rfl, rfl, rfl, rfl, HR⟩ := hrel
          obtain ⟨S, M, nb, D, H, W, hnb, hM, hS⟩ := HR.out
          by_cases hm2 : t2 < m
          rotate_left
          · have e1 : m = t2 := by omega
            subst e1
            have hall := hS.all (by rw [List.length_map]; exact HLn.out.2)
            obtain ⟨P, hP⟩ : ∃ P, P = pairs (pJ v) S := ⟨_, rfl⟩
            have hH : H = P.map (·.1) := by rw [hP]; exact hS.hd
            have hW : W = P.map (·.2) := by rw [hP]; exact hS.wh
            have HGu : Hid (PP = (if k ≤ (P.length : Int) then { stateC (pJ v).fr P k with kind := 3 } else if lb then goes 3 1 2 (I.map pF) k ((L.map pJ).drop (t + 1)) else ⟨1, 0, 0, []⟩, 0)) := hid (by rw [HGt.out, hP, hS.lk, hall])
            have hn1 : n1 = P.length := by
              obtain ⟨x', c', e, _⟩ := hM.o1.form
              injection e with _ e2 _
              rw [e2, hH, List.length_map]
            have HBe := hid (on HBA.out hM.bel)
            have gx := HKx.out wr hM.bel
            have px := cell_heap (j := 0) gx rfl
            by_cases hk : k ≤ (n1 : Int)
            · have HE : Hid (PP = ({ stateC (pJ v).fr P k with kind := 3 }, 0)) := hid (by rw [HGu.out, if_pos (by rw [← hn1]; exact hk)])
              have cS := state_any (P := P) (x := x1) (n := n1) (c := c1) (y := x2) (m := n2) (d := c2) v.fr k (by rw [← hH]; exact own_lis (F := fun _ => True) nrow hM.o1 (by have := hS.len; omega) (fun _ _ => trivial) (fun _ _ => trivial)) (by rw [← hW]; exact own_lis (F := fun _ => True) nrow hM.o2 (by have := hS.len; omega) (fun _ _ => trivial) (fun _ _ => trivial))
              clear hM hS hall hP hH hW hn1 gx HGu HR
              go_wp2_with (go_at_call 27; refine cS.mono ?_; rintro e ws ⟨v', rfl, HV⟩; have HBs := hid (on HBe.out HV.out.2.2); have gr := HG0.out _ HBs.out; obtain ⟨c0, c1, c2, c3⟩ := ccells gr; have f0 := fr_heap gr 0; have f1 := fr_heap gr 1; have f2 := fr_heap gr 2; have f3 := fr_heap gr 3; unfold vC; clear gr cS)
              refine bodyPost_ret (v := .tuple #[vC v', .int .i64 0]) ?_ rfl ?_
              · rw [results_cell2 rfl]
                unfold vC
                go_simp
              · exact RC.tell v' 0 HB.out HSz.out HBs.out (Ns.weak HV.out.1 (fun g hg => ⟨Nat.le_trans HBe.out.size hg.1, hg.2⟩)) (by rw [HV.out.2.1, HE.out]; rfl) (turns4 _ _ _ _)
            cases lb with
            | true =>
              have HE := hid (HGu.out.trans (by rw [if_neg (by rw [← hn1]; exact hk), if_pos rfl]))
              clear hM hS hall hP hH hW hn1 gx HGu HR
              go_wp2_with fail
              go_roundw
              case rel => exact ⟨t + 1, by omega, by go_num, HBe.out, HE.out⟩
              case measure => simp [intOf]; omega
            | false =>
              have HE : Hid (PP = ((⟨1, 0, 0, []⟩ : Cho), 0)) := hid (HGu.out.trans (by rw [if_neg (by rw [← hn1]; exact hk), if_neg (by simp)]))
              clear hM hS hall hP hH hW hn1 gx HGu HR
              have gr := HG0.out _ HBe.out
              obtain ⟨c0, c1, c2, c3⟩ := ccells gr
              have f0 := fr_heap gr 0
              have f1 := fr_heap gr 1
              have f2 := fr_heap gr 2
              have f3 := fr_heap gr 3
              clear gr
              go_wp2_with fail
              refine bodyPost_ret (v := .tuple #[vC ⟨1, 0, 0, none, 0, 0, []⟩, .int .i64 0]) ?_ rfl ?_
              · rw [results_cell2 rfl]
                unfold vC
                go_simp
              · exact RC.tell ⟨1, 0, 0, none, 0, 0, []⟩ 0 HB.out HSz.out HBe.out (Lis.empty _ _) HE.out.symm (turns4 _ _ _ _)
          have hm22 : (t2 : Int) < (m : Int) := by omega
          obtain ⟨u, hu, hum⟩ := Lis.some HI.out hm2
          rcases HI.out.row with hr0 | ⟨bl2, o2, hx2, hbl2, _, hc2⟩
          · omega
          obtain ⟨kk0, kk1, kk2, kk3, kk4⟩ := f_at hc2 hu
          subst hx2
          have hbw := on HB.out (on HBA.out hM.bel)
          have r0 := keep hbw kk0
          have r1 := keep hbw kk1
          have r2 := keep hbw kk2
          have r3 := keep hbw kk3
          have r4 := keep hbw kk4
          have HU : Hid (∀ W, Below w.heap.size w W → FAt W G u) := hid fun W hW => FAt.below (HI.out.each u hum) hW
          have HE : Hid ((I.map pF)[t2]? = some (pF u)) := hid (by rw [List.getElem?_map, hu]; rfl)
          have hos := HOs.out u hum
          have HSn := hid hS
          have HMm := hid hM
          have HNb := hid hnb
          clear kk0 kk1 kk2 kk3 kk4 hc2 hu hum hbw hbl2 hS hM HR hnb
          go_upto_region 20 with (fail)
          clear r0 r1 r2 r3 r4
          obtain ⟨yb, hyb⟩ : ∃ yb, yb = wr.heap.size := ⟨_, rfl⟩
          obtain ⟨wy, hwy⟩ : ∃ wy, wy = wr.alloc (.cells #[.int .i64 u.os, .int .i64 u.li, .int .i64 u.no, .int .i64 u.he, .slice u.x u.n u.c] 27) := ⟨_, rfl⟩
          have by_ : Below wr.heap.size wr wy := by rw [hwy]; exact al _ _
          have gy : wy.heap[yb]? = some (.cells (FCells u) 27 (0, 0)) := by rw [hwy, hyb]; exact heap_alloc_new _ _
          rw [← hwy, ← hyb]
          have HMy := hid (HMm.out.below by_)
          have HGy := hid gy
          have HYb : Hid (mb < yb ∧ (∀ g, (Value.slice x1 n1 c1).ownBlock = some g → g < yb)) := hid ⟨by rw [hyb]; exact HMm.out.mp.lt, fun g hg => by rw [hyb]; exact (World.ownsRow.lt HMm.out.o1 g hg).2⟩
          have HBw : Hid (∀ W, Below wA.heap.size wA W → Below w.heap.size w W) := hid fun W hW => on HB.out (on HBA.out hW)
          have cP := place_any (HJ.out wy (HBw.out _ HMy.out.bel)) u.os u.li
          obtain ⟨p, hp⟩ : ∃ p, p = plc v.A v.V u.os u.li 0 := ⟨_, rfl⟩
          rw [← hp] at cP
          have hc : p < 0 ↔ counts (pJ v) (pF u) = false := by rw [hp]; exact plc_neg v u.os u.li
          have gx := HKx.out wy HMy.out.bel
          obtain ⟨q0, q1, q2, q3, q4, q5⟩ := jcells gx
          obtain ⟨s0, s1, _, _, _⟩ := fcells gy
          unfold vJ at cP
          clear hwy hyb by_ gy gx hp HMm
          cases hcnt : counts (pJ v) (pF u) with
          | false =>
            have hp0 : p < 0 := hc.2 hcnt
            have HE2 := hid (HSn.out.skip HE.out (by rw [hcnt]; rfl))
            clear hc hcnt
            go_wp2_with (go_at_call 20; refine cP.mono ?_; rintro e wp ⟨rfl, hb⟩; have HMp := hid (HMy.out.below hb); clear hb cP)
            go_roundw
            case rel => exact ⟨t2 + 1, lb, _, _, _, _, _, _, by omega, by go_num, rfl, rfl, rfl, S, M, nb, D, H, W, by have := HNb.out; omega, HMp.out, HE2.out⟩
            case measure => simp [intOf]; omega
          | true =>
            have hp0 : 0 ≤ p := by
              by_cases q : p < 0
              · rw [hc.1 q] at hcnt; cases hcnt
              · omega
            have HC := hid hcnt
            clear hc hcnt
            cases hmet : M.contains u.os with
            | true =>
              have HMet := hid hmet
              have HE2 := hid (HSn.out.skip HE.out (by rw [HC.out, show (pF u).os = u.os from rfl, hmet]; rfl))
              clear hmet
              go_wp2_with (go_at_call 20; refine cP.mono ?_; rintro e wp ⟨rfl, hb⟩; have HMp := hid (HMy.out.below hb); have hl := HMp.out.mp.look hos; rw [HMet.out] at hl; have s0' := keep hb s0; clear hb cP)
              go_roundw
              case rel => exact ⟨t2 + 1, lb, _, _, _, _, _, _, by omega, by go_num, rfl, rfl, rfl, S, M, nb, D, H, W, by have := HNb.out; omega, HMp.out, HE2.out⟩
              case measure => simp [intOf]; omega
            | false =>
              have HMet := hid hmet
              clear hmet
              have hcd : (counts (pJ v) (pF u) && !M.contains (pF u).os) = true := by rw [HC.out, show (pF u).os = u.os from rfl, HMet.out]; rfl
              obtain ⟨lq, hlq⟩ : ∃ lq, lq = lacks (pJ v) (pF u) := ⟨_, rfl⟩
              have HLac : Hid (∀ W, Below w.heap.size w W → Calls Try.prog 11 #[.agg #[.int .i64 v.fr, .int .i64 v.to, .slice v.x1 v.n1 v.c1, .slice v.x2 v.n2 v.c2, .slice v.x3 v.n3 v.c3, .int .i64 v.pr], .agg #[.int .i64 u.os, .int .i64 u.li, .int .i64 u.no, .int .i64 u.he, .slice u.x u.n u.c]] W fun e w' => e = .returned (.bool lq) ∧ Below W.heap.size W w') := hid fun W hW => by rw [hlq]; exact lacks_any (HJ.out W hW) (HU.out W hW)
              have HHs0 : Hid (∀ W, Below w.heap.size w W → Calls Try.prog 9 #[.agg #[.int .i64 v.fr, .int .i64 v.to, .slice v.x1 v.n1 v.c1, .slice v.x2 v.n2 v.c2, .slice v.x3 v.n3 v.c3, .int .i64 v.pr], .agg #[.int .i64 u.os, .int .i64 u.li, .int .i64 u.no, .int .i64 u.he, .slice u.x u.n u.c]] W fun e w' => e = .returned (.tuple #[.int .i64 ((hasI (pJ v) (pF u)).getD 0), .bool (hasI (pJ v) (pF u)).isSome]) ∧ Below W.heap.size W w') := hid fun W hW => has_any (HJ.out W hW) (HU.out W hW)
              cases hhs : hasI (pJ v) (pF u) with
              | none =>
                have HHas := HHs0
                rw [hhs] at HHas
                dsimp only [Option.getD_none, Option.isSome_none] at HHas
                have HTk := hid (HSn.out.none HE.out hcd hhs)
                rw [← hlq] at HTk
                clear hhs hlq hcd HHs0
                cases lb with
                | true =>
                  go_wp2_with (first
                    | (go_at_call 20; refine cP.mono ?_; rintro e wp ⟨rfl, hb⟩; have HMp := hid (HMy.out.below hb); have hl := HMp.out.mp.look hos; rw [HMet.out] at hl; have s0' := keep hb s0; obtain ⟨w5, D5, hput, H5⟩ := HMp.out.put hos (by have := HNb.out; omega); have gx := HKx.out w5 H5.out.1.bel; have gy := (H5.out.2.block yb (Nat.lt_of_lt_of_le (lt_heap HGy.out) hb.size) (by have := HYb.out.1; omega)).trans ((hb.block yb (lt_heap HGy.out)).trans HGy.out); obtain ⟨ax0, ax1, ax2, ax3, ax4, ax5⟩ := jcells gx; obtain ⟨ay0, ay1, ay2, ay3, ay4⟩ := fcells gy; have HX5 := hid (And.intro gx gy); clear gx gy hb cP q0 q1 q2 q3 q4 q5 s0 s1)
                    | (go_at_call 9; refine (HHas.out w5 (HBw.out _ H5.out.1.bel)).mono ?_; rintro e w7 ⟨rfl, hb7⟩; have HM7 := hid (H5.out.1.below hb7); have gy7 := (hb7.block yb (lt_heap HX5.out.2)).trans HX5.out.2; clear gy7 hb7 ax0 ax1 ax2 ax3 ax4 ax5 ay0 ay1 ay2 ay3 ay4))
                  go_roundw
                  case rel => exact ⟨t2 + 1, true, _, _, _, _, _, _, by omega, by go_num, rfl, rfl, rfl, S ++ [pF u], u.os :: M, nb + 1, D5, _, _, by have := HNb.out; omega, HM7.out, HTk.out⟩
                  case measure => simp [intOf]; omega
                | false =>
                  go_wp2_with (first
                    | (go_at_call 20; refine cP.mono ?_; rintro e wp ⟨rfl, hb⟩; have HMp := hid (HMy.out.below hb); have hl := HMp.out.mp.look hos; rw [HMet.out] at hl; have s0' := keep hb s0; obtain ⟨w5, D5, hput, H5⟩ := HMp.out.put hos (by have := HNb.out; omega); have gx := HKx.out w5 H5.out.1.bel; have gy := (H5.out.2.block yb (Nat.lt_of_lt_of_le (lt_heap HGy.out) hb.size) (by have := HYb.out.1; omega)).trans ((hb.block yb (lt_heap HGy.out)).trans HGy.out); obtain ⟨ax0, ax1, ax2, ax3, ax4, ax5⟩ := jcells gx; obtain ⟨ay0, ay1, ay2, ay3, ay4⟩ := fcells gy; have HX5 := hid (And.intro gx gy); clear gx gy hb cP q0 q1 q2 q3 q4 q5 s0 s1)
                    | (go_at_call 11; refine (HLac.out w5 (HBw.out _ H5.out.1.bel)).mono ?_; rintro e w6 ⟨rfl, hb6⟩; have HM6 := hid (H5.out.1.below hb6); have gx := (hb6.block xb (lt_heap HX5.out.1)).trans HX5.out.1; have gy := (hb6.block yb (lt_heap HX5.out.2)).trans HX5.out.2; obtain ⟨bx0, bx1, bx2, bx3, bx4, bx5⟩ := jcells gx; obtain ⟨by0, by1, by2, by3, by4⟩ := fcells gy; have HX6 := hid (And.intro gx gy); clear gx gy hb6 ax0 ax1 ax2 ax3 ax4 ax5 ay0 ay1 ay2 ay3 ay4)
                    | (go_at_call 9; refine (HHas.out w6 (HBw.out _ HM6.out.bel)).mono ?_; rintro e w7 ⟨rfl, hb7⟩; have HM7 := hid (HM6.out.below hb7); have gy7 := (hb7.block yb (lt_heap HX6.out.2)).trans HX6.out.2; clear gy7 hb7 bx0 bx1 bx2 bx3 bx4 bx5 by0 by1 by2 by3 by4))
                  go_roundw
                  case rel => exact ⟨t2 + 1, lq, _, _, _, _, _, _, by omega, by go_num, rfl, rfl, rfl, S ++ [pF u], u.os :: M, nb + 1, D5, _, _, by have := HNb.out; omega, HM7.out, HTk.out⟩
                  case measure => simp [intOf]; omega
              | some hz =>
                have HHas := HHs0
                rw [hhs] at HHas
                dsimp only [Option.getD_some, Option.isSome_some] at HHas
                have HTk := hid (HSn.out.some HE.out hcd hhs)
                rw [← hlq] at HTk
                clear hhs hlq hcd HHs0
                cases lb with
                | true =>
                  go_wp2_with (first
                    | (go_at_call 20; refine cP.mono ?_; rintro e wp ⟨rfl, hb⟩; have HMp := hid (HMy.out.below hb); have hl := HMp.out.mp.look hos; rw [HMet.out] at hl; have s0' := keep hb s0; obtain ⟨w5, D5, hput, H5⟩ := HMp.out.put hos (by have := HNb.out; omega); have gx := HKx.out w5 H5.out.1.bel; have gy := (H5.out.2.block yb (Nat.lt_of_lt_of_le (lt_heap HGy.out) hb.size) (by have := HYb.out.1; omega)).trans ((hb.block yb (lt_heap HGy.out)).trans HGy.out); obtain ⟨ax0, ax1, ax2, ax3, ax4, ax5⟩ := jcells gx; obtain ⟨ay0, ay1, ay2, ay3, ay4⟩ := fcells gy; have HX5 := hid (And.intro gx gy); clear gx gy hb cP q0 q1 q2 q3 q4 q5 s0 s1)
                    | (go_at_call 9; refine (HHas.out w5 (HBw.out _ H5.out.1.bel)).mono ?_; rintro e w7 ⟨rfl, hb7⟩; have HM7 := hid (H5.out.1.below hb7); have gy7 := (hb7.block yb (lt_heap HX5.out.2)).trans HX5.out.2; obtain ⟨xa, na, ca, w8, hap1, H8⟩ := HM7.out.push1 hz (by have := HSn.out.len; omega); have gy8 := (H8.out.2.block yb (lt_heap gy7) (fun e => by have := HYb.out.2 yb e; omega)).trans gy7; obtain ⟨y0, _, _, _, _⟩ := fcells gy8; obtain ⟨xc, nc, cc, w9, hap2, H9⟩ := H8.out.1.push2 u.os (by have := HSn.out.len; omega); clear gy8; clear gy7 hb7 ax0 ax1 ax2 ax3 ax4 ax5 ay0 ay1 ay2 ay3 ay4)
                    | (first | (at_builtin; refine Lib.wpList_append_run _ rfl _ _ _ _ rfl _ _ rfl rfl _ _ hap1 ?_; clear hap1) | (at_builtin; refine Lib.wpList_append_run _ rfl _ _ _ _ rfl _ _ rfl rfl _ _ hap2 ?_)))
                  go_roundw
                  case rel => exact ⟨t2 + 1, true, _, _, _, _, _, _, by omega, by go_num, rfl, rfl, rfl, S ++ [pF u], u.os :: M, nb + 1, D5, _, _, by have := HNb.out; omega, H9.out, HTk.out⟩
                  case measure => simp [intOf]; omega
                | false =>
                  go_wp2_with (first
                    | (go_at_call 20; refine cP.mono ?_; rintro e wp ⟨rfl, hb⟩; have HMp := hid (HMy.out.below hb); have hl := HMp.out.mp.look hos; rw [HMet.out] at hl; have s0' := keep hb s0; obtain ⟨w5, D5, hput, H5⟩ := HMp.out.put hos (by have := HNb.out; omega); have gx := HKx.out w5 H5.out.1.bel; have gy := (H5.out.2.block yb (Nat.lt_of_lt_of_le (lt_heap HGy.out) hb.size) (by have := HYb.out.1; omega)).trans ((hb.block yb (lt_heap HGy.out)).trans HGy.out); obtain ⟨ax0, ax1, ax2, ax3, ax4, ax5⟩ := jcells gx; obtain ⟨ay0, ay1, ay2, ay3, ay4⟩ := fcells gy; have HX5 := hid (And.intro gx gy); clear gx gy hb cP q0 q1 q2 q3 q4 q5 s0 s1)
                    | (go_at_call 11; refine (HLac.out w5 (HBw.out _ H5.out.1.bel)).mono ?_; rintro e w6 ⟨rfl, hb6⟩; have HM6 := hid (H5.out.1.below hb6); have gx := (hb6.block xb (lt_heap HX5.out.1)).trans HX5.out.1; have gy := (hb6.block yb (lt_heap HX5.out.2)).trans HX5.out.2; obtain ⟨bx0, bx1, bx2, bx3, bx4, bx5⟩ := jcells gx; obtain ⟨by0, by1, by2, by3, by4⟩ := fcells gy; have HX6 := hid (And.intro gx gy); clear gx gy hb6 ax0 ax1 ax2 ax3 ax4 ax5 ay0 ay1 ay2 ay3 ay4)
                    | (go_at_call 9; refine (HHas.out w6 (HBw.out _ HM6.out.bel)).mono ?_; rintro e w7 ⟨rfl, hb7⟩; have HM7 := hid (HM6.out.below hb7); have gy7 := (hb7.block yb (lt_heap HX6.out.2)).trans HX6.out.2; obtain ⟨xa, na, ca, w8, hap1, H8⟩ := HM7.out.push1 hz (by have := HSn.out.len; omega); have gy8 := (H8.out.2.block yb (lt_heap gy7) (fun e => by have := HYb.out.2 yb e; omega)).trans gy7; obtain ⟨y0, _, _, _, _⟩ := fcells gy8; obtain ⟨xc, nc, cc, w9, hap2, H9⟩ := H8.out.1.push2 u.os (by have := HSn.out.len; omega); clear gy8; clear gy7 hb7 bx0 bx1 bx2 bx3 bx4 bx5 by0 by1 by2 by3 by4)
                    | (first | (at_builtin; refine Lib.wpList_append_run _ rfl _ _ _ _ rfl _ _ rfl rfl _ _ hap1 ?_; clear hap1) | (at_builtin; refine Lib.wpList_append_run _ rfl _ _ _ _ rfl _ _ rfl rfl _ _ hap2 ?_)))
                  go_roundw
                  case rel => exact ⟨t2 + 1, lq, _, _, _, _, _, _, by omega, by go_num, rfl, rfl, rfl, S ++ [pF u], u.os :: M, nb + 1, D5, _, _, by have := HNb.out; omega, H9.out, HTk.out⟩
                  case measure => simp [intOf]; omega

end Go.Proofs.Ytgcjecmgjncclaa.Pe
