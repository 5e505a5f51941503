/-
  PeerEmpty: nothing is taken for the state just if each interval that enough keep is lacked by one that counts for it, and fewer than K have it.
  Conditions: none.
-/
import Derived.Test.YtgcjecmgjncclaaRows
import Derived.WalkKit
import Derived.ProofKit
import Derived.OpenShut
import Derived.SizedLaws
import Derived.ShutString
import Derived.ChangeOld
import Derived.Below
import Derived.Test.YtgcjecmgjncclaaByRows
import Derived.Test.YtgcjecmgjncclaaPeItem
import Derived.Test.YtgcjecmgjncclaaPeAwake
import Derived.Test.YtgcjecmgjncclaaPeCounts
namespace Go.Proofs.Ytgcjecmgjncclaa.peerEmpty
open Go.ChangeShapes Go.WideShapes Go.ChangeAt Go.RowKit By
open Fl Pz Pe
attribute [local go_sem] Oper.semAt_some
set_option linter.unusedVariables false
set_option linter.unusedSimpArgs false
set_option maxRecDepth 100000

theorem own : ownKnob Try.prog.godebug = none := by kernel_rfl
theorem laidOut : laidOutB Try.prog = true := by kernel_rfl

theorem cho_ok {L : List Itv} {I : List Inf} {k : Int} {c : Cho} {z : Int} (h : (c, z) = chooseP L I k) (hz : z = 0) : falls L = true ∧ c = goes 3 1 2 I k L := by
  unfold chooseP at h
  by_cases q : falls L = true ∧ 1 ≤ k
  · rw [if_pos q] at h
    exact ⟨q.1, congrArg Prod.fst h⟩
  · rw [if_neg q] at h
    have := congrArg Prod.snd h
    dsimp only at this
    omega
def pb (I : List Inf) (k : Int) (x : Itv) : Bool := decide ((many x : Int) < k) || ((sel x I []).any (lacks x) && decide (((pairs x (sel x I [])).length : Int) < k))
theorem all_is {L : List Itv} {I : List Inf} {k : Int} {c : Cho} (h : c = goes 3 1 2 I k L) : (c.kind == 2) = L.all (pb I k) := by
  rw [Bool.eq_iff_iff, beq_iff_eq, h, empties (by omega) (by omega), List.all_eq_true]
  refine forall_congr' fun x => forall_congr' fun hx => ?_
  unfold pb
  rw [Bool.or_eq_true, Bool.and_eq_true, decide_eq_true_eq, decide_eq_true_eq]
  constructor
  · intro q
    by_cases m : (many x : Int) < k
    · exact .inl m
    · exact .inr (q (by omega))
  · rintro (q | q) hk
    · omega
    · exact q
theorem all_step {L : List Itv} {I : List Inf} {k : Int} {t : Nat} {x : Itv} (h : L[t]? = some x) : (L.take (t + 1)).all (pb I k) = ((L.take t).all (pb I k) && pb I k x) := by
  rw [List.take_add_one, h, List.all_append]
  simp

set_option maxHeartbeats 12800000 in
theorem walk (x : Option Addr) (n c : Nat) (L : List JV) (y : Option Addr) (m d : Nat) (I : List FV) (k : Int) (w : World) (hL : Lis enJ 6 JAt w (fun _ => True) x n c L) (_ : n * 96 ≤ 140737488351232) (hI : Lis enF 5 FIn w (fun _ => True) y m d I) (_ : m * 56 ≤ 140737488351232) :
    Calls Try.prog 7 #[.slice x n c, .slice y m d, .int .i64 k] w fun e w' => e = .returned (.bool true) ∧ Below w.heap.size w w' := by
  obtain ⟨hF, hos⟩ := fin_fs hI
  have C1 := pchoose_any k hL hF hos (by omega)
  have HA := hid awake_any
  have HL : Hid (Js w (fun _ => True) x n c L) := hid hL
  have HI : Hid (Fs w (fun _ => True) y m d I) := hid hF
  have HOs := hid hos
  have HLn : Hid (L.length = n ∧ I.length = m) := hid ⟨hL.len, hI.len⟩
  have hs1 := hL.small
  have hs2 := hI.small
  clear hL hI hF hos
  go_enter Try.func7, Try.ntmps7
  go_upto_region 2 with (go_at_call 13; refine C1.mono ?_; rintro e wa ⟨v0, z, rfl, HV⟩; unfold vC; clear C1)
  obtain ⟨p, hp⟩ : ∃ p, p = wa.heap.size := ⟨_, rfl⟩
  obtain ⟨wb, hwb⟩ : ∃ wb, wb = wa.alloc (.cells #[.int .i64 v0.kind, .int .i64 v0.si, .int .i64 v0.he, .slice v0.x v0.n v0.c] 35) := ⟨_, rfl⟩
  have bb : Below wa.heap.size wa wb := by rw [hwb]; exact al _ _
  have gb : wb.heap[p]? = some (.cells #[.int .i64 v0.kind, .int .i64 v0.si, .int .i64 v0.he, .slice v0.x v0.n v0.c] 35 (0, 0)) := by rw [hwb, hp]; exact heap_alloc_new _ _
  rw [← hwb, ← hp]
  have HBb := hid (on HV.out.2.2 bb)
  have HKc : Hid (∀ W, Below wb.heap.size wb W → W.heap[p]? = some (.cells #[.int .i64 v0.kind, .int .i64 v0.si, .int .i64 v0.he, .slice v0.x v0.n v0.c] 35 (0, 0))) := hid fun W hW => (hW.block _ (lt_heap gb)).trans gb
  have HOk := hid (fun hz => cho_ok HV.out.2.1 hz)
  clear hp hwb bb gb HV
  by_cases hz : z = 0
  rotate_left
  · have hz2 : (z != 0) = true := by simp [hz]
    clear hz
    go_wp2_with (go_at_call 12; refine (HA.out wb).mono ?_; rintro e wf ⟨rfl, hb⟩; have HBf := hid hb; clear hb)
    go_ret
    exact ⟨rfl, on HBb.out HBf.out⟩
  have HAl := hid (all_is (HOk.out hz).2)
  subst hz
  clear HOk
  go_wp2_with fail
  go_loopw [10, 9] (fun i ev wr => ∃ (t : Nat) (em : Bool), t ≤ n ∧ i = .int .i64 t ∧ ev = .bool em ∧ Hid (Below wb.heap.size wb wr ∧ em = ((L.map pJ).take t).all (pb (I.map pF) k))) (fun i _ _ => n - (intOf i).toNat)
  case atStart => exact ⟨0, true, by omega, rfl, rfl, Below.refl _ _, rfl⟩
  case round =>
    obtain ⟨t, em, ht, rfl, rfl, HR⟩ := hrel
    by_cases htn : t < n
    rotate_left
    · have e1 : n = t := by omega
      subst e1
      have hb : (v0.kind == 2) = em := by
        have e := HAl.out
        rw [HR.out.2, List.take_of_length_le (by rw [List.length_map]; have := HLn.out.1; omega)]
        exact e
      obtain ⟨p0, p1, p2, p3⟩ := ccells (HKc.out wr HR.out.1)
      cases em <;> (
        go_wp2_with (go_at_call 12; refine (HA.out wr).mono ?_; rintro e wf ⟨rfl, hb⟩; have HBf := hid hb; clear hb)
        go_ret
        exact ⟨rfl, on HBb.out (on HR.out.1 HBf.out)⟩)
    have htn2 : (t : Int) < (n : Int) := by omega
    obtain ⟨v, hv, hvm⟩ := Lis.some HL.out htn
    rcases HL.out.row with hr0 | ⟨bl, o, hx, hbl, _, hc⟩
    · omega
    have HKl : Hid (∀ W, Below w.heap.size w W → _) := hid fun W hW => (fun (h : _ ∧ _ ∧ _ ∧ _ ∧ _ ∧ _) => And.intro (keep hW h.1) (And.intro (keep hW h.2.1) (And.intro (keep hW h.2.2.1) (And.intro (keep hW h.2.2.2.1) (And.intro (keep hW h.2.2.2.2.1) (keep hW h.2.2.2.2.2)))))) (j_at hc hv)
    subst hx
    have HJ : Hid (∀ W, Below w.heap.size w W → JAt W (fun _ => True) v) := hid fun W hW => JAt.below (HL.out.each v hvm) hW
    have HSt := hid (all_step (I := I.map pF) (k := k) (show (L.map pJ)[t]? = some (pJ v) by rw [List.getElem?_map, hv]; rfl))
    have HBr0 := hid (on HBb.out HR.out.1)
    have cM := count_any (HJ.out wr HBr0.out)
    unfold vJ at cM
    obtain ⟨s0, s1, s2, s3, s4, s5⟩ := HKl.out wr HBr0.out
    clear hv hvm hc hbl
    by_cases hm : (many (pJ v) : Int) < k
    · have HE : Hid (em = ((L.map pJ).take (t + 1)).all (pb (I.map pF) k)) := hid (by
        rw [HSt.out, ← HR.out.2]
        unfold pb
        rw [decide_eq_true hm, Bool.true_or, Bool.and_true])
      go_wp2_with (go_at_call 16; refine cM.mono ?_; rintro e wc ⟨rfl, hb⟩; have HBc := hid hb; clear hb cM)
      go_roundw
      case rel => exact ⟨t + 1, em, by omega, by go_num, rfl, on HR.out.1 HBc.out, HE.out⟩
      case measure => simp [intOf]; omega
    have HSt2 : Hid (((L.map pJ).take (t + 1)).all (pb (I.map pF) k) = (em && ((sel (pJ v) (I.map pF) []).any (lacks (pJ v)) && decide (((pairs (pJ v) (sel (pJ v) (I.map pF) [])).length : Int) < k)))) := hid (by
      rw [HSt.out, ← HR.out.2]
      unfold pb
      rw [decide_eq_false hm, Bool.false_or])
    go_upto_region 10 with (go_at_call 16; refine cM.mono ?_; rintro e wA ⟨rfl, hb⟩; have HBA0 := hid (on HR.out.1 hb); clear hb cM s0 s1 s2 s3 s4 s5)
    clear hm HSt HR HBr0
    have hmk : ∀ W : World, (Instr.makeMap 46 none).run Try.prog W = .ok (.map (some W.heap.size)) (W.alloc (.map #[] 0)) := fun W => by kernel_rfl
    go_upto_region 11 with (fail)
    clear hmk
    have HM0 := hid (BmAt.new wA)
    have HB0 := hid (al wA (.map #[] 0))
    have HS0 := hid (Seen.start (pJ v) (I.map pF))
    obtain ⟨mb, hmb⟩ : ∃ mb, mb = wA.heap.size := ⟨_, rfl⟩
    have HMb : Hid (wA.heap.size ≤ mb) := hid (by omega)
    rw [← hmb] at HM0 ⊢
    clear hmb
    have HBw : Hid (∀ W, Below wA.heap.size wA W → Below w.heap.size w W) := hid fun W hW => on HBb.out (on HBA0.out hW)
    generalize wA.alloc (.map #[] 0) = wi at *
    go_wp2_with fail
    go_loopw [14, 11, 12] (fun i lv hv wr => ∃ (t2 : Nat) (lb : Bool) (hn : Nat), t2 ≤ m ∧ hn ≤ t2 ∧ i = .int .i64 t2 ∧ lv = .bool lb ∧ hv = .int .i64 hn ∧
      Hid (∃ (S : List Inf) (M : List Int) (nb : Nat) (D : DataW Value) (H W : List Int), nb ≤ t2 ∧ hn = H.length ∧ Below wA.heap.size wA wr ∧ BmAt wr mb nb D M ∧ Seen (pJ v) (I.map pF) t2 S M lb H W)) (fun i _ _ _ => m - (intOf i).toNat)
    case atStart => exact ⟨0, false, 0, by omega, by omega, rfl, rfl, rfl, _, _, _, _, _, _, Nat.le_refl _, rfl, HB0.out, HM0.out, HS0.out⟩
    case round =>
      clear HM0 HS0 HB0
      obtain ⟨t2, lb, hn, ht2, hnt, rfl, rfl, rfl, HR⟩ := hrel
      obtain ⟨S, M, nb, D, H, W, hnb, hhn, hbA, hbm, hS⟩ := HR.out
      by_cases hm2 : t2 < m
      rotate_left
      · have e1 : m = t2 := by omega
        subst e1
        have hall := hS.all (by rw [List.length_map]; exact HLn.out.2)
        have hhl : (pairs (pJ v) (sel (pJ v) (I.map pF) [])).length = hn := by rw [hhn, hS.hd, List.length_map, hall]
        have HF : Hid (((L.map pJ).take (t + 1)).all (pb (I.map pF) k) = (em && (lb && decide ((hn : Int) < k)))) := hid (by rw [HSt2.out, hhl, hS.lk, ← hall])
        have HBe := hid (on HBA0.out hbA)
        clear hall hhl hnb hhn hbA hbm hS HR
        by_cases hk : (hn : Int) < k
        · have hk2 : decide ((hn : Int) < k) = true := decide_eq_true hk
          have HF2 : Hid ((em && lb) = ((L.map pJ).take (t + 1)).all (pb (I.map pF) k)) := hid (by rw [HF.out, hk2, Bool.and_true])
          clear hk2
          cases em <;> cases lb <;> (
            go_wp2_with fail
            go_roundw
            case rel => exact ⟨t + 1, _, by omega, by go_num, rfl, HBe.out, HF2.out⟩
            case measure => simp [intOf]; omega)
        · have hk2 : decide ((hn : Int) < k) = false := decide_eq_false hk
          have HF2 : Hid (false = ((L.map pJ).take (t + 1)).all (pb (I.map pF) k)) := hid (by rw [HF.out, hk2, Bool.and_false, Bool.and_false])
          clear hk2
          cases em <;> cases lb <;> (
            go_wp2_with fail
            go_roundw
            case rel => exact ⟨t + 1, _, by omega, by go_num, rfl, HBe.out, HF2.out⟩
            case measure => simp [intOf]; omega)
      have hm22 : (t2 : Int) < (m : Int) := by omega
      obtain ⟨u, hu, hum⟩ := Lis.some HI.out hm2
      rcases HI.out.row with hr0 | ⟨bl2, o2, hx2, hbl2, _, hc2⟩
      · omega
      have HKy : Hid (∀ W, Below w.heap.size w W → _) := hid fun W hW => (fun (h : _ ∧ _ ∧ _ ∧ _ ∧ _) => And.intro (keep hW h.1) (And.intro (keep hW h.2.1) (And.intro (keep hW h.2.2.1) (And.intro (keep hW h.2.2.2.1) (keep hW h.2.2.2.2))))) (f_at hc2 hu)
      subst hx2
      have HU : Hid (∀ W, Below w.heap.size w W → FAt W (fun _ => True) u) := hid fun W hW => FAt.below (HI.out.each u hum) hW
      have HE : Hid ((I.map pF)[t2]? = some (pF u)) := hid (by rw [List.getElem?_map, hu]; rfl)
      have hos := HOs.out u hum
      have HSn := hid hS
      have HBm := hid hbm
      have HNb := hid hnb
      have HHn := hid hhn
      have HBA := hid hbA
      have HBr := hid (HBw.out wr hbA)
      have cC := fun p : After wr => counts_any u (HJ.out p.W (on HBr.out p.h))
      have hl := fun p : After wr => (HBm.out.below p.h).look hos
      unfold vJ vF at cC
      clear hc2 hu hum hbl2 hS hbm HR hnb hhn hbA
      cases hmt : M.contains u.os with
      | true =>
        rw [hmt] at hl
        have HE2 := hid (HSn.out.skip HE.out (by rw [show (pF u).os = u.os from rfl, hmt, Bool.not_true, Bool.and_false]))
        clear hmt
        obtain ⟨s0, s1, s2, s3, s4, s5⟩ := HKl.out wr HBr.out
        obtain ⟨k0, k1, k2, k3, k4⟩ := HKy.out wr HBr.out
        have e0 := After.cell s0
        have e1 := After.cell s1
        have e2 := After.cell s2
        have e3 := After.cell s3
        have e4 := After.cell s4
        have e5 := After.cell s5
        have f0 := After.cell k0
        have f1 := After.cell k1
        have f2 := After.cell k2
        have f3 := After.cell k3
        have f4 := After.cell k4
        clear s0 s1 s2 s3 s4 s5 k0 k1 k2 k3 k4
        haveI := After.ne wr
        go_wp2_with fail
        refine wp_region_after (by kernel_rfl) (by kernel_rfl) ?_
        repeat (go_big_quiet_step ((first | (go_at_call 17; with_reducible refine Calls.after_of (cC _)))))
        refine wpQuiet_nil ?_
        rintro _ ⟨Z, rfl⟩
        clear e0 e1 e2 e3 e4 e5 f0 f1 f2 f3 f4 cC hl
        go_wp2_with fail
        go_roundw
        case rel => exact ⟨t2 + 1, lb, hn, by omega, by omega, by go_num, rfl, rfl, S, M, nb, D, H, W, by have := HNb.out; omega, HHn.out, on HBA.out Z.h, HBm.out.below Z.h, HE2.out⟩
        case measure => simp [intOf]; omega
      | false =>
        rw [hmt] at hl
        cases hcn : counts (pJ v) (pF u) with
        | false =>
          rw [hcn] at cC
          have HE2 := hid (HSn.out.skip HE.out (by rw [hcn]; rfl))
          clear hmt hcn
          obtain ⟨s0, s1, s2, s3, s4, s5⟩ := HKl.out wr HBr.out
          obtain ⟨k0, k1, k2, k3, k4⟩ := HKy.out wr HBr.out
          have e0 := After.cell s0
          have e1 := After.cell s1
          have e2 := After.cell s2
          have e3 := After.cell s3
          have e4 := After.cell s4
          have e5 := After.cell s5
          have f0 := After.cell k0
          have f1 := After.cell k1
          have f2 := After.cell k2
          have f3 := After.cell k3
          have f4 := After.cell k4
          clear s0 s1 s2 s3 s4 s5 k0 k1 k2 k3 k4
          haveI := After.ne wr
          go_wp2_with fail
          refine wp_region_after (by kernel_rfl) (by kernel_rfl) ?_
          repeat (go_big_quiet_step ((first | (go_at_call 17; with_reducible refine Calls.after_of (cC _)))))
          refine wpQuiet_nil ?_
          rintro _ ⟨Z, rfl⟩
          clear e0 e1 e2 e3 e4 e5 f0 f1 f2 f3 f4 cC hl
          go_wp2_with fail
          go_roundw
          case rel => exact ⟨t2 + 1, lb, hn, by omega, by omega, by go_num, rfl, rfl, S, M, nb, D, H, W, by have := HNb.out; omega, HHn.out, on HBA.out Z.h, HBm.out.below Z.h, HE2.out⟩
          case measure => simp [intOf]; omega
        | true =>
          rw [hcn] at cC
          have hcd : (counts (pJ v) (pF u) && !M.contains (pF u).os) = true := by rw [hcn, show (pF u).os = u.os from rfl, hmt]; rfl
          obtain ⟨lq, hlq⟩ : ∃ lq, lq = lacks (pJ v) (pF u) := ⟨_, rfl⟩
          have HLac : Hid (∀ W, Below w.heap.size w W → Calls Try.prog 11 #[.agg #[.int .i64 v.fr, .int .i64 v.to, .slice v.x1 v.n1 v.c1, .slice v.x2 v.n2 v.c2, .slice v.x3 v.n3 v.c3, .int .i64 v.pr], .agg #[.int .i64 u.os, .int .i64 u.li, .int .i64 u.no, .int .i64 u.he, .slice u.x u.n u.c]] W fun e w' => e = .returned (.bool lq) ∧ Below W.heap.size W w') := hid fun W hW => by rw [hlq]; exact lacks_any (HJ.out W hW) (HU.out W hW)
          have HHs0 : Hid (∀ W, Below w.heap.size w W → Calls Try.prog 9 #[.agg #[.int .i64 v.fr, .int .i64 v.to, .slice v.x1 v.n1 v.c1, .slice v.x2 v.n2 v.c2, .slice v.x3 v.n3 v.c3, .int .i64 v.pr], .agg #[.int .i64 u.os, .int .i64 u.li, .int .i64 u.no, .int .i64 u.he, .slice u.x u.n u.c]] W fun e w' => e = .returned (.tuple #[.int .i64 ((hasI (pJ v) (pF u)).getD 0), .bool (hasI (pJ v) (pF u)).isSome]) ∧ Below W.heap.size W w') := hid fun W hW => has_any (HJ.out W hW) (HU.out W hW)
          clear hmt hcn
          cases hhs : hasI (pJ v) (pF u) with
          | none =>
            have HHas := HHs0
            rw [hhs] at HHas
            dsimp only [Option.getD_none, Option.isSome_none] at HHas
            have HTk := hid (HSn.out.none HE.out hcd hhs)
            rw [← hlq] at HTk
            clear hhs hlq hcd HHs0
            cases lb with
            | true =>
              obtain ⟨s0, s1, s2, s3, s4, s5⟩ := HKl.out wr HBr.out
              obtain ⟨k0, k1, k2, k3, k4⟩ := HKy.out wr HBr.out
              have e0 := After.cell s0
              have e1 := After.cell s1
              have e2 := After.cell s2
              have e3 := After.cell s3
              have e4 := After.cell s4
              have e5 := After.cell s5
              have f0 := After.cell k0
              have f1 := After.cell k1
              have f2 := After.cell k2
              have f3 := After.cell k3
              have f4 := After.cell k4
              clear s0 s1 s2 s3 s4 s5 k0 k1 k2 k3 k4
              haveI := After.ne wr
              go_wp2_with fail
              refine wp_region_after (by kernel_rfl) (by kernel_rfl) ?_
              repeat (go_big_quiet_step ((first | (go_at_call 17; with_reducible refine Calls.after_of (cC _)))))
              refine wpQuiet_nil ?_
              rintro _ ⟨Z, rfl⟩
              clear e0 e1 e2 e3 e4 e5 f0 f1 f2 f3 f4 cC hl
              have HBz := hid (on HBr.out Z.h)
              have HAz := hid (on HBA.out Z.h)
              have HMz := hid (HBm.out.below Z.h)
              have cH := fun p : After Z.W => HHas.out p.W (on HBz.out p.h)
              obtain ⟨s0, s1, s2, s3, s4, s5⟩ := HKl.out Z.W HBz.out
              obtain ⟨k0, k1, k2, k3, k4⟩ := HKy.out Z.W HBz.out
              have e0 := After.cell s0
              have e1 := After.cell s1
              have e2 := After.cell s2
              have e3 := After.cell s3
              have e4 := After.cell s4
              have e5 := After.cell s5
              have f0 := After.cell k0
              have f1 := After.cell k1
              have f2 := After.cell k2
              have f3 := After.cell k3
              have f4 := After.cell k4
              clear s0 s1 s2 s3 s4 s5 k0 k1 k2 k3 k4
              haveI := After.ne Z.W
              go_upto_region 15 with (fail)
              refine wp_region_after (by kernel_rfl) (by kernel_rfl) ?_
              repeat (go_big_quiet_step ((first | (go_at_call 9; with_reducible refine Calls.after_of (cH _)))))
              refine wpQuiet_nil ?_
              rintro _ ⟨Y, rfl⟩
              clear e0 e1 e2 e3 e4 e5 f0 f1 f2 f3 f4 cH
              have HBy := hid (on HBz.out Y.h)
              have HAy := hid (on HAz.out Y.h)
              have HMy := hid (HMz.out.below Y.h)
              obtain ⟨w5, D5, hput, H5⟩ := HMy.out.put hos (by have := HNb.out; omega)
              have HA5 := hid (HAy.out.trans (H5.out.2.below (fun q e => by have := HMb.out; omega) HAy.out.size))
              have HB5 := hid (HBw.out w5 HA5.out)
              obtain ⟨k0, k1, k2, k3, k4⟩ := HKy.out Y.W HBy.out
              clear k1 k2 k3 k4
              have cL := fun p : After w5 => HLac.out p.W (on HB5.out p.h)
              go_upto_region 17 with (fail)
              clear k0 hput
              obtain ⟨s0, s1, s2, s3, s4, s5⟩ := HKl.out w5 HB5.out
              obtain ⟨k0, k1, k2, k3, k4⟩ := HKy.out w5 HB5.out
              have e0 := After.cell s0
              have e1 := After.cell s1
              have e2 := After.cell s2
              have e3 := After.cell s3
              have e4 := After.cell s4
              have e5 := After.cell s5
              have f0 := After.cell k0
              have f1 := After.cell k1
              have f2 := After.cell k2
              have f3 := After.cell k3
              have f4 := After.cell k4
              clear s0 s1 s2 s3 s4 s5 k0 k1 k2 k3 k4
              haveI := After.ne w5
              refine wp_region_after (by kernel_rfl) (by kernel_rfl) ?_
              repeat (go_big_quiet_step ((first | (go_at_call 11; with_reducible refine Calls.after_of (cL _)))))
              refine wpQuiet_nil ?_
              rintro _ ⟨X, rfl⟩
              clear e0 e1 e2 e3 e4 e5 f0 f1 f2 f3 f4 cL
              go_wp2_with fail
              go_roundw
              case rel => exact ⟨t2 + 1, true, hn, by omega, by omega, by go_num, rfl, rfl, S ++ [pF u], u.os :: M, nb + 1, D5, _, _, by have := HNb.out; omega, HHn.out, on HA5.out X.h, H5.out.1.below X.h, HTk.out⟩
              case measure => simp [intOf]; omega
            | false =>
              obtain ⟨s0, s1, s2, s3, s4, s5⟩ := HKl.out wr HBr.out
              obtain ⟨k0, k1, k2, k3, k4⟩ := HKy.out wr HBr.out
              have e0 := After.cell s0
              have e1 := After.cell s1
              have e2 := After.cell s2
              have e3 := After.cell s3
              have e4 := After.cell s4
              have e5 := After.cell s5
              have f0 := After.cell k0
              have f1 := After.cell k1
              have f2 := After.cell k2
              have f3 := After.cell k3
              have f4 := After.cell k4
              clear s0 s1 s2 s3 s4 s5 k0 k1 k2 k3 k4
              haveI := After.ne wr
              go_wp2_with fail
              refine wp_region_after (by kernel_rfl) (by kernel_rfl) ?_
              repeat (go_big_quiet_step ((first | (go_at_call 17; with_reducible refine Calls.after_of (cC _)))))
              refine wpQuiet_nil ?_
              rintro _ ⟨Z, rfl⟩
              clear e0 e1 e2 e3 e4 e5 f0 f1 f2 f3 f4 cC hl
              have HBz := hid (on HBr.out Z.h)
              have HAz := hid (on HBA.out Z.h)
              have HMz := hid (HBm.out.below Z.h)
              have cH := fun p : After Z.W => HHas.out p.W (on HBz.out p.h)
              obtain ⟨s0, s1, s2, s3, s4, s5⟩ := HKl.out Z.W HBz.out
              obtain ⟨k0, k1, k2, k3, k4⟩ := HKy.out Z.W HBz.out
              have e0 := After.cell s0
              have e1 := After.cell s1
              have e2 := After.cell s2
              have e3 := After.cell s3
              have e4 := After.cell s4
              have e5 := After.cell s5
              have f0 := After.cell k0
              have f1 := After.cell k1
              have f2 := After.cell k2
              have f3 := After.cell k3
              have f4 := After.cell k4
              clear s0 s1 s2 s3 s4 s5 k0 k1 k2 k3 k4
              haveI := After.ne Z.W
              go_upto_region 15 with (fail)
              refine wp_region_after (by kernel_rfl) (by kernel_rfl) ?_
              repeat (go_big_quiet_step ((first | (go_at_call 9; with_reducible refine Calls.after_of (cH _)))))
              refine wpQuiet_nil ?_
              rintro _ ⟨Y, rfl⟩
              clear e0 e1 e2 e3 e4 e5 f0 f1 f2 f3 f4 cH
              have HBy := hid (on HBz.out Y.h)
              have HAy := hid (on HAz.out Y.h)
              have HMy := hid (HMz.out.below Y.h)
              obtain ⟨w5, D5, hput, H5⟩ := HMy.out.put hos (by have := HNb.out; omega)
              have HA5 := hid (HAy.out.trans (H5.out.2.below (fun q e => by have := HMb.out; omega) HAy.out.size))
              have HB5 := hid (HBw.out w5 HA5.out)
              obtain ⟨k0, k1, k2, k3, k4⟩ := HKy.out Y.W HBy.out
              clear k1 k2 k3 k4
              have cL := fun p : After w5 => HLac.out p.W (on HB5.out p.h)
              go_upto_region 17 with (fail)
              clear k0 hput
              obtain ⟨s0, s1, s2, s3, s4, s5⟩ := HKl.out w5 HB5.out
              obtain ⟨k0, k1, k2, k3, k4⟩ := HKy.out w5 HB5.out
              have e0 := After.cell s0
              have e1 := After.cell s1
              have e2 := After.cell s2
              have e3 := After.cell s3
              have e4 := After.cell s4
              have e5 := After.cell s5
              have f0 := After.cell k0
              have f1 := After.cell k1
              have f2 := After.cell k2
              have f3 := After.cell k3
              have f4 := After.cell k4
              clear s0 s1 s2 s3 s4 s5 k0 k1 k2 k3 k4
              haveI := After.ne w5
              refine wp_region_after (by kernel_rfl) (by kernel_rfl) ?_
              repeat (go_big_quiet_step ((first | (go_at_call 11; with_reducible refine Calls.after_of (cL _)))))
              refine wpQuiet_nil ?_
              rintro _ ⟨X, rfl⟩
              clear e0 e1 e2 e3 e4 e5 f0 f1 f2 f3 f4 cL
              go_wp2_with fail
              go_roundw
              case rel => exact ⟨t2 + 1, lq, hn, by omega, by omega, by go_num, rfl, rfl, S ++ [pF u], u.os :: M, nb + 1, D5, _, _, by have := HNb.out; omega, HHn.out, on HA5.out X.h, H5.out.1.below X.h, HTk.out⟩
              case measure => simp [intOf]; omega
          | some hz =>
            have HHas := HHs0
            rw [hhs] at HHas
            dsimp only [Option.getD_some, Option.isSome_some] at HHas
            have HTk := hid (HSn.out.some HE.out hcd hhs)
            rw [← hlq] at HTk
            clear hhs hlq hcd HHs0
            cases lb with
            | true =>
              obtain ⟨s0, s1, s2, s3, s4, s5⟩ := HKl.out wr HBr.out
              obtain ⟨k0, k1, k2, k3, k4⟩ := HKy.out wr HBr.out
              have e0 := After.cell s0
              have e1 := After.cell s1
              have e2 := After.cell s2
              have e3 := After.cell s3
              have e4 := After.cell s4
              have e5 := After.cell s5
              have f0 := After.cell k0
              have f1 := After.cell k1
              have f2 := After.cell k2
              have f3 := After.cell k3
              have f4 := After.cell k4
              clear s0 s1 s2 s3 s4 s5 k0 k1 k2 k3 k4
              haveI := After.ne wr
              go_wp2_with fail
              refine wp_region_after (by kernel_rfl) (by kernel_rfl) ?_
              repeat (go_big_quiet_step ((first | (go_at_call 17; with_reducible refine Calls.after_of (cC _)))))
              refine wpQuiet_nil ?_
              rintro _ ⟨Z, rfl⟩
              clear e0 e1 e2 e3 e4 e5 f0 f1 f2 f3 f4 cC hl
              have HBz := hid (on HBr.out Z.h)
              have HAz := hid (on HBA.out Z.h)
              have HMz := hid (HBm.out.below Z.h)
              have cH := fun p : After Z.W => HHas.out p.W (on HBz.out p.h)
              obtain ⟨s0, s1, s2, s3, s4, s5⟩ := HKl.out Z.W HBz.out
              obtain ⟨k0, k1, k2, k3, k4⟩ := HKy.out Z.W HBz.out
              have e0 := After.cell s0
              have e1 := After.cell s1
              have e2 := After.cell s2
              have e3 := After.cell s3
              have e4 := After.cell s4
              have e5 := After.cell s5
              have f0 := After.cell k0
              have f1 := After.cell k1
              have f2 := After.cell k2
              have f3 := After.cell k3
              have f4 := After.cell k4
              clear s0 s1 s2 s3 s4 s5 k0 k1 k2 k3 k4
              haveI := After.ne Z.W
              go_upto_region 15 with (fail)
              refine wp_region_after (by kernel_rfl) (by kernel_rfl) ?_
              repeat (go_big_quiet_step ((first | (go_at_call 9; with_reducible refine Calls.after_of (cH _)))))
              refine wpQuiet_nil ?_
              rintro _ ⟨Y, rfl⟩
              clear e0 e1 e2 e3 e4 e5 f0 f1 f2 f3 f4 cH
              have HBy := hid (on HBz.out Y.h)
              have HAy := hid (on HAz.out Y.h)
              have HMy := hid (HMz.out.below Y.h)
              obtain ⟨w5, D5, hput, H5⟩ := HMy.out.put hos (by have := HNb.out; omega)
              have HA5 := hid (HAy.out.trans (H5.out.2.below (fun q e => by have := HMb.out; omega) HAy.out.size))
              have HB5 := hid (HBw.out w5 HA5.out)
              obtain ⟨k0, k1, k2, k3, k4⟩ := HKy.out Y.W HBy.out
              clear k1 k2 k3 k4
              have cL := fun p : After w5 => HLac.out p.W (on HB5.out p.h)
              go_upto_region 17 with (fail)
              clear k0 hput
              obtain ⟨s0, s1, s2, s3, s4, s5⟩ := HKl.out w5 HB5.out
              obtain ⟨k0, k1, k2, k3, k4⟩ := HKy.out w5 HB5.out
              have e0 := After.cell s0
              have e1 := After.cell s1
              have e2 := After.cell s2
              have e3 := After.cell s3
              have e4 := After.cell s4
              have e5 := After.cell s5
              have f0 := After.cell k0
              have f1 := After.cell k1
              have f2 := After.cell k2
              have f3 := After.cell k3
              have f4 := After.cell k4
              clear s0 s1 s2 s3 s4 s5 k0 k1 k2 k3 k4
              haveI := After.ne w5
              refine wp_region_after (by kernel_rfl) (by kernel_rfl) ?_
              repeat (go_big_quiet_step ((first | (go_at_call 11; with_reducible refine Calls.after_of (cL _)))))
              refine wpQuiet_nil ?_
              rintro _ ⟨X, rfl⟩
              clear e0 e1 e2 e3 e4 e5 f0 f1 f2 f3 f4 cL
              go_wp2_with fail
              go_roundw
              case rel => exact ⟨t2 + 1, true, hn + 1, by omega, by omega, by go_num, rfl, by go_num, S ++ [pF u], u.os :: M, nb + 1, D5, _, _, by have := HNb.out; omega, by rw [List.length_append, ← HHn.out]; rfl, on HA5.out X.h, H5.out.1.below X.h, HTk.out⟩
              case measure => simp [intOf]; omega
            | false =>
              obtain ⟨s0, s1, s2, s3, s4, s5⟩ := HKl.out wr HBr.out
              obtain ⟨k0, k1, k2, k3, k4⟩ := HKy.out wr HBr.out
              have e0 := After.cell s0
              have e1 := After.cell s1
              have e2 := After.cell s2
              have e3 := After.cell s3
              have e4 := After.cell s4
              have e5 := After.cell s5
              have f0 := After.cell k0
              have f1 := After.cell k1
              have f2 := After.cell k2
              have f3 := After.cell k3
              have f4 := After.cell k4
              clear s0 s1 s2 s3 s4 s5 k0 k1 k2 k3 k4
              haveI := After.ne wr
              go_wp2_with fail
              refine wp_region_after (by kernel_rfl) (by kernel_rfl) ?_
              repeat (go_big_quiet_step ((first | (go_at_call 17; with_reducible refine Calls.after_of (cC _)))))
              refine wpQuiet_nil ?_
              rintro _ ⟨Z, rfl⟩
              clear e0 e1 e2 e3 e4 e5 f0 f1 f2 f3 f4 cC hl
              have HBz := hid (on HBr.out Z.h)
              have HAz := hid (on HBA.out Z.h)
              have HMz := hid (HBm.out.below Z.h)
              have cH := fun p : After Z.W => HHas.out p.W (on HBz.out p.h)
              obtain ⟨s0, s1, s2, s3, s4, s5⟩ := HKl.out Z.W HBz.out
              obtain ⟨k0, k1, k2, k3, k4⟩ := HKy.out Z.W HBz.out
              have e0 := After.cell s0
              have e1 := After.cell s1
              have e2 := After.cell s2
              have e3 := After.cell s3
              have e4 := After.cell s4
              have e5 := After.cell s5
              have f0 := After.cell k0
              have f1 := After.cell k1
              have f2 := After.cell k2
              have f3 := After.cell k3
              have f4 := After.cell k4
              clear s0 s1 s2 s3 s4 s5 k0 k1 k2 k3 k4
              haveI := After.ne Z.W
              go_upto_region 15 with (fail)
              refine wp_region_after (by kernel_rfl) (by kernel_rfl) ?_
              repeat (go_big_quiet_step ((first | (go_at_call 9; with_reducible refine Calls.after_of (cH _)))))
              refine wpQuiet_nil ?_
              rintro _ ⟨Y, rfl⟩
              clear e0 e1 e2 e3 e4 e5 f0 f1 f2 f3 f4 cH
              have HBy := hid (on HBz.out Y.h)
              have HAy := hid (on HAz.out Y.h)
              have HMy := hid (HMz.out.below Y.h)
              obtain ⟨w5, D5, hput, H5⟩ := HMy.out.put hos (by have := HNb.out; omega)
              have HA5 := hid (HAy.out.trans (H5.out.2.below (fun q e => by have := HMb.out; omega) HAy.out.size))
              have HB5 := hid (HBw.out w5 HA5.out)
              obtain ⟨k0, k1, k2, k3, k4⟩ := HKy.out Y.W HBy.out
              clear k1 k2 k3 k4
              have cL := fun p : After w5 => HLac.out p.W (on HB5.out p.h)
              go_upto_region 17 with (fail)
              clear k0 hput
              obtain ⟨s0, s1, s2, s3, s4, s5⟩ := HKl.out w5 HB5.out
              obtain ⟨k0, k1, k2, k3, k4⟩ := HKy.out w5 HB5.out
              have e0 := After.cell s0
              have e1 := After.cell s1
              have e2 := After.cell s2
              have e3 := After.cell s3
              have e4 := After.cell s4
              have e5 := After.cell s5
              have f0 := After.cell k0
              have f1 := After.cell k1
              have f2 := After.cell k2
              have f3 := After.cell k3
              have f4 := After.cell k4
              clear s0 s1 s2 s3 s4 s5 k0 k1 k2 k3 k4
              haveI := After.ne w5
              refine wp_region_after (by kernel_rfl) (by kernel_rfl) ?_
              repeat (go_big_quiet_step ((first | (go_at_call 11; with_reducible refine Calls.after_of (cL _)))))
              refine wpQuiet_nil ?_
              rintro _ ⟨X, rfl⟩
              clear e0 e1 e2 e3 e4 e5 f0 f1 f2 f3 f4 cL
              go_wp2_with fail
              go_roundw
              case rel => exact ⟨t2 + 1, lq, hn + 1, by omega, by omega, by go_num, rfl, by go_num, S ++ [pF u], u.os :: M, nb + 1, D5, _, _, by have := HNb.out; omega, by rw [List.length_append, ← HHn.out]; rfl, on HA5.out X.h, H5.out.1.below X.h, HTk.out⟩
              case measure => simp [intOf]; omega

set_option maxRecDepth 100000 in
theorem lifted (os : Os) (started : os.Started) (H : Type) (enc : TypeId × Value → H) :
    ReturnsInHanded {} Try.checked os 7 .any (Rows.peerEmptySpec.pre6 enc Try.prog Try.f7 Rows.peerEmptyRow.domain false) (Rows.peerEmptySpec.post enc Try.prog Try.f7 false true false false) := by
  refine returnsInHanded_of_change_sized (C := Try.checked) own started (by kernel_rfl) Try.func7
    (ChangeSpec.witness6 (enc := enc) (C := Try.checked) false ⟨#[], #[.slice none 0 0, .slice none 0 0, .int .i64 0], []⟩ 8 (by kernel_rfl) (by kernel_rfl) (by kernel_rfl) (by kernel_rfl)) ?_
  intro W base args ds gs before hval0 hW hcnd hsz0 _
  have hsz : (DataW.weightsEach Try.prog (Try.f7.params.toList ++ Rows.peerEmptySpec.plain.varTypes Try.prog) (ds ++ gs)).all (· ≤ reachBytes) = true := hsz0
  have hval : ∀ (j : Nat) t v, Try.f7.params[j]? = some t → args[j]? = some v → Value.okWide Try.prog W .any base t v := hval0
  have hW' := hW
  obtain ⟨p, q, hA0, hV, rfl, hfz, hnd⟩ := hW
  have hA : DataW.TrodAll enc Try.prog W 0 (fun _ => true) true Try.f7.params.toList args.toList ds p := hA0
  rw [Try.params7] at hA hval hsz
  obtain ⟨v0, vs0, d0, ds0, p0, q0, hargs, rfl, rfl, h0, r0⟩ := trodAll_cons hA
  obtain ⟨v1, vs1, d1, ds1, p1, q1, rfl, rfl, rfl, h1, r1⟩ := trodAll_cons r0
  obtain ⟨v2, vs2, d2, ds2, p2, q2, rfl, rfl, rfl, h2, r2⟩ := trodAll_cons r1
  obtain ⟨rfl, rfl, rfl⟩ := trodAll_nil r2
  obtain rfl : args = #[v0, v1, v2] := by cases args; simp_all
  obtain ⟨rfl, rfl⟩ := trodVars_none hV
  have k0 := h0
  have lt0 : ∀ x ∈ p0, x.block < W.heap.size := by obtain ⟨m, hm⟩ := k0; exact DataW.trod_lt m _ _ _ hm
  have s0 : ∀ x ∈ d0.weights Try.prog 32, x ≤ reachBytes := fun x hx => by
    have := List.all_eq_true.1 hsz x (DataW.weights_mem_each (j := 0) rfl rfl x hx)
    simpa using this
  obtain ⟨b0, nn0, cc0, rfl⟩ := okWide_slice Try.underlying32 (hval 0 32 v0 rfl rfl)
  obtain ⟨fu0, hf0⟩ := h0
  obtain ⟨a0, len0, cap0, V0, e0, w0, m0⟩ := Pe.itvs_in hf0 s0
  simp [Value.cells] at e0
  obtain ⟨rfl, rfl, rfl⟩ := e0
  have k1 := h1
  have lt1 : ∀ x ∈ p1, x.block < W.heap.size := by obtain ⟨m, hm⟩ := k1; exact DataW.trod_lt m _ _ _ hm
  have s1 : ∀ x ∈ d1.weights Try.prog 33, x ≤ reachBytes := fun x hx => by
    have := List.all_eq_true.1 hsz x (DataW.weights_mem_each (j := 1) rfl rfl x hx)
    simpa using this
  obtain ⟨b1, nn1, cc1, rfl⟩ := okWide_slice Try.underlying33 (hval 1 33 v1 rfl rfl)
  obtain ⟨fu1, hf1⟩ := h1
  obtain ⟨a1, len1, cap1, V1, e1, w1, m1⟩ := Pe.infos_in hf1 s1
  simp [Value.cells] at e1
  obtain ⟨rfl, rfl, rfl⟩ := e1
  obtain ⟨a2, rfl, rfl, rfl, w2⟩ := open_int Try.underlying3 (hval 2 3 v2 rfl rfl) h2
  clear hA0 hval0
  refine (walk b0 nn0 cc0 V0 b1 nn1 cc1 V1 a2 W w0 m0 w1 m1).mono fun e W' ⟨he, bel⟩ => ?_
  subst he
  exact ⟨_, rfl, _, _, _, [], _, [], hW', trodAll_mk1 (shut_bool Try.underlying4 _), (trodAll_cons_mk (Below.trod laidOut (by kernel_rfl) (of_decide_eq_true (by kernel_rfl)) k0 bel lt0) (trodAll_cons_mk (Below.trod laidOut (by kernel_rfl) (of_decide_eq_true (by kernel_rfl)) k1 bel lt1) (trodAll_cons_mk (shut_int Try.underlying3 w2) trodAll_mk0))), rfl, bel.frame _, fun h => by cases h⟩

theorem over : Rows.peerEmptyRow.holds Try.pinned (OpenSpec.ofChange Rows.peerEmptySpec) :=
  OpenClaim.holds_of_wide 7 Try.f7 rfl rfl rfl rfl rfl rfl rfl ⟨rfl, rfl, rfl, rfl, rfl⟩ rfl rfl rfl rfl rfl (by kernel_rfl) Try.func7 (by kernel_rfl)
    (of_decide_eq_true (by kernel_rfl)) (by unfold Func.isWrapper; first | (rw [if_pos (by decide +kernel)]; kernel_rfl) | (rw [if_neg (by decide +kernel)]; exact ⟨rfl, rfl⟩))
    (fun os started H enc _ => lifted os started H enc)

theorem proved : Rows.PeerEmptySaid := over
#print axioms proved
end Go.Proofs.Ytgcjecmgjncclaa.peerEmpty
