/-
  PeerMore: infos more never lead from a state back to an elder one.
  Conditions: none.
-/
import Derived.Test.YtgcjecmgjncclaaRows
import Derived.WalkKit
import Derived.ProofKit
import Derived.OpenShut
import Derived.SizedLaws
import Derived.ShutString
import Derived.ChangeOld
import Derived.Below
import Derived.JoinedCond
import Derived.Test.YtgcjecmgjncclaaByUpto
import Derived.Test.YtgcjecmgjncclaaByRows
import Derived.Test.YtgcjecmgjncclaaPeItem
import Derived.Test.YtgcjecmgjncclaaPeAwake
namespace Go.Proofs.Ytgcjecmgjncclaa.peerMore
open Go.ChangeShapes Go.WideShapes Go.ChangeAt Go.RowKit By
open Fl Pz Pe
attribute [local go_sem] Oper.semAt_some
set_option linter.unusedVariables false
set_option linter.unusedSimpArgs false
set_option maxRecDepth 100000

theorem own : ownKnob Try.prog.godebug = none := by kernel_rfl
theorem laidOut : laidOutB Try.prog = true := by kernel_rfl

theorem cho_err (L : List Itv) (I J : List Inf) (k : Int) : (chooseP L I k).2 = (chooseP L J k).2 := by
  unfold chooseP
  split <;> rfl
theorem cho_ok {L : List Itv} {I : List Inf} {k : Int} {c : Cho} {z : Int} (h : (c, z) = chooseP L I k) (hz : z = 0) : falls L = true ∧ c = goes 3 1 2 I k L := by
  unfold chooseP at h
  by_cases q : falls L = true ∧ 1 ≤ k
  · rw [if_pos q] at h
    exact ⟨q.1, congrArg Prod.fst h⟩
  · rw [if_neg q] at h
    have := congrArg Prod.snd h
    dsimp only at this
    omega

set_option maxHeartbeats 12800000 in
theorem walk (x : Option Addr) (n c : Nat) (L : List JV) (y : Option Addr) (m d : Nat) (I : List FV) (y2 : Option Addr) (r d2 : Nat) (J : List FV) (w : World) (hL : Lis enJ 6 JAt w (fun _ => True) x n c L) (_ : n ≤ 1048576) (hI0 : Lis enF 5 FIn w (fun _ => True) y m d I) (hm6 : m ≤ 1048576) (hJ0 : Lis enF 5 FIn w (fun _ => True) y2 r d2 J) (hr6 : r ≤ 1048576) :
    Calls Try.prog 6 #[.slice x n c, .slice y m d, .slice y2 r d2] w fun e w' => e = .returned (.bool true) ∧ Below w.heap.size w w' := by
  obtain ⟨hI, hosI⟩ := fin_fs hI0
  obtain ⟨hJ, hosJ⟩ := fin_fs hJ0
  have C1 : Hid (∀ W, Below w.heap.size w W → Calls Try.prog 13 #[.slice x n c, .slice y m d, .int .i64 2] W fun e w' => RC W (chooseP (L.map pJ) (I.map pF) 2) e w') := hid fun W hW => pchoose_any 2 (Js.below hL hW) (Fs.below hI hW) hosI (by omega)
  have HA := hid awake_any
  have HL : Hid (Js w (fun _ => True) x n c L) := hid hL
  have HI : Hid (Fs w (fun _ => True) y m d I) := hid hI
  have HJ : Hid (Fs w (fun _ => True) y2 r d2 J) := hid hJ
  have HOs : Hid (∀ i ∈ I ++ J, wfI i.os) := hid fun i hi => by
    rcases List.mem_append.1 hi with h | h
    · exact hosI i h
    · exact hosJ i h
  clear hL hI0 hJ0 hI hJ hosI hosJ
  go_enter Try.func6, Try.ntmps6
  go_wp2_with fail
  go_loopw [7] (fun i wr => ∃ t : Nat, t ≤ m ∧ i = .int .i64 t ∧ Hid (Below w.heap.size w wr)) (fun i _ => m - (intOf i).toNat)
  case atStart => exact ⟨0, by omega, rfl, Below.refl _ _⟩
  case round =>
    obtain ⟨t, ht, rfl, HR⟩ := hrel
    by_cases htm : t < m
    · have htm2 : (t : Int) < (m : Int) := by omega
      obtain ⟨u, hu, hum⟩ := Lis.some HI.out htm
      rcases HI.out.row with hr0 | ⟨bl, o, hx, hbl, _, hc⟩
      · omega
      have HKu := hid (f_at hc hu)
      have HU := hid (HI.out.each u hum)
      subst hx
      clear hc hu hum hbl
      obtain ⟨wo, hwo⟩ : ∃ wo, wo = wr := ⟨_, rfl⟩
      subst hwo
      go_wp2_with fail
      go_loopw [8] (fun i wr => ∃ s : Nat, s ≤ r ∧ i = .int .i64 s ∧ Hid (Below w.heap.size w wr)) (fun i _ => r - (intOf i).toNat)
      case atStart => exact ⟨0, by omega, rfl, HR.out⟩
      case round =>
        obtain ⟨s, hs, rfl, HQ⟩ := hrel
        by_cases hsr : s < r
        rotate_left
        · have e1 : r = s := by omega
          subst e1
          go_wp2_with fail
          go_roundw
          case rel => exact ⟨t + 1, by omega, by go_num, HQ.out⟩
          case measure => simp [intOf]; omega
        have hsr2 : (s : Int) < (r : Int) := by omega
        obtain ⟨v, hv, hvm⟩ := Lis.some HJ.out hsr
        rcases HJ.out.row with hr0 | ⟨bl2, o2, hx2, hbl2, _, hc2⟩
        · omega
        obtain ⟨k0, k1, k2, k3, k4⟩ := f_at hc2 hv
        have HV := hid (HJ.out.each v hvm)
        subst hx2
        have hb := HQ.out
        obtain ⟨l0, l1, l2, l3, l4⟩ := HKu.out
        have e0 := After.cell (keep hb l0)
        have e1 := After.cell (keep hb l1)
        have e2 := After.cell (keep hb l2)
        have e3 := After.cell (keep hb l3)
        have e4 := After.cell (keep hb l4)
        have f0 := After.cell (keep hb k0)
        have f1 := After.cell (keep hb k1)
        have f2 := After.cell (keep hb k2)
        have f3 := After.cell (keep hb k3)
        have f4 := After.cell (keep hb k4)
        have cS := fun p : After wr => rsameInfo_any u.os u.li u.no u.he v.os v.li v.no v.he (FAt.below HU.out (on HQ.out p.h)) (FAt.below HV.out (on HQ.out p.h))
        obtain ⟨b, hbb⟩ : ∃ b, b = decide (u.os = v.os ∧ u.li = v.li ∧ u.no = v.no ∧ u.he = v.he ∧ u.L.map pT = v.L.map pT) := ⟨_, rfl⟩
        rw [← hbb] at cS
        obtain ⟨t1, ht1⟩ : ∃ t1, (u.os == v.os) = t1 := ⟨_, rfl⟩
        clear l0 l1 l2 l3 l4 k0 k1 k2 k3 k4 hc2 hv hvm hbl2 hbb hb
        haveI := After.ne wr
        cases t1 with
        | false =>
          go_wp2_with fail
          refine wp_region_after (by kernel_rfl) (by kernel_rfl) ?_
          repeat (go_big_quiet_step ((go_at_call 18; with_reducible refine Calls.after_of (cS _))))
          refine wpQuiet_nil ?_
          rintro _ ⟨Z, rfl⟩
          go_wp2_with fail
          go_roundw
          case rel => exact ⟨s + 1, by omega, by go_num, on HQ.out Z.h⟩
          case measure => simp [intOf]; omega
        | true =>
          have huv : u.os = v.os := by simpa using ht1
          simp only [huv] at e0 cS
          clear ht1 huv
          cases b with
          | true =>
            go_wp2_with fail
            refine wp_region_after (by kernel_rfl) (by kernel_rfl) ?_
            repeat (go_big_quiet_step ((go_at_call 18; with_reducible refine Calls.after_of (cS _))))
            refine wpQuiet_nil ?_
            rintro _ ⟨Z, rfl⟩
            go_wp2_with fail
            go_roundw
            case rel => exact ⟨s + 1, by omega, by go_num, on HQ.out Z.h⟩
            case measure => simp [intOf]; omega
          | false =>
            go_wp2_with fail
            refine wp_region_after (by kernel_rfl) (by kernel_rfl) ?_
            repeat (go_big_quiet_step ((go_at_call 18; with_reducible refine Calls.after_of (cS _))))
            refine wpQuiet_nil ?_
            rintro _ ⟨Z, rfl⟩
            have HBz := hid (on HQ.out Z.h)
            clear e0 e1 e2 e3 e4 f0 f1 f2 f3 f4 cS
            go_wp2_with (go_at_call 12; refine (HA.out Z.W).mono ?_; rintro e wf ⟨rfl, hb⟩; have HBf := hid hb; clear hb)
            go_ret
            exact ⟨rfl, on HBz.out HBf.out⟩
    · have e1 : m = t := by omega
      subst e1
      go_upto_region 10 with (go_at_call 13; refine (C1.out wr HR.out).mono ?_; rintro e wa ⟨v, z, rfl, HV⟩; unfold vC)
      obtain ⟨p, hp⟩ : ∃ p, p = wa.heap.size := ⟨_, rfl⟩
      obtain ⟨wb, hwb⟩ : ∃ wb, wb = wa.alloc (.cells #[.int .i64 v.kind, .int .i64 v.si, .int .i64 v.he, .slice v.x v.n v.c] 35) := ⟨_, rfl⟩
      have bb : Below wa.heap.size wa wb := by rw [hwb]; exact al _ _
      have gb : wb.heap[p]? = some (.cells #[.int .i64 v.kind, .int .i64 v.si, .int .i64 v.he, .slice v.x v.n v.c] 35 (0, 0)) := by rw [hwb, hp]; exact heap_alloc_new _ _
      rw [← hwb, ← hp]
      have HBb := hid (on HR.out (on HV.out.2.2 bb))
      have HGb := hid gb
      have HE1 := hid HV.out.2.1
      clear hp hwb bb gb C1 HV
      have bA := al wb (.cells #[] 27)
      have oA := Own.empty wb (B := wb.heap.size) (Nat.le_refl _) 27 5 enF
      obtain ⟨xa, ca, w5, hap1, o5, t5⟩ := app_all frow (HI.out.below (on HBb.out bA)) oA bA.size (by omega)
      have b5 : Below wb.heap.size wb w5 := bA.trans (t5.below (fun q hq => (World.ownsRow.lt oA q hq).1) bA.size)
      obtain ⟨xc, cc, w6, hap2, o6, t6⟩ := app_more frow (HJ.out.below (on HBb.out b5)) o5 b5.size (by have := HI.out.len; omega) (by have := HI.out.len; omega)
      have b6 : Below wb.heap.size wb w6 := b5.trans (t6.below (fun q hq => (World.ownsRow.lt o5 q hq).1) b5.size)
      have hIl := HI.out.len
      rw [hIl] at hap2 o6
      have cC := pchoose_any (F := fun _ => True) (G := fun _ => True) (L := L) (I := I ++ J) (x := x) (n := n) (c := c) (y := xc) (m := m + r) (d := cc) 2 (HL.out.below (on HBb.out b6))
        (own_lis frow o6 (by rw [List.length_append]; have := HJ.out.len; omega) (fun _ _ => trivial) (fun a ha => by
          rcases List.mem_append.1 ha with h | h
          · exact FAt.below (HI.out.each a h) (on HBb.out b6)
          · exact FAt.below (HJ.out.each a h) (on HBb.out b6))) HOs.out (by omega)
      have HB6 := hid b6
      clear bA oA o5 t5 b5 o6 t6 b6 hIl
      go_upto_region 11 with (first
        | (at_builtin; refine Lib.wpList_append_run _ rfl _ _ _ _ rfl _ _ rfl rfl _ _ hap1 ?_; clear hap1)
        | (at_builtin; refine Lib.wpList_append_run _ rfl _ _ _ _ rfl _ _ rfl rfl _ _ hap2 ?_; clear hap2)
        | (go_at_call 13; refine cC.mono ?_; rintro e wc ⟨u, z2, rfl, HV⟩; unfold vC))
      obtain ⟨q, hq⟩ : ∃ q, q = wc.heap.size := ⟨_, rfl⟩
      obtain ⟨wd, hwd⟩ : ∃ wd, wd = wc.alloc (.cells #[.int .i64 u.kind, .int .i64 u.si, .int .i64 u.he, .slice u.x u.n u.c] 35) := ⟨_, rfl⟩
      have bd : Below wc.heap.size wc wd := by rw [hwd]; exact al _ _
      have gd : wd.heap[q]? = some (.cells #[.int .i64 u.kind, .int .i64 u.si, .int .i64 u.he, .slice u.x u.n u.c] 35 (0, 0)) := by rw [hwd, hq]; exact heap_alloc_new _ _
      rw [← hwd, ← hq]
      have bcd := on HB6.out (on HV.out.2.2 bd)
      have HBd := hid (on HBb.out bcd)
      have gp := (bcd.block p (lt_heap HGb.out)).trans HGb.out
      have HE2 := hid HV.out.2.1
      obtain ⟨p0, p1, p2, p3⟩ := ccells gp
      obtain ⟨q0, q1, q2, q3⟩ := ccells gd
      have hzz : z2 = z := by
        have a1 := congrArg Prod.snd HE1.out
        have a2 := congrArg Prod.snd HE2.out
        dsimp only at a1 a2
        rw [a1, a2]
        exact cho_err _ _ _ _
      subst hzz
      clear hq hwd bd gd gp bcd cC HV
      by_cases hz : z2 = 0
      rotate_left
      · have hz2 : (z2 != 0) = true := by simp [hz]
        clear hz
        go_wp2_with (go_at_call 12; refine (HA.out wd).mono ?_; rintro e wf ⟨rfl, hb⟩; have HBf := hid hb; clear hb)
        go_ret
        exact ⟨rfl, on HBd.out HBf.out⟩
      obtain ⟨hf, h1⟩ := cho_ok HE1.out hz
      obtain ⟨_, h2⟩ := cho_ok HE2.out hz
      have hM := more (kS := 3) (kW := 1) (kE := 2) (by omega) (by omega) (infos := I.map pF) (M := J.map pF) (k := 2) hf
      rw [← List.map_append, ← h1, ← h2] at hM
      have hM2 : v.kind = 3 → u.kind = 3 ∧ v.si ≤ u.si := hM
      subst hz
      clear h1 h2 hf hM
      by_cases hv : v.kind = 3
      · obtain ⟨hu, hsi⟩ := hM2 hv
        rw [hv] at p0
        rw [hu] at q0
        clear hM2 hv hu
        go_wp2_with (go_at_call 12; refine (HA.out wd).mono ?_; rintro e wf ⟨rfl, hb⟩; have HBf := hid hb; clear hb)
        go_ret
        exact ⟨rfl, on HBd.out HBf.out⟩
      · have hv2 : (v.kind != 3) = true := by simp [hv]
        clear hM2 hv
        go_wp2_with (go_at_call 12; refine (HA.out wd).mono ?_; rintro e wf ⟨rfl, hb⟩; have HBf := hid hb; clear hb)
        go_ret
        exact ⟨rfl, on HBd.out HBf.out⟩

set_option maxRecDepth 100000 in
theorem lifted (os : Os) (started : os.Started) (H : Type) (enc : TypeId × Value → H) (F : Stop.Interp) :
    ReturnsInHanded {} Try.checked os 6 .any ((Rows.OpenSpec.upto Rows.peerMoreSpec).pre6 enc Try.prog Try.f6 Rows.peerMoreUptoRow.domain false) (((Rows.OpenSpec.upto Rows.peerMoreSpec).at F).post enc Try.prog Try.f6 false true false false) := by
  refine returnsInHanded_of_cond (C := Try.checked) (s := Rows.OpenSpec.upto Rows.peerMoreSpec) (k := Rows.uptoSmall) rfl own started (by kernel_rfl) Try.func6
    (OpenSpec.witness (enc := enc) (C := Try.checked) (s := Rows.OpenSpec.upto Rows.peerMoreSpec) (k := Rows.uptoSmall) rfl false ⟨#[], #[.slice none 0 0, .slice none 0 0, .slice none 0 0], []⟩ 8 (by kernel_rfl) (by kernel_rfl) (by kernel_rfl)
      (x := ([.nil, .nil, .nil], [], [])) (by kernel_rfl) rfl (by kernel_rfl)) ?_
  intro W base args ds gs before hval0 hW _ hk0 _
  have hk : Rows.uptoBulkAll (ds ++ gs) ≤ 1048576 := of_decide_eq_true hk0
  have hval : ∀ (j : Nat) t v, Try.f6.params[j]? = some t → args[j]? = some v → Value.okWide Try.prog W .any base t v := hval0
  have hW' := hW
  obtain ⟨p, q, hA0, hV, rfl, hfz, hnd⟩ := hW
  have hA : DataW.TrodAll enc Try.prog W 0 (fun _ => true) true Try.f6.params.toList args.toList ds p := hA0
  rw [Try.params6] at hA hval
  obtain ⟨v0, vs0, d0, ds0, p0, q0, hargs, rfl, rfl, h0, r0⟩ := trodAll_cons hA
  obtain ⟨v1, vs1, d1, ds1, p1, q1, rfl, rfl, rfl, h1, r1⟩ := trodAll_cons r0
  obtain ⟨v2, vs2, d2, ds2, p2, q2, rfl, rfl, rfl, h2, r2⟩ := trodAll_cons r1
  obtain ⟨rfl, rfl, rfl⟩ := trodAll_nil r2
  obtain rfl : args = #[v0, v1, v2] := by cases args; simp_all
  obtain ⟨rfl, rfl⟩ := trodVars_none hV
  simp only [List.append_nil, Rows.uptoBulkAll] at hk
  have k0 := h0
  have lt0 : ∀ x ∈ p0, x.block < W.heap.size := by obtain ⟨m, hm⟩ := k0; exact DataW.trod_lt m _ _ _ hm
  have s0 : Rows.uptoBulk d0 ≤ 1048576 := by omega
  obtain ⟨b0, nn0, cc0, rfl⟩ := okWide_slice Try.underlying32 (hval 0 32 v0 rfl rfl)
  obtain ⟨fu0, hf0⟩ := h0
  obtain ⟨a0, len0, cap0, V0, e0, w0, m0⟩ := Pe.itvs_inU hf0 s0
  simp [Value.cells] at e0
  obtain ⟨rfl, rfl, rfl⟩ := e0
  have k1 := h1
  have lt1 : ∀ x ∈ p1, x.block < W.heap.size := by obtain ⟨m, hm⟩ := k1; exact DataW.trod_lt m _ _ _ hm
  have s1 : Rows.uptoBulk d1 ≤ 1048576 := by omega
  obtain ⟨b1, nn1, cc1, rfl⟩ := okWide_slice Try.underlying33 (hval 1 33 v1 rfl rfl)
  obtain ⟨fu1, hf1⟩ := h1
  obtain ⟨a1, len1, cap1, V1, e1, w1, m1⟩ := Pe.infos_inU hf1 s1
  simp [Value.cells] at e1
  obtain ⟨rfl, rfl, rfl⟩ := e1
  have k2 := h2
  have lt2 : ∀ x ∈ p2, x.block < W.heap.size := by obtain ⟨m, hm⟩ := k2; exact DataW.trod_lt m _ _ _ hm
  have s2 : Rows.uptoBulk d2 ≤ 1048576 := by omega
  obtain ⟨b2, nn2, cc2, rfl⟩ := okWide_slice Try.underlying33 (hval 2 33 v2 rfl rfl)
  obtain ⟨fu2, hf2⟩ := h2
  obtain ⟨a2, len2, cap2, V2, e2, w2, m2⟩ := Pe.infos_inU hf2 s2
  simp [Value.cells] at e2
  obtain ⟨rfl, rfl, rfl⟩ := e2
  clear hA0 hval0
  refine (walk b0 nn0 cc0 V0 b1 nn1 cc1 V1 b2 nn2 cc2 V2 W w0 m0 w1 m1 w2 m2).mono fun e W' ⟨he, bel⟩ => ?_
  subst he
  exact ⟨_, rfl, _, _, _, [], _, [], hW', trodAll_mk1 (shut_bool Try.underlying4 _), (trodAll_cons_mk (Below.trod laidOut (by kernel_rfl) (of_decide_eq_true (by kernel_rfl)) k0 bel lt0) (trodAll_cons_mk (Below.trod laidOut (by kernel_rfl) (of_decide_eq_true (by kernel_rfl)) k1 bel lt1) (trodAll_cons_mk (Below.trod laidOut (by kernel_rfl) (of_decide_eq_true (by kernel_rfl)) k2 bel lt2) trodAll_mk0))), rfl, bel.frame _, fun h => by cases h⟩

theorem over : Rows.peerMoreUptoRow.holds Try.pinned (Rows.OpenSpec.upto Rows.peerMoreSpec) :=
  OpenClaim.holds_of_cond 6 Try.f6 rfl rfl rfl rfl rfl rfl rfl ⟨rfl, rfl, rfl, rfl, rfl⟩ rfl rfl rfl rfl rfl (by kernel_rfl) Try.func6 (by kernel_rfl)
    (of_decide_eq_true (by kernel_rfl)) (by unfold Func.isWrapper; first | (rw [if_pos (by decide +kernel)]; kernel_rfl) | (rw [if_neg (by decide +kernel)]; exact ⟨rfl, rfl⟩))
    (fun os started H enc _ F => lifted os started H enc F)

theorem proved : Rows.PeerMoreUptoSaid := over
#print axioms proved
end Go.Proofs.Ytgcjecmgjncclaa.peerMore
