/-
  PeerKeeps: what all that keep an interval have done is not lost.
  Conditions: none.
-/
import Derived.Test.YtgcjecmgjncclaaRows
import Derived.WalkKit
import Derived.ProofKit
import Derived.OpenShut
import Derived.SizedLaws
import Derived.ShutString
import Derived.ChangeOld
import Derived.Below
import Derived.Test.YtgcjecmgjncclaaByRows
import Derived.Test.YtgcjecmgjncclaaPeItem
import Derived.Test.YtgcjecmgjncclaaPeAwake
import Derived.Test.YtgcjecmgjncclaaPeCounts
namespace Go.Proofs.Ytgcjecmgjncclaa.peerKeeps
open Go.ChangeShapes Go.WideShapes Go.ChangeAt Go.RowKit By
open Fl Pz Pe
attribute [local go_sem] Oper.semAt_some
set_option linter.unusedVariables false
set_option linter.unusedSimpArgs false
set_option maxRecDepth 100000

theorem own : ownKnob Try.prog.godebug = none := by kernel_rfl
theorem laidOut : laidOutB Try.prog = true := by kernel_rfl

theorem cho_ok {L : List Itv} {I : List Inf} {k : Int} {c : Cho} {z : Int} (h : (c, z) = chooseP L I k) (hz : z = 0) : falls L = true ∧ 1 ≤ k ∧ c = goes 3 1 2 I k L := by
  unfold chooseP at h
  by_cases q : falls L = true ∧ 1 ≤ k
  · rw [if_pos q] at h
    exact ⟨q.1, q.2, congrArg Prod.fst h⟩
  · rw [if_neg q] at h
    have := congrArg Prod.snd h
    dsimp only at this
    omega

set_option maxHeartbeats 12800000 in
theorem walk (x : Option Addr) (n c : Nat) (L : List JV) (y : Option Addr) (m d : Nat) (I : List FV) (a0 head k : Int) (w : World) (hL : Lis enJ 6 JAt w (fun _ => True) x n c L) (_ : n * 96 ≤ 140737488351232) (hI : Lis enF 5 FIn w (fun _ => True) y m d I) (_ : m * 56 ≤ 140737488351232) :
    Calls Try.prog 5 #[.slice x n c, .slice y m d, .agg #[.int .i64 a0, .int .i64 head, .int .i64 k]] w fun e w' => e = .returned (.bool true) ∧ Below w.heap.size w w' := by
  obtain ⟨hF, hos⟩ := fin_fs hI
  obtain ⟨w1, hw1⟩ : ∃ w1, w1 = w.alloc (.cells #[.int .i64 a0, .int .i64 head, .int .i64 k] 41) := ⟨_, rfl⟩
  have b1 := al w (.cells #[.int .i64 a0, .int .i64 head, .int .i64 k] 41)
  have g1 := heap_alloc_new w (.cells #[.int .i64 a0, .int .i64 head, .int .i64 k] 41)
  rw [← hw1] at b1 g1
  have HB1 := hid b1
  have C1 : Hid (∀ W, Below w.heap.size w W → Calls Try.prog 13 #[.slice x n c, .slice y m d, .int .i64 k] W fun e w' => RC W (chooseP (L.map pJ) (I.map pF) k) e w') := hid fun W hW => pchoose_any k (Js.below hL hW) (Fs.below hF hW) hos (by omega)
  have HA := hid awake_any
  have HL : Hid (Js w (fun _ => True) x n c L) := hid hL
  have HI : Hid (Fs w (fun _ => True) y m d I) := hid hF
  have HLn : Hid (L.length = n ∧ I.length = m) := hid ⟨hL.len, hI.len⟩
  have hs1 := hL.small
  have hs2 := hI.small
  have r0 := After.cell (cell_heap (j := 0) g1 rfl)
  have r1 := After.cell (cell_heap (j := 1) g1 rfl)
  have r2 := After.cell (cell_heap (j := 2) g1 rfl)
  clear hL hI hF hos b1 g1
  go_enter Try.func5, Try.ntmps5
  go_upto_region 1 with (fail)
  rw [← hw1]
  clear hw1
  haveI := After.ne w1
  refine wp_region_after (by kernel_rfl) (by kernel_rfl) ?_
  repeat (go_big_quiet_step (simp only []))
  refine wpQuiet_nil ?_
  rintro _ ⟨Z, rfl⟩
  have HBz := hid (on HB1.out Z.h)
  clear r0 r1 r2
  go_upto_region 3 with (go_at_call 13; refine (C1.out Z.W HBz.out).mono ?_; rintro e wa ⟨v, z, rfl, HV⟩; unfold vC)
  obtain ⟨p, hp⟩ : ∃ p, p = wa.heap.size := ⟨_, rfl⟩
  obtain ⟨wb, hwb⟩ : ∃ wb, wb = wa.alloc (.cells #[.int .i64 v.kind, .int .i64 v.si, .int .i64 v.he, .slice v.x v.n v.c] 35) := ⟨_, rfl⟩
  have bb : Below wa.heap.size wa wb := by rw [hwb]; exact al _ _
  have gb : wb.heap[p]? = some (.cells #[.int .i64 v.kind, .int .i64 v.si, .int .i64 v.he, .slice v.x v.n v.c] 35 (0, 0)) := by rw [hwb, hp]; exact heap_alloc_new _ _
  rw [← hwb, ← hp]
  have HBb := hid (on HBz.out (on HV.out.2.2 bb))
  have HKc : Hid (∀ W, Below wb.heap.size wb W → W.heap[p]? = some (.cells #[.int .i64 v.kind, .int .i64 v.si, .int .i64 v.he, .slice v.x v.n v.c] 35 (0, 0))) := hid fun W hW => (hW.block _ (lt_heap gb)).trans gb
  have HOk := hid (fun hz => cho_ok HV.out.2.1 hz)
  clear hp hwb bb gb C1 HV HBz
  by_cases hz : z = 0
  rotate_left
  · have hz2 : (z != 0) = true := by simp [hz]
    go_wp2_with (go_at_call 12; refine (HA.out wb).mono ?_; rintro e wf ⟨rfl, hb⟩; have HBf := hid hb; clear hb)
    go_ret
    exact ⟨rfl, on HBb.out HBf.out⟩
  have HO := hid (HOk.out hz)
  have hz2 : (z != 0) = false := by simp [hz]
  clear HOk hz
  by_cases ha : a0 < 0
  · go_wp2_with (go_at_call 12; refine (HA.out wb).mono ?_; rintro e wf ⟨rfl, hb⟩; have HBf := hid hb; clear hb)
    go_ret
    exact ⟨rfl, on HBb.out HBf.out⟩
  obtain ⟨q, rfl⟩ := Int.eq_ofNat_of_zero_le (show 0 ≤ a0 by omega)
  by_cases han : (q : Int) < (n : Int)
  rotate_left
  · have han2 : (n : Int) ≤ (q : Int) := by omega
    go_wp2_with (go_at_call 12; refine (HA.out wb).mono ?_; rintro e wf ⟨rfl, hb⟩; have HBf := hid hb; clear hb)
    go_ret
    exact ⟨rfl, on HBb.out HBf.out⟩
  have hqn : q < n := by omega
  have hnq : ¬ n ≤ q := by omega
  obtain ⟨u, hu, hum⟩ := Lis.some HL.out hqn
  rcases HL.out.row with hr0 | ⟨bl, o, hx, hbl, _, hc⟩
  · omega
  have HKl : Hid (∀ W, Below w.heap.size w W → _) := hid fun W hW => (fun (h : _ ∧ _ ∧ _ ∧ _ ∧ _ ∧ _) => And.intro (keep hW h.1) (And.intro (keep hW h.2.1) (And.intro (keep hW h.2.2.1) (And.intro (keep hW h.2.2.2.1) (And.intro (keep hW h.2.2.2.2.1) (keep hW h.2.2.2.2.2)))))) (j_at hc hu)
  subst hx
  have HJ : Hid (∀ W, Below w.heap.size w W → JAt W (fun _ => True) u) := hid fun W hW => JAt.below (HL.out.each u hum) hW
  have HX : Hid (pJ u ∈ L.map pJ) := hid (List.mem_map.2 ⟨u, hum, rfl⟩)
  have cM := count_any (HJ.out wb HBb.out)
  unfold vJ at cM
  obtain ⟨s0, s1, s2, s3, s4, s5⟩ := HKl.out wb HBb.out
  clear hu hum hc hbl
  by_cases hm : (many (pJ u) : Int) < k
  · go_wp2_with (first
      | (go_at_call 16; refine cM.mono ?_; rintro e wc ⟨rfl, hb⟩; have HBc := hid hb; clear hb cM)
      | (go_at_call 12; refine (HA.out wc).mono ?_; rintro e wf ⟨rfl, hb⟩; have HBf := hid hb; clear hb))
    go_ret
    exact ⟨rfl, on HBb.out (on HBc.out HBf.out)⟩
  have HMn : Hid (k ≤ (many (pJ u) : Int)) := hid (by omega)
  go_upto_region 5 with (go_at_call 16; refine cM.mono ?_; rintro e wc ⟨rfl, hb⟩; have HBc := hid hb; clear hb cM s0 s1 s2 s3 s4 s5)
  clear hm
  have HBB := hid (on HBb.out HBc.out)
  go_wp2_with fail
  go_loopw [12] (fun i wr => ∃ t : Nat, t ≤ m ∧ i = .int .i64 t ∧ Hid (Below wb.heap.size wb wr ∧ ∀ (j : Nat) (a : FV), j < t → I[j]? = some a → counts (pJ u) (pF a) = true → a.no = u.fr ∧ head ≤ a.he)) (fun i _ => m - (intOf i).toNat)
  case atStart => exact ⟨0, by omega, rfl, HBc.out, fun j a h => by omega⟩
  case round =>
    obtain ⟨t, ht, rfl, HR⟩ := hrel
    have HBr := hid (on HBb.out HR.out.1)
    by_cases htm : t < m
    · have htm2 : (t : Int) < (m : Int) := by omega
      obtain ⟨i, hi, him⟩ := Lis.some HI.out htm
      rcases HI.out.row with hr0 | ⟨bl2, o2, hx2, hbl2, _, hc2⟩
      · omega
      obtain ⟨k0, k1, k2, k3, k4⟩ := f_at hc2 hi
      subst hx2
      obtain ⟨s0, s1, s2, s3, s4, s5⟩ := HKl.out wr HBr.out
      have e0 := After.cell s0
      have e1 := After.cell s1
      have e2 := After.cell s2
      have e3 := After.cell s3
      have e4 := After.cell s4
      have e5 := After.cell s5
      have f0 := After.cell (keep HBr.out k0)
      have f1 := After.cell (keep HBr.out k1)
      have f2 := After.cell (keep HBr.out k2)
      have f3 := After.cell (keep HBr.out k3)
      have f4 := After.cell (keep HBr.out k4)
      have cC := fun p : After wr => counts_any i (HJ.out p.W (on HBr.out p.h))
      have HIt := hid hi
      unfold vJ vF at cC
      clear s0 s1 s2 s3 s4 s5 k0 k1 k2 k3 k4 hc2 hi him hbl2
      haveI := After.ne wr
      cases hcn : counts (pJ u) (pF i) with
      | false =>
        have HN : Hid (∀ (j : Nat) (a : FV), j < t + 1 → I[j]? = some a → counts (pJ u) (pF a) = true → a.no = u.fr ∧ head ≤ a.he) := hid fun j a hj ha hc => by
          by_cases e : j = t
          · subst e
            have := Option.some.inj (HIt.out.symm.trans ha)
            subst this
            rw [hcn] at hc
            cases hc
          · exact HR.out.2 j a (by omega) ha hc
        rw [hcn] at cC
        clear hcn
        go_wp2_with fail
        refine wp_region_after (by kernel_rfl) (by kernel_rfl) ?_
        repeat (go_big_quiet_step ((first
          | (go_at_call 17; with_reducible refine Calls.after_of (cC _))
          | (go_at_call 12; with_reducible refine Calls.after_of (cA _)))))
        refine wpQuiet_nil ?_
        rintro _ ⟨Z, rfl⟩
        go_wp2_with fail
        go_roundw
        case rel => exact ⟨t + 1, by omega, by go_num, on HR.out.1 Z.h, HN.out⟩
        case measure => simp [intOf]; omega
      | true =>
        rw [hcn] at cC
        clear hcn
        obtain ⟨t1, ht1⟩ : ∃ t1, (i.no != u.fr) = t1 := ⟨_, rfl⟩
        cases t1 with
        | true =>
          go_wp2_with fail
          refine wp_region_after (by kernel_rfl) (by kernel_rfl) ?_
          repeat (go_big_quiet_step ((first
            | (go_at_call 17; with_reducible refine Calls.after_of (cC _))
            | (go_at_call 12; with_reducible refine Calls.after_of (cA _)))))
          refine wpQuiet_nil ?_
          rintro _ ⟨Z, rfl⟩
          have HBz := hid (on HBr.out Z.h)
          clear e0 e1 e2 e3 e4 e5 f0 f1 f2 f3 f4 cC
          go_wp2_with (go_at_call 12; refine (HA.out Z.W).mono ?_; rintro e wf ⟨rfl, hb⟩; have HBf := hid hb; clear hb)
          go_ret
          exact ⟨rfl, on HBz.out HBf.out⟩
        | false =>
          have hno : i.no = u.fr := by simpa using ht1
          simp only [hno] at f2 cC
          have HNo := hid hno
          clear ht1 hno
          by_cases hlt : i.he < head
          · go_wp2_with fail
            refine wp_region_after (by kernel_rfl) (by kernel_rfl) ?_
            repeat (go_big_quiet_step ((first
              | (go_at_call 17; with_reducible refine Calls.after_of (cC _))
              | (go_at_call 12; with_reducible refine Calls.after_of (cA _)))))
            refine wpQuiet_nil ?_
            rintro _ ⟨Z, rfl⟩
            have HBz := hid (on HBr.out Z.h)
            clear e0 e1 e2 e3 e4 e5 f0 f1 f2 f3 f4 cC
            go_wp2_with (go_at_call 12; refine (HA.out Z.W).mono ?_; rintro e wf ⟨rfl, hb⟩; have HBf := hid hb; clear hb)
            go_ret
            exact ⟨rfl, on HBz.out HBf.out⟩
          · have HN : Hid (∀ (j : Nat) (a : FV), j < t + 1 → I[j]? = some a → counts (pJ u) (pF a) = true → a.no = u.fr ∧ head ≤ a.he) := hid fun j a hj ha hc => by
              by_cases e : j = t
              · subst e
                have := Option.some.inj (HIt.out.symm.trans ha)
                subst this
                exact ⟨HNo.out, by omega⟩
              · exact HR.out.2 j a (by omega) ha hc
            go_wp2_with fail
            refine wp_region_after (by kernel_rfl) (by kernel_rfl) ?_
            repeat (go_big_quiet_step ((first
              | (go_at_call 17; with_reducible refine Calls.after_of (cC _))
              | (go_at_call 12; with_reducible refine Calls.after_of (cA _)))))
            refine wpQuiet_nil ?_
            rintro _ ⟨Z, rfl⟩
            go_wp2_with fail
            go_roundw
            case rel => exact ⟨t + 1, by omega, by go_num, on HR.out.1 Z.h, HN.out⟩
            case measure => simp [intOf]; omega
    · have e1 : m = t := by omega
      subst e1
      have hK := keeps (kS := 3) (kW := 1) (kE := 2) (infos := I.map pF) (k := k) (head := head) (x := pJ u) HO.out.2.1 HMn.out (fun i hi hc => by
        obtain ⟨a, ha, rfl⟩ := List.mem_map.1 hi
        obtain ⟨j, hj⟩ := List.mem_iff_getElem?.1 ha
        exact HR.out.2 j a (by have := (List.getElem?_eq_some_iff.1 hj).1; have := HLn.out.2; omega) hj hc) HO.out.1 HX.out
      rw [← HO.out.2.2] at hK
      have gp := HKc.out wr HR.out.1
      obtain ⟨p0, p1, p2, p3⟩ := ccells gp
      clear gp
      rcases hK with hw | ⟨hs, hK⟩
      · have hkd : v.kind = 1 := hw
        rw [hkd] at p0
        clear hw hkd
        go_wp2_with (go_at_call 12; refine (HA.out wr).mono ?_; rintro e wf ⟨rfl, hb⟩; have HBf := hid hb; clear hb)
        go_ret
        exact ⟨rfl, on HBr.out HBf.out⟩
      have hkd : v.kind = 3 := hs
      rw [hkd] at p0
      clear hs hkd
      obtain ⟨s0, s1, s2, s3, s4, s5⟩ := HKl.out wr HBr.out
      have e0 := After.cell s0
      have f1 := After.cell p1
      have f2 := After.cell p2
      have cA := fun p : After wr => awake_any p.W
      haveI := After.ne wr
      clear s0 s1 s2 s3 s4 s5 p1 p2 p3
      rcases hK with hlt | ⟨heq, hge⟩
      · have hlt2 : u.fr < v.si := hlt
        clear hlt
        go_wp2_with fail
        refine wp_region_after (by kernel_rfl) (by kernel_rfl) ?_
        repeat (go_big_quiet_step ((first
          | (go_at_call 17; with_reducible refine Calls.after_of (cC _))
          | (go_at_call 12; with_reducible refine Calls.after_of (cA _)))))
        refine wpQuiet_nil ?_
        rintro _ ⟨Z, rfl⟩
        go_wp2_with fail
        go_ret
        exact ⟨rfl, on HBr.out Z.h⟩
      · have heq2 : v.si = u.fr := heq
        have hge2 : head ≤ v.he := hge
        rw [heq2] at f1
        clear heq hge heq2
        go_wp2_with fail
        refine wp_region_after (by kernel_rfl) (by kernel_rfl) ?_
        repeat (go_big_quiet_step ((first
          | (go_at_call 17; with_reducible refine Calls.after_of (cC _))
          | (go_at_call 12; with_reducible refine Calls.after_of (cA _)))))
        refine wpQuiet_nil ?_
        rintro _ ⟨Z, rfl⟩
        go_wp2_with fail
        go_ret
        exact ⟨rfl, on HBr.out Z.h⟩

set_option maxRecDepth 100000 in
theorem lifted (os : Os) (started : os.Started) (H : Type) (enc : TypeId × Value → H) :
    ReturnsInHanded {} Try.checked os 5 .any (Rows.peerKeepsSpec.pre6 enc Try.prog Try.f5 Rows.peerKeepsRow.domain false) (Rows.peerKeepsSpec.post enc Try.prog Try.f5 false true false false) := by
  refine returnsInHanded_of_change_sized (C := Try.checked) own started (by kernel_rfl) Try.func5
    (ChangeSpec.witness6 (enc := enc) (C := Try.checked) false ⟨#[], #[.slice none 0 0, .slice none 0 0, .agg #[.int .i64 0, .int .i64 0, .int .i64 0]], []⟩ 8 (by kernel_rfl) (by kernel_rfl) (by kernel_rfl) (by kernel_rfl)) ?_
  intro W base args ds gs before hval0 hW hcnd hsz0 _
  have hsz : (DataW.weightsEach Try.prog (Try.f5.params.toList ++ Rows.peerKeepsSpec.plain.varTypes Try.prog) (ds ++ gs)).all (· ≤ reachBytes) = true := hsz0
  have hval : ∀ (j : Nat) t v, Try.f5.params[j]? = some t → args[j]? = some v → Value.okWide Try.prog W .any base t v := hval0
  have hW' := hW
  obtain ⟨p, q, hA0, hV, rfl, hfz, hnd⟩ := hW
  have hA : DataW.TrodAll enc Try.prog W 0 (fun _ => true) true Try.f5.params.toList args.toList ds p := hA0
  rw [Try.params5] at hA hval hsz
  obtain ⟨v0, vs0, d0, ds0, p0, q0, hargs, rfl, rfl, h0, r0⟩ := trodAll_cons hA
  obtain ⟨v1, vs1, d1, ds1, p1, q1, rfl, rfl, rfl, h1, r1⟩ := trodAll_cons r0
  obtain ⟨v2, vs2, d2, ds2, p2, q2, rfl, rfl, rfl, h2, r2⟩ := trodAll_cons r1
  obtain ⟨rfl, rfl, rfl⟩ := trodAll_nil r2
  obtain rfl : args = #[v0, v1, v2] := by cases args; simp_all
  obtain ⟨rfl, rfl⟩ := trodVars_none hV
  have k0 := h0
  have lt0 : ∀ x ∈ p0, x.block < W.heap.size := by obtain ⟨m, hm⟩ := k0; exact DataW.trod_lt m _ _ _ hm
  have s0 : ∀ x ∈ d0.weights Try.prog 32, x ≤ reachBytes := fun x hx => by
    have := List.all_eq_true.1 hsz x (DataW.weights_mem_each (j := 0) rfl rfl x hx)
    simpa using this
  obtain ⟨b0, nn0, cc0, rfl⟩ := okWide_slice Try.underlying32 (hval 0 32 v0 rfl rfl)
  obtain ⟨fu0, hf0⟩ := h0
  obtain ⟨a0, len0, cap0, V0, e0, w0, m0⟩ := Pe.itvs_in hf0 s0
  simp [Value.cells] at e0
  obtain ⟨rfl, rfl, rfl⟩ := e0
  have k1 := h1
  have lt1 : ∀ x ∈ p1, x.block < W.heap.size := by obtain ⟨m, hm⟩ := k1; exact DataW.trod_lt m _ _ _ hm
  have s1 : ∀ x ∈ d1.weights Try.prog 33, x ≤ reachBytes := fun x hx => by
    have := List.all_eq_true.1 hsz x (DataW.weights_mem_each (j := 1) rfl rfl x hx)
    simpa using this
  obtain ⟨b1, nn1, cc1, rfl⟩ := okWide_slice Try.underlying33 (hval 1 33 v1 rfl rfl)
  obtain ⟨fu1, hf1⟩ := h1
  obtain ⟨a1, len1, cap1, V1, e1, w1, m1⟩ := Pe.infos_in hf1 s1
  simp [Value.cells] at e1
  obtain ⟨rfl, rfl, rfl⟩ := e1
  have k2 := h2
  have lt2 : ∀ x ∈ p2, x.block < W.heap.size := by obtain ⟨m, hm⟩ := k2; exact DataW.trod_lt m _ _ _ hm
  have s2 : ∀ x ∈ d2.weights Try.prog 41, x ≤ reachBytes := fun x hx => by
    have := List.all_eq_true.1 hsz x (DataW.weights_mem_each (j := 2) rfl rfl x hx)
    simpa using this
  obtain ⟨V2, U2, Y2, rfl⟩ := Pe.three_in (Pe.okWide_array Try.underlying41 (hval 2 41 v2 rfl rfl)) h2
  clear hA0 hval0
  refine (walk b0 nn0 cc0 V0 b1 nn1 cc1 V1 V2 U2 Y2 W w0 m0 w1 m1).mono fun e W' ⟨he, bel⟩ => ?_
  subst he
  exact ⟨_, rfl, _, _, _, [], _, [], hW', trodAll_mk1 (shut_bool Try.underlying4 _), (trodAll_cons_mk (Below.trod laidOut (by kernel_rfl) (of_decide_eq_true (by kernel_rfl)) k0 bel lt0) (trodAll_cons_mk (Below.trod laidOut (by kernel_rfl) (of_decide_eq_true (by kernel_rfl)) k1 bel lt1) (trodAll_cons_mk (Below.trod laidOut (by kernel_rfl) (of_decide_eq_true (by kernel_rfl)) k2 bel lt2) trodAll_mk0))), rfl, bel.frame _, fun h => by cases h⟩

theorem over : Rows.peerKeepsRow.holds Try.pinned (OpenSpec.ofChange Rows.peerKeepsSpec) :=
  OpenClaim.holds_of_wide 5 Try.f5 rfl rfl rfl rfl rfl rfl rfl ⟨rfl, rfl, rfl, rfl, rfl⟩ rfl rfl rfl rfl rfl (by kernel_rfl) Try.func5 (by kernel_rfl)
    (of_decide_eq_true (by kernel_rfl)) (by unfold Func.isWrapper; first | (rw [if_pos (by decide +kernel)]; kernel_rfl) | (rw [if_neg (by decide +kernel)]; exact ⟨rfl, rfl⟩))
    (fun os started H enc _ => lifted os started H enc)

theorem proved : Rows.PeerKeepsSaid := over
#print axioms proved
end Go.Proofs.Ytgcjecmgjncclaa.peerKeeps
