/-
  Unlike maps, and unlike changes, have unlike bytes: 'mooringlaw13.AtlasUnlike' returns true and leaves its arguments as they were.
  Conditions: none.
-/
import Derived.Test.YtnddhlkdemibgaaRows
import Derived.WalkKit
import Derived.ProofKit
import Derived.OpenShut
import Derived.SizedLaws
import Derived.ShutString
import Derived.ChangeOld
import Derived.Below
import Derived.Test.YtnddhlkdemibgaaJ01
import Derived.Test.YtnddhlkdemibgaaJ04
import Derived.Test.YtnddhlkdemibgaaJ07
import Derived.Test.YtnddhlkdemibgaaJ09
import Derived.RegionTactic
namespace Go.Proofs.Ytnddhlkdemibgaa.atlasUnlike
open Go.ChangeShapes Go.WideShapes Go.ChangeAt Go.RowKit By
open Fl At
set_option linter.unusedVariables false
set_option linter.unusedSimpArgs false
set_option maxRecDepth 100000

theorem own : ownKnob Try.prog.godebug = none := by kernel_rfl
theorem laidOut : laidOutB Try.prog = true := by kernel_rfl

set_option maxHeartbeats 12800000 in
theorem walk (V0 V1 : MpV) (V2 U2 : Ch) (w : World) (h0 : MapIn w V0) (h1 : MapIn w V1) : Calls Try.prog 8 #[vM V0.m.ep V0.m.pool V0.x V0.n V0.c, vM V1.m.ep V1.m.pool V1.x V1.n V1.c, .agg ((enC V2).toArray ++ (enC U2).toArray)] w fun e w' => e = .returned (.bool true) ∧ Below w.heap.size w w' := by
  obtain ⟨⟨ea, pa, La⟩, x, n, c⟩ := V0
  obtain ⟨⟨eb, pb, Lb⟩, y, n', c'⟩ := V1
  have HOa := hid h0.os
  have HOb := hid h1.os
  have hka := h0.k
  have hkb := h1.k
  dsimp only at HOa HOb hka hkb
  have hEa := fun W (hW : At.Os W x n c La) => encode_any ⟨ea, pa, La⟩ hW hka
  have hEb := fun W (hW : At.Os W y n' c' Lb) => encode_any ⟨eb, pb, Lb⟩ hW hkb
  have hSa := fun W (h : At.Os W x n c La) (h' : At.Os W y n' c' Lb) => same_any ⟨ea, pa, La⟩ ⟨eb, pb, Lb⟩ h h'
  have hRa := fun W (h : At.Os W x n c La) (h' : At.Os W y n' c' Lb) => rsame_any ⟨ea, pa, La⟩ ⟨eb, pb, Lb⟩ h h'
  have hKc := fun W => encodeChange_any V2 W
  have hKd := fun W => encodeChange_any U2 W
  have hQc := fun W => eq_change V2 U2 W
  have HTm : Hid (mayM ⟨ea, pa, La⟩ = true → mayM ⟨eb, pb, Lb⟩ = true → decide (str (wrB (numsM ⟨ea, pa, La⟩)) = str (wrB (numsM ⟨eb, pb, Lb⟩))) = eqM ⟨ea, pa, La⟩ ⟨eb, pb, Lb⟩) := fun p q => map_text p q
  have HTc : Hid (mayC V2 = true → mayC U2 = true → decide (str (wrB (numsC V2)) = str (wrB (numsC U2))) = eqC V2 U2) := fun p q => change_text p q
  have hA := fun W => awake_any W
  generalize mayM ⟨ea, pa, La⟩ = ta at *
  generalize mayM ⟨eb, pb, Lb⟩ = tb at *
  generalize mayC V2 = tc at *
  generalize mayC U2 = td at *
  generalize numsM ⟨ea, pa, La⟩ = Na at *
  generalize numsM ⟨eb, pb, Lb⟩ = Nb at *
  generalize numsC V2 = Nc at *
  generalize numsC U2 = Nd at *
  generalize eqM ⟨ea, pa, La⟩ ⟨eb, pb, Lb⟩ = tm at *
  generalize eqC V2 U2 = tk at *
  clear hka hkb h0 h1
  obtain ⟨a1, a2, a3, a4⟩ := pa
  obtain ⟨b1, b2, b3, b4⟩ := pb
  obtain ⟨ck, c0, c1, c2, c3, c4, c5, c6, c7⟩ := V2
  obtain ⟨dk, d0, d1, d2, d3, d4, d5, d6, d7⟩ := U2
  unfold vM vC at *
  simp only [enC, List.append_toArray, List.cons_append, List.nil_append]
  dsimp only at hEa hEb hSa hRa hKc hKd hQc
  have eT : errB true = 0 := rfl
  have eF : errB false = 1 := rfl
  go_enter Try.func8, Try.ntmps8
  go_wp2_with fail
  rename_i Q' K hKK
  have key : ∀ (pc pd : Nat) (W : World), FU w W pc pd #[.int .i64 ea, .int .i64 a1, .int .i64 a2, .int .i64 a3, .int .i64 a4, .slice x n c] #[.int .i64 eb, .int .i64 b1, .int .i64 b2, .int .i64 b3, .int .i64 b4, .slice y n' c'] #[.int .i64 ck, .int .i64 c0, .bool c1, .bool c2, .int .i64 c3, .int .i64 c4, .int .i64 c5, .int .i64 c6, .int .i64 c7] #[.int .i64 dk, .int .i64 d0, .bool d1, .bool d2, .int .i64 d3, .int .i64 d4, .int .i64 d5, .int .i64 d6, .int .i64 d7] → Exit.then K Q' Exit.normal (⟨#[.agg #[.int .i64 ea, .int .i64 a1, .int .i64 a2, .int .i64 a3, .int .i64 a4, .slice x n c], .agg #[.int .i64 eb, .int .i64 b1, .int .i64 b2, .int .i64 b3, .int .i64 b4, .slice y n' c'], .agg #[.int .i64 ck, .int .i64 c0, .bool c1, .bool c2, .int .i64 c3, .int .i64 c4, .int .i64 c5, .int .i64 c6, .int .i64 c7, .int .i64 dk, .int .i64 d0, .bool d1, .bool d2, .int .i64 d3, .int .i64 d4, .int .i64 d5, .int .i64 d6, .int .i64 d7], .pointer (some ⟨w.heap.size, 0, none⟩), .pointer (some ⟨w.heap.size + 1, 0, none⟩), .pointer (some ⟨w.heap.size + 1 + 1, 0, none⟩), .bool false, .pointer (some ⟨pc, 0, none⟩), .pointer (some ⟨pd, 0, none⟩), undef, undef, undef, undef, .pointer (some ⟨w.heap.size + 1 + 1, 0, none⟩), .agg #[.int .i64 ck, .int .i64 c0, .bool c1, .bool c2, .int .i64 c3, .int .i64 c4, .int .i64 c5, .int .i64 c6, .int .i64 c7], .pointer (some ⟨w.heap.size + 1 + 1, 9, none⟩), .agg #[.int .i64 dk, .int .i64 d0, .bool d1, .bool d2, .int .i64 d3, .int .i64 d4, .int .i64 d5, .int .i64 d6, .int .i64 d7], undef, undef, undef, undef, undef, undef, undef, undef, undef, undef, undef, undef, undef, undef, undef, undef, undef, undef, undef, undef, undef, undef, undef, undef, undef, undef, undef, undef, undef, undef, undef, undef, undef, undef, undef, undef, undef, undef, undef, undef, undef, undef, undef, undef, undef, undef, undef, undef, undef, undef, undef, undef, undef, undef, undef, undef, undef, undef, undef, undef, undef, undef, undef, undef], []⟩ : Act) W := by
    intro pc pd W hF
    have HF := hid hF
    have ka0 : W.cell? ⟨w.heap.size, 0, none⟩ = some (.int .i64 ea) := cell_heap hF.a rfl
    have ka1 : W.cell? ⟨w.heap.size, 1, none⟩ = some (.int .i64 a1) := cell_heap hF.a rfl
    have ka2 : W.cell? ⟨w.heap.size, 2, none⟩ = some (.int .i64 a2) := cell_heap hF.a rfl
    have ka3 : W.cell? ⟨w.heap.size, 3, none⟩ = some (.int .i64 a3) := cell_heap hF.a rfl
    have ka4 : W.cell? ⟨w.heap.size, 4, none⟩ = some (.int .i64 a4) := cell_heap hF.a rfl
    have ka5 : W.cell? ⟨w.heap.size, 5, none⟩ = some (.slice x n c) := cell_heap hF.a rfl
    have kb0 : W.cell? ⟨w.heap.size + 1, 0, none⟩ = some (.int .i64 eb) := cell_heap hF.b rfl
    have kb1 : W.cell? ⟨w.heap.size + 1, 1, none⟩ = some (.int .i64 b1) := cell_heap hF.b rfl
    have kb2 : W.cell? ⟨w.heap.size + 1, 2, none⟩ = some (.int .i64 b2) := cell_heap hF.b rfl
    have kb3 : W.cell? ⟨w.heap.size + 1, 3, none⟩ = some (.int .i64 b3) := cell_heap hF.b rfl
    have kb4 : W.cell? ⟨w.heap.size + 1, 4, none⟩ = some (.int .i64 b4) := cell_heap hF.b rfl
    have kb5 : W.cell? ⟨w.heap.size + 1, 5, none⟩ = some (.slice y n' c') := cell_heap hF.b rfl
    have hEa0 := hEa W (HOa.out.below hF.bel)
    clear hEa hF
    go_wp2_with (first
      | (
         go_at_call 24; refine hEa0.mono ?_; rintro e w1 ⟨R1, rfl, H1⟩; clear hEa0
         have HF1 := hid (HF.out.below H1.out.2)
         replace kb0 := keep H1.out.2 kb0
         replace kb1 := keep H1.out.2 kb1
         replace kb2 := keep H1.out.2 kb2
         replace kb3 := keep H1.out.2 kb3
         replace kb4 := keep H1.out.2 kb4
         replace kb5 := keep H1.out.2 kb5
         have hEb0 := hEb w1 (HOb.out.below HF1.out.bel)
         clear hEb)
      | (
         go_at_call 24; refine hEb0.mono ?_; rintro e w2 ⟨R2, rfl, H2⟩; clear hEb0
         have HF2 := hid (HF1.out.below H2.out.2)))
    haveI := After.ne w2
    cases ta with
    | false =>
      rw [eF]
      refine wp_region_after (by kernel_rfl) (by kernel_rfl) ?_
      repeat (go_big_quiet_step (fail))
      refine wpQuiet_nil ?_
      rintro _ ⟨q, rfl⟩
      obtain ⟨w3, hb3⟩ := q
      dsimp only
      have HF3 := hid (HF2.out.below hb3)
      have jc0 : w3.cell? ⟨pc, 0, none⟩ = some (.int .i64 ck) := cell_heap HF3.out.c rfl
      have jc1 : w3.cell? ⟨pc, 1, none⟩ = some (.int .i64 c0) := cell_heap HF3.out.c rfl
      have jc2 : w3.cell? ⟨pc, 2, none⟩ = some (.bool c1) := cell_heap HF3.out.c rfl
      have jc3 : w3.cell? ⟨pc, 3, none⟩ = some (.bool c2) := cell_heap HF3.out.c rfl
      have jc4 : w3.cell? ⟨pc, 4, none⟩ = some (.int .i64 c3) := cell_heap HF3.out.c rfl
      have jc5 : w3.cell? ⟨pc, 5, none⟩ = some (.int .i64 c4) := cell_heap HF3.out.c rfl
      have jc6 : w3.cell? ⟨pc, 6, none⟩ = some (.int .i64 c5) := cell_heap HF3.out.c rfl
      have jc7 : w3.cell? ⟨pc, 7, none⟩ = some (.int .i64 c6) := cell_heap HF3.out.c rfl
      have jc8 : w3.cell? ⟨pc, 8, none⟩ = some (.int .i64 c7) := cell_heap HF3.out.c rfl
      have jd0 : w3.cell? ⟨pd, 0, none⟩ = some (.int .i64 dk) := cell_heap HF3.out.d rfl
      have jd1 : w3.cell? ⟨pd, 1, none⟩ = some (.int .i64 d0) := cell_heap HF3.out.d rfl
      have jd2 : w3.cell? ⟨pd, 2, none⟩ = some (.bool d1) := cell_heap HF3.out.d rfl
      have jd3 : w3.cell? ⟨pd, 3, none⟩ = some (.bool d2) := cell_heap HF3.out.d rfl
      have jd4 : w3.cell? ⟨pd, 4, none⟩ = some (.int .i64 d3) := cell_heap HF3.out.d rfl
      have jd5 : w3.cell? ⟨pd, 5, none⟩ = some (.int .i64 d4) := cell_heap HF3.out.d rfl
      have jd6 : w3.cell? ⟨pd, 6, none⟩ = some (.int .i64 d5) := cell_heap HF3.out.d rfl
      have jd7 : w3.cell? ⟨pd, 7, none⟩ = some (.int .i64 d6) := cell_heap HF3.out.d rfl
      have jd8 : w3.cell? ⟨pd, 8, none⟩ = some (.int .i64 d7) := cell_heap HF3.out.d rfl
      go_wp2_with (first
        | (
           go_at_call 26; refine (hKc _).mono ?_; rintro e v1 ⟨R3, rfl, H3⟩; clear hKc
           replace jd0 := keep H3.out.2 jd0
           replace jd1 := keep H3.out.2 jd1
           replace jd2 := keep H3.out.2 jd2
           replace jd3 := keep H3.out.2 jd3
           replace jd4 := keep H3.out.2 jd4
           replace jd5 := keep H3.out.2 jd5
           replace jd6 := keep H3.out.2 jd6
           replace jd7 := keep H3.out.2 jd7
           replace jd8 := keep H3.out.2 jd8
           have HFv := hid (HF3.out.below H3.out.2))
        | (
           go_at_call 26; refine (hKd _).mono ?_; rintro e v2 ⟨R4, rfl, H4⟩; clear hKd
           have HF4 := hid (HFv.out.below H4.out.2)))
      haveI := After.ne v2
      cases tc with
      | false =>
        rw [eF]
        refine wp_region_after (by kernel_rfl) (by kernel_rfl) ?_
        repeat (go_big_quiet_step (fail))
        refine wpQuiet_nil ?_
        rintro _ ⟨q, rfl⟩
        obtain ⟨w5, hb5⟩ := q
        dsimp only
        have HF5 := hid (HF4.out.below hb5)
        have la0 : w5.cell? ⟨w.heap.size, 0, none⟩ = some (.int .i64 ea) := cell_heap HF5.out.a rfl
        have la1 : w5.cell? ⟨w.heap.size, 1, none⟩ = some (.int .i64 a1) := cell_heap HF5.out.a rfl
        have la2 : w5.cell? ⟨w.heap.size, 2, none⟩ = some (.int .i64 a2) := cell_heap HF5.out.a rfl
        have la3 : w5.cell? ⟨w.heap.size, 3, none⟩ = some (.int .i64 a3) := cell_heap HF5.out.a rfl
        have la4 : w5.cell? ⟨w.heap.size, 4, none⟩ = some (.int .i64 a4) := cell_heap HF5.out.a rfl
        have la5 : w5.cell? ⟨w.heap.size, 5, none⟩ = some (.slice x n c) := cell_heap HF5.out.a rfl
        have lb0 : w5.cell? ⟨w.heap.size + 1, 0, none⟩ = some (.int .i64 eb) := cell_heap HF5.out.b rfl
        have lb1 : w5.cell? ⟨w.heap.size + 1, 1, none⟩ = some (.int .i64 b1) := cell_heap HF5.out.b rfl
        have lb2 : w5.cell? ⟨w.heap.size + 1, 2, none⟩ = some (.int .i64 b2) := cell_heap HF5.out.b rfl
        have lb3 : w5.cell? ⟨w.heap.size + 1, 3, none⟩ = some (.int .i64 b3) := cell_heap HF5.out.b rfl
        have lb4 : w5.cell? ⟨w.heap.size + 1, 4, none⟩ = some (.int .i64 b4) := cell_heap HF5.out.b rfl
        have lb5 : w5.cell? ⟨w.heap.size + 1, 5, none⟩ = some (.slice y n' c') := cell_heap HF5.out.b rfl
        go_wp2_with fail
        haveI := After.ne w5
        have laa0 := After.cell la0
        have laa1 := After.cell la1
        have laa2 := After.cell la2
        have laa3 := After.cell la3
        have laa4 := After.cell la4
        have laa5 := After.cell la5
        have lba0 := After.cell lb0
        have lba1 := After.cell lb1
        have lba2 := After.cell lb2
        have lba3 := After.cell lb3
        have lba4 := After.cell lb4
        have lba5 := After.cell lb5
        have hSa' := fun (q : After w5) => hSa q.W (HOa.out.below (on HF5.out.bel q.h)) (HOb.out.below (on HF5.out.bel q.h))
        have hRa' := fun (q : After w5) => hRa q.W (HOa.out.below (on HF5.out.bel q.h)) (HOb.out.below (on HF5.out.bel q.h))
        clear hSa hRa
        refine wp_region_after (by kernel_rfl) (by kernel_rfl) ?_
        repeat (go_big_quiet_step ((first
          | (go_at_call 22; refine Calls.after_of (hSa' _))
          | (go_at_call 14; refine Calls.after_of (hRa' _))
          | (go_at_call 19; refine Calls.after_of (hA _)))))
        refine wpQuiet_nil ?_
        rintro _ ⟨q, rfl⟩
        go_wp2_with fail
        go_ret
        exact ⟨rfl, on HF5.out.bel q.h⟩
      | true =>
        cases td with
        | false =>
          rw [eT, eF]
          refine wp_region_after (by kernel_rfl) (by kernel_rfl) ?_
          repeat (go_big_quiet_step (fail))
          refine wpQuiet_nil ?_
          rintro _ ⟨q, rfl⟩
          obtain ⟨w5, hb5⟩ := q
          dsimp only
          have HF5 := hid (HF4.out.below hb5)
          have la0 : w5.cell? ⟨w.heap.size, 0, none⟩ = some (.int .i64 ea) := cell_heap HF5.out.a rfl
          have la1 : w5.cell? ⟨w.heap.size, 1, none⟩ = some (.int .i64 a1) := cell_heap HF5.out.a rfl
          have la2 : w5.cell? ⟨w.heap.size, 2, none⟩ = some (.int .i64 a2) := cell_heap HF5.out.a rfl
          have la3 : w5.cell? ⟨w.heap.size, 3, none⟩ = some (.int .i64 a3) := cell_heap HF5.out.a rfl
          have la4 : w5.cell? ⟨w.heap.size, 4, none⟩ = some (.int .i64 a4) := cell_heap HF5.out.a rfl
          have la5 : w5.cell? ⟨w.heap.size, 5, none⟩ = some (.slice x n c) := cell_heap HF5.out.a rfl
          have lb0 : w5.cell? ⟨w.heap.size + 1, 0, none⟩ = some (.int .i64 eb) := cell_heap HF5.out.b rfl
          have lb1 : w5.cell? ⟨w.heap.size + 1, 1, none⟩ = some (.int .i64 b1) := cell_heap HF5.out.b rfl
          have lb2 : w5.cell? ⟨w.heap.size + 1, 2, none⟩ = some (.int .i64 b2) := cell_heap HF5.out.b rfl
          have lb3 : w5.cell? ⟨w.heap.size + 1, 3, none⟩ = some (.int .i64 b3) := cell_heap HF5.out.b rfl
          have lb4 : w5.cell? ⟨w.heap.size + 1, 4, none⟩ = some (.int .i64 b4) := cell_heap HF5.out.b rfl
          have lb5 : w5.cell? ⟨w.heap.size + 1, 5, none⟩ = some (.slice y n' c') := cell_heap HF5.out.b rfl
          go_wp2_with fail
          haveI := After.ne w5
          have laa0 := After.cell la0
          have laa1 := After.cell la1
          have laa2 := After.cell la2
          have laa3 := After.cell la3
          have laa4 := After.cell la4
          have laa5 := After.cell la5
          have lba0 := After.cell lb0
          have lba1 := After.cell lb1
          have lba2 := After.cell lb2
          have lba3 := After.cell lb3
          have lba4 := After.cell lb4
          have lba5 := After.cell lb5
          have hSa' := fun (q : After w5) => hSa q.W (HOa.out.below (on HF5.out.bel q.h)) (HOb.out.below (on HF5.out.bel q.h))
          have hRa' := fun (q : After w5) => hRa q.W (HOa.out.below (on HF5.out.bel q.h)) (HOb.out.below (on HF5.out.bel q.h))
          clear hSa hRa
          refine wp_region_after (by kernel_rfl) (by kernel_rfl) ?_
          repeat (go_big_quiet_step ((first
            | (go_at_call 22; refine Calls.after_of (hSa' _))
            | (go_at_call 14; refine Calls.after_of (hRa' _))
            | (go_at_call 19; refine Calls.after_of (hA _)))))
          refine wpQuiet_nil ?_
          rintro _ ⟨q, rfl⟩
          go_wp2_with fail
          go_ret
          exact ⟨rfl, on HF5.out.bel q.h⟩
        | true =>
          rw [eT]
          have jc0 : v2.cell? ⟨pc, 0, none⟩ = some (.int .i64 ck) := cell_heap HF4.out.c rfl
          have jc1 : v2.cell? ⟨pc, 1, none⟩ = some (.int .i64 c0) := cell_heap HF4.out.c rfl
          have jc2 : v2.cell? ⟨pc, 2, none⟩ = some (.bool c1) := cell_heap HF4.out.c rfl
          have jc3 : v2.cell? ⟨pc, 3, none⟩ = some (.bool c2) := cell_heap HF4.out.c rfl
          have jc4 : v2.cell? ⟨pc, 4, none⟩ = some (.int .i64 c3) := cell_heap HF4.out.c rfl
          have jc5 : v2.cell? ⟨pc, 5, none⟩ = some (.int .i64 c4) := cell_heap HF4.out.c rfl
          have jc6 : v2.cell? ⟨pc, 6, none⟩ = some (.int .i64 c5) := cell_heap HF4.out.c rfl
          have jc7 : v2.cell? ⟨pc, 7, none⟩ = some (.int .i64 c6) := cell_heap HF4.out.c rfl
          have jc8 : v2.cell? ⟨pc, 8, none⟩ = some (.int .i64 c7) := cell_heap HF4.out.c rfl
          have jd0 : v2.cell? ⟨pd, 0, none⟩ = some (.int .i64 dk) := cell_heap HF4.out.d rfl
          have jd1 : v2.cell? ⟨pd, 1, none⟩ = some (.int .i64 d0) := cell_heap HF4.out.d rfl
          have jd2 : v2.cell? ⟨pd, 2, none⟩ = some (.bool d1) := cell_heap HF4.out.d rfl
          have jd3 : v2.cell? ⟨pd, 3, none⟩ = some (.bool d2) := cell_heap HF4.out.d rfl
          have jd4 : v2.cell? ⟨pd, 4, none⟩ = some (.int .i64 d3) := cell_heap HF4.out.d rfl
          have jd5 : v2.cell? ⟨pd, 5, none⟩ = some (.int .i64 d4) := cell_heap HF4.out.d rfl
          have jd6 : v2.cell? ⟨pd, 6, none⟩ = some (.int .i64 d5) := cell_heap HF4.out.d rfl
          have jd7 : v2.cell? ⟨pd, 7, none⟩ = some (.int .i64 d6) := cell_heap HF4.out.d rfl
          have jd8 : v2.cell? ⟨pd, 8, none⟩ = some (.int .i64 d7) := cell_heap HF4.out.d rfl
          have jca0 := After.cell jc0
          have jca1 := After.cell jc1
          have jca2 := After.cell jc2
          have jca3 := After.cell jc3
          have jca4 := After.cell jc4
          have jca5 := After.cell jc5
          have jca6 := After.cell jc6
          have jca7 := After.cell jc7
          have jca8 := After.cell jc8
          have jda0 := After.cell jd0
          have jda1 := After.cell jd1
          have jda2 := After.cell jd2
          have jda3 := After.cell jd3
          have jda4 := After.cell jd4
          have jda5 := After.cell jd5
          have jda6 := After.cell jd6
          have jda7 := After.cell jd7
          have jda8 := After.cell jd8
          have hcv := HTc.out rfl rfl
          have hst := (beq_str (str (wrB Nc)) (str (wrB Nd))).trans hcv
          obtain ⟨x3, e3, rfl, hs3, _⟩ := H3.out.1.sl (wrB_lt _)
          obtain ⟨x4, e4, rfl, hs4, _⟩ := H4.out.1.sl (wrB_lt _)
          have hc3 := fun (q : After v2) => After.conv (hs3.below H4.out.2) q
          have hc4 := fun (q : After v2) => After.conv hs4 q
          have hbn : (tk != tk) = false := by cases tk <;> rfl
          simp only [if_true] at hc3 hc4 ⊢
          generalize str (wrB Nc) = S3 at *
          generalize str (wrB Nd) = S4 at *
          refine wp_region_after (by kernel_rfl) (by kernel_rfl) ?_
          repeat (go_big_quiet_step (fail))
          refine wpQuiet_nil ?_
          rintro _ ⟨q, rfl⟩
          obtain ⟨w5, hb5⟩ := q
          dsimp only
          have HF5 := hid (HF4.out.below hb5)
          have la0 : w5.cell? ⟨w.heap.size, 0, none⟩ = some (.int .i64 ea) := cell_heap HF5.out.a rfl
          have la1 : w5.cell? ⟨w.heap.size, 1, none⟩ = some (.int .i64 a1) := cell_heap HF5.out.a rfl
          have la2 : w5.cell? ⟨w.heap.size, 2, none⟩ = some (.int .i64 a2) := cell_heap HF5.out.a rfl
          have la3 : w5.cell? ⟨w.heap.size, 3, none⟩ = some (.int .i64 a3) := cell_heap HF5.out.a rfl
          have la4 : w5.cell? ⟨w.heap.size, 4, none⟩ = some (.int .i64 a4) := cell_heap HF5.out.a rfl
          have la5 : w5.cell? ⟨w.heap.size, 5, none⟩ = some (.slice x n c) := cell_heap HF5.out.a rfl
          have lb0 : w5.cell? ⟨w.heap.size + 1, 0, none⟩ = some (.int .i64 eb) := cell_heap HF5.out.b rfl
          have lb1 : w5.cell? ⟨w.heap.size + 1, 1, none⟩ = some (.int .i64 b1) := cell_heap HF5.out.b rfl
          have lb2 : w5.cell? ⟨w.heap.size + 1, 2, none⟩ = some (.int .i64 b2) := cell_heap HF5.out.b rfl
          have lb3 : w5.cell? ⟨w.heap.size + 1, 3, none⟩ = some (.int .i64 b3) := cell_heap HF5.out.b rfl
          have lb4 : w5.cell? ⟨w.heap.size + 1, 4, none⟩ = some (.int .i64 b4) := cell_heap HF5.out.b rfl
          have lb5 : w5.cell? ⟨w.heap.size + 1, 5, none⟩ = some (.slice y n' c') := cell_heap HF5.out.b rfl
          go_wp2_with fail
          haveI := After.ne w5
          have laa0 := After.cell la0
          have laa1 := After.cell la1
          have laa2 := After.cell la2
          have laa3 := After.cell la3
          have laa4 := After.cell la4
          have laa5 := After.cell la5
          have lba0 := After.cell lb0
          have lba1 := After.cell lb1
          have lba2 := After.cell lb2
          have lba3 := After.cell lb3
          have lba4 := After.cell lb4
          have lba5 := After.cell lb5
          have hSa' := fun (q : After w5) => hSa q.W (HOa.out.below (on HF5.out.bel q.h)) (HOb.out.below (on HF5.out.bel q.h))
          have hRa' := fun (q : After w5) => hRa q.W (HOa.out.below (on HF5.out.bel q.h)) (HOb.out.below (on HF5.out.bel q.h))
          clear hSa hRa
          refine wp_region_after (by kernel_rfl) (by kernel_rfl) ?_
          repeat (go_big_quiet_step ((first
            | (go_at_call 22; refine Calls.after_of (hSa' _))
            | (go_at_call 14; refine Calls.after_of (hRa' _))
            | (go_at_call 19; refine Calls.after_of (hA _)))))
          refine wpQuiet_nil ?_
          rintro _ ⟨q, rfl⟩
          go_wp2_with fail
          go_ret
          exact ⟨rfl, on HF5.out.bel q.h⟩
    | true =>
      cases tb with
      | false =>
        rw [eT, eF]
        refine wp_region_after (by kernel_rfl) (by kernel_rfl) ?_
        repeat (go_big_quiet_step (fail))
        refine wpQuiet_nil ?_
        rintro _ ⟨q, rfl⟩
        obtain ⟨w3, hb3⟩ := q
        dsimp only
        have HF3 := hid (HF2.out.below hb3)
        have jc0 : w3.cell? ⟨pc, 0, none⟩ = some (.int .i64 ck) := cell_heap HF3.out.c rfl
        have jc1 : w3.cell? ⟨pc, 1, none⟩ = some (.int .i64 c0) := cell_heap HF3.out.c rfl
        have jc2 : w3.cell? ⟨pc, 2, none⟩ = some (.bool c1) := cell_heap HF3.out.c rfl
        have jc3 : w3.cell? ⟨pc, 3, none⟩ = some (.bool c2) := cell_heap HF3.out.c rfl
        have jc4 : w3.cell? ⟨pc, 4, none⟩ = some (.int .i64 c3) := cell_heap HF3.out.c rfl
        have jc5 : w3.cell? ⟨pc, 5, none⟩ = some (.int .i64 c4) := cell_heap HF3.out.c rfl
        have jc6 : w3.cell? ⟨pc, 6, none⟩ = some (.int .i64 c5) := cell_heap HF3.out.c rfl
        have jc7 : w3.cell? ⟨pc, 7, none⟩ = some (.int .i64 c6) := cell_heap HF3.out.c rfl
        have jc8 : w3.cell? ⟨pc, 8, none⟩ = some (.int .i64 c7) := cell_heap HF3.out.c rfl
        have jd0 : w3.cell? ⟨pd, 0, none⟩ = some (.int .i64 dk) := cell_heap HF3.out.d rfl
        have jd1 : w3.cell? ⟨pd, 1, none⟩ = some (.int .i64 d0) := cell_heap HF3.out.d rfl
        have jd2 : w3.cell? ⟨pd, 2, none⟩ = some (.bool d1) := cell_heap HF3.out.d rfl
        have jd3 : w3.cell? ⟨pd, 3, none⟩ = some (.bool d2) := cell_heap HF3.out.d rfl
        have jd4 : w3.cell? ⟨pd, 4, none⟩ = some (.int .i64 d3) := cell_heap HF3.out.d rfl
        have jd5 : w3.cell? ⟨pd, 5, none⟩ = some (.int .i64 d4) := cell_heap HF3.out.d rfl
        have jd6 : w3.cell? ⟨pd, 6, none⟩ = some (.int .i64 d5) := cell_heap HF3.out.d rfl
        have jd7 : w3.cell? ⟨pd, 7, none⟩ = some (.int .i64 d6) := cell_heap HF3.out.d rfl
        have jd8 : w3.cell? ⟨pd, 8, none⟩ = some (.int .i64 d7) := cell_heap HF3.out.d rfl
        go_wp2_with (first
          | (
             go_at_call 26; refine (hKc _).mono ?_; rintro e v1 ⟨R3, rfl, H3⟩; clear hKc
             replace jd0 := keep H3.out.2 jd0
             replace jd1 := keep H3.out.2 jd1
             replace jd2 := keep H3.out.2 jd2
             replace jd3 := keep H3.out.2 jd3
             replace jd4 := keep H3.out.2 jd4
             replace jd5 := keep H3.out.2 jd5
             replace jd6 := keep H3.out.2 jd6
             replace jd7 := keep H3.out.2 jd7
             replace jd8 := keep H3.out.2 jd8
             have HFv := hid (HF3.out.below H3.out.2))
          | (
             go_at_call 26; refine (hKd _).mono ?_; rintro e v2 ⟨R4, rfl, H4⟩; clear hKd
             have HF4 := hid (HFv.out.below H4.out.2)))
        haveI := After.ne v2
        cases tc with
        | false =>
          rw [eF]
          refine wp_region_after (by kernel_rfl) (by kernel_rfl) ?_
          repeat (go_big_quiet_step (fail))
          refine wpQuiet_nil ?_
          rintro _ ⟨q, rfl⟩
          obtain ⟨w5, hb5⟩ := q
          dsimp only
          have HF5 := hid (HF4.out.below hb5)
          have la0 : w5.cell? ⟨w.heap.size, 0, none⟩ = some (.int .i64 ea) := cell_heap HF5.out.a rfl
          have la1 : w5.cell? ⟨w.heap.size, 1, none⟩ = some (.int .i64 a1) := cell_heap HF5.out.a rfl
          have la2 : w5.cell? ⟨w.heap.size, 2, none⟩ = some (.int .i64 a2) := cell_heap HF5.out.a rfl
          have la3 : w5.cell? ⟨w.heap.size, 3, none⟩ = some (.int .i64 a3) := cell_heap HF5.out.a rfl
          have la4 : w5.cell? ⟨w.heap.size, 4, none⟩ = some (.int .i64 a4) := cell_heap HF5.out.a rfl
          have la5 : w5.cell? ⟨w.heap.size, 5, none⟩ = some (.slice x n c) := cell_heap HF5.out.a rfl
          have lb0 : w5.cell? ⟨w.heap.size + 1, 0, none⟩ = some (.int .i64 eb) := cell_heap HF5.out.b rfl
          have lb1 : w5.cell? ⟨w.heap.size + 1, 1, none⟩ = some (.int .i64 b1) := cell_heap HF5.out.b rfl
          have lb2 : w5.cell? ⟨w.heap.size + 1, 2, none⟩ = some (.int .i64 b2) := cell_heap HF5.out.b rfl
          have lb3 : w5.cell? ⟨w.heap.size + 1, 3, none⟩ = some (.int .i64 b3) := cell_heap HF5.out.b rfl
          have lb4 : w5.cell? ⟨w.heap.size + 1, 4, none⟩ = some (.int .i64 b4) := cell_heap HF5.out.b rfl
          have lb5 : w5.cell? ⟨w.heap.size + 1, 5, none⟩ = some (.slice y n' c') := cell_heap HF5.out.b rfl
          go_wp2_with fail
          haveI := After.ne w5
          have laa0 := After.cell la0
          have laa1 := After.cell la1
          have laa2 := After.cell la2
          have laa3 := After.cell la3
          have laa4 := After.cell la4
          have laa5 := After.cell la5
          have lba0 := After.cell lb0
          have lba1 := After.cell lb1
          have lba2 := After.cell lb2
          have lba3 := After.cell lb3
          have lba4 := After.cell lb4
          have lba5 := After.cell lb5
          have hSa' := fun (q : After w5) => hSa q.W (HOa.out.below (on HF5.out.bel q.h)) (HOb.out.below (on HF5.out.bel q.h))
          have hRa' := fun (q : After w5) => hRa q.W (HOa.out.below (on HF5.out.bel q.h)) (HOb.out.below (on HF5.out.bel q.h))
          clear hSa hRa
          refine wp_region_after (by kernel_rfl) (by kernel_rfl) ?_
          repeat (go_big_quiet_step ((first
            | (go_at_call 22; refine Calls.after_of (hSa' _))
            | (go_at_call 14; refine Calls.after_of (hRa' _))
            | (go_at_call 19; refine Calls.after_of (hA _)))))
          refine wpQuiet_nil ?_
          rintro _ ⟨q, rfl⟩
          go_wp2_with fail
          go_ret
          exact ⟨rfl, on HF5.out.bel q.h⟩
        | true =>
          cases td with
          | false =>
            rw [eT, eF]
            refine wp_region_after (by kernel_rfl) (by kernel_rfl) ?_
            repeat (go_big_quiet_step (fail))
            refine wpQuiet_nil ?_
            rintro _ ⟨q, rfl⟩
            obtain ⟨w5, hb5⟩ := q
            dsimp only
            have HF5 := hid (HF4.out.below hb5)
            have la0 : w5.cell? ⟨w.heap.size, 0, none⟩ = some (.int .i64 ea) := cell_heap HF5.out.a rfl
            have la1 : w5.cell? ⟨w.heap.size, 1, none⟩ = some (.int .i64 a1) := cell_heap HF5.out.a rfl
            have la2 : w5.cell? ⟨w.heap.size, 2, none⟩ = some (.int .i64 a2) := cell_heap HF5.out.a rfl
            have la3 : w5.cell? ⟨w.heap.size, 3, none⟩ = some (.int .i64 a3) := cell_heap HF5.out.a rfl
            have la4 : w5.cell? ⟨w.heap.size, 4, none⟩ = some (.int .i64 a4) := cell_heap HF5.out.a rfl
            have la5 : w5.cell? ⟨w.heap.size, 5, none⟩ = some (.slice x n c) := cell_heap HF5.out.a rfl
            have lb0 : w5.cell? ⟨w.heap.size + 1, 0, none⟩ = some (.int .i64 eb) := cell_heap HF5.out.b rfl
            have lb1 : w5.cell? ⟨w.heap.size + 1, 1, none⟩ = some (.int .i64 b1) := cell_heap HF5.out.b rfl
            have lb2 : w5.cell? ⟨w.heap.size + 1, 2, none⟩ = some (.int .i64 b2) := cell_heap HF5.out.b rfl
            have lb3 : w5.cell? ⟨w.heap.size + 1, 3, none⟩ = some (.int .i64 b3) := cell_heap HF5.out.b rfl
            have lb4 : w5.cell? ⟨w.heap.size + 1, 4, none⟩ = some (.int .i64 b4) := cell_heap HF5.out.b rfl
            have lb5 : w5.cell? ⟨w.heap.size + 1, 5, none⟩ = some (.slice y n' c') := cell_heap HF5.out.b rfl
            go_wp2_with fail
            haveI := After.ne w5
            have laa0 := After.cell la0
            have laa1 := After.cell la1
            have laa2 := After.cell la2
            have laa3 := After.cell la3
            have laa4 := After.cell la4
            have laa5 := After.cell la5
            have lba0 := After.cell lb0
            have lba1 := After.cell lb1
            have lba2 := After.cell lb2
            have lba3 := After.cell lb3
            have lba4 := After.cell lb4
            have lba5 := After.cell lb5
            have hSa' := fun (q : After w5) => hSa q.W (HOa.out.below (on HF5.out.bel q.h)) (HOb.out.below (on HF5.out.bel q.h))
            have hRa' := fun (q : After w5) => hRa q.W (HOa.out.below (on HF5.out.bel q.h)) (HOb.out.below (on HF5.out.bel q.h))
            clear hSa hRa
            refine wp_region_after (by kernel_rfl) (by kernel_rfl) ?_
            repeat (go_big_quiet_step ((first
              | (go_at_call 22; refine Calls.after_of (hSa' _))
              | (go_at_call 14; refine Calls.after_of (hRa' _))
              | (go_at_call 19; refine Calls.after_of (hA _)))))
            refine wpQuiet_nil ?_
            rintro _ ⟨q, rfl⟩
            go_wp2_with fail
            go_ret
            exact ⟨rfl, on HF5.out.bel q.h⟩
          | true =>
            rw [eT]
            have jc0 : v2.cell? ⟨pc, 0, none⟩ = some (.int .i64 ck) := cell_heap HF4.out.c rfl
            have jc1 : v2.cell? ⟨pc, 1, none⟩ = some (.int .i64 c0) := cell_heap HF4.out.c rfl
            have jc2 : v2.cell? ⟨pc, 2, none⟩ = some (.bool c1) := cell_heap HF4.out.c rfl
            have jc3 : v2.cell? ⟨pc, 3, none⟩ = some (.bool c2) := cell_heap HF4.out.c rfl
            have jc4 : v2.cell? ⟨pc, 4, none⟩ = some (.int .i64 c3) := cell_heap HF4.out.c rfl
            have jc5 : v2.cell? ⟨pc, 5, none⟩ = some (.int .i64 c4) := cell_heap HF4.out.c rfl
            have jc6 : v2.cell? ⟨pc, 6, none⟩ = some (.int .i64 c5) := cell_heap HF4.out.c rfl
            have jc7 : v2.cell? ⟨pc, 7, none⟩ = some (.int .i64 c6) := cell_heap HF4.out.c rfl
            have jc8 : v2.cell? ⟨pc, 8, none⟩ = some (.int .i64 c7) := cell_heap HF4.out.c rfl
            have jd0 : v2.cell? ⟨pd, 0, none⟩ = some (.int .i64 dk) := cell_heap HF4.out.d rfl
            have jd1 : v2.cell? ⟨pd, 1, none⟩ = some (.int .i64 d0) := cell_heap HF4.out.d rfl
            have jd2 : v2.cell? ⟨pd, 2, none⟩ = some (.bool d1) := cell_heap HF4.out.d rfl
            have jd3 : v2.cell? ⟨pd, 3, none⟩ = some (.bool d2) := cell_heap HF4.out.d rfl
            have jd4 : v2.cell? ⟨pd, 4, none⟩ = some (.int .i64 d3) := cell_heap HF4.out.d rfl
            have jd5 : v2.cell? ⟨pd, 5, none⟩ = some (.int .i64 d4) := cell_heap HF4.out.d rfl
            have jd6 : v2.cell? ⟨pd, 6, none⟩ = some (.int .i64 d5) := cell_heap HF4.out.d rfl
            have jd7 : v2.cell? ⟨pd, 7, none⟩ = some (.int .i64 d6) := cell_heap HF4.out.d rfl
            have jd8 : v2.cell? ⟨pd, 8, none⟩ = some (.int .i64 d7) := cell_heap HF4.out.d rfl
            have jca0 := After.cell jc0
            have jca1 := After.cell jc1
            have jca2 := After.cell jc2
            have jca3 := After.cell jc3
            have jca4 := After.cell jc4
            have jca5 := After.cell jc5
            have jca6 := After.cell jc6
            have jca7 := After.cell jc7
            have jca8 := After.cell jc8
            have jda0 := After.cell jd0
            have jda1 := After.cell jd1
            have jda2 := After.cell jd2
            have jda3 := After.cell jd3
            have jda4 := After.cell jd4
            have jda5 := After.cell jd5
            have jda6 := After.cell jd6
            have jda7 := After.cell jd7
            have jda8 := After.cell jd8
            have hcv := HTc.out rfl rfl
            have hst := (beq_str (str (wrB Nc)) (str (wrB Nd))).trans hcv
            obtain ⟨x3, e3, rfl, hs3, _⟩ := H3.out.1.sl (wrB_lt _)
            obtain ⟨x4, e4, rfl, hs4, _⟩ := H4.out.1.sl (wrB_lt _)
            have hc3 := fun (q : After v2) => After.conv (hs3.below H4.out.2) q
            have hc4 := fun (q : After v2) => After.conv hs4 q
            have hbn : (tk != tk) = false := by cases tk <;> rfl
            simp only [if_true] at hc3 hc4 ⊢
            generalize str (wrB Nc) = S3 at *
            generalize str (wrB Nd) = S4 at *
            refine wp_region_after (by kernel_rfl) (by kernel_rfl) ?_
            repeat (go_big_quiet_step (fail))
            refine wpQuiet_nil ?_
            rintro _ ⟨q, rfl⟩
            obtain ⟨w5, hb5⟩ := q
            dsimp only
            have HF5 := hid (HF4.out.below hb5)
            have la0 : w5.cell? ⟨w.heap.size, 0, none⟩ = some (.int .i64 ea) := cell_heap HF5.out.a rfl
            have la1 : w5.cell? ⟨w.heap.size, 1, none⟩ = some (.int .i64 a1) := cell_heap HF5.out.a rfl
            have la2 : w5.cell? ⟨w.heap.size, 2, none⟩ = some (.int .i64 a2) := cell_heap HF5.out.a rfl
            have la3 : w5.cell? ⟨w.heap.size, 3, none⟩ = some (.int .i64 a3) := cell_heap HF5.out.a rfl
            have la4 : w5.cell? ⟨w.heap.size, 4, none⟩ = some (.int .i64 a4) := cell_heap HF5.out.a rfl
            have la5 : w5.cell? ⟨w.heap.size, 5, none⟩ = some (.slice x n c) := cell_heap HF5.out.a rfl
            have lb0 : w5.cell? ⟨w.heap.size + 1, 0, none⟩ = some (.int .i64 eb) := cell_heap HF5.out.b rfl
            have lb1 : w5.cell? ⟨w.heap.size + 1, 1, none⟩ = some (.int .i64 b1) := cell_heap HF5.out.b rfl
            have lb2 : w5.cell? ⟨w.heap.size + 1, 2, none⟩ = some (.int .i64 b2) := cell_heap HF5.out.b rfl
            have lb3 : w5.cell? ⟨w.heap.size + 1, 3, none⟩ = some (.int .i64 b3) := cell_heap HF5.out.b rfl
            have lb4 : w5.cell? ⟨w.heap.size + 1, 4, none⟩ = some (.int .i64 b4) := cell_heap HF5.out.b rfl
            have lb5 : w5.cell? ⟨w.heap.size + 1, 5, none⟩ = some (.slice y n' c') := cell_heap HF5.out.b rfl
            go_wp2_with fail
            haveI := After.ne w5
            have laa0 := After.cell la0
            have laa1 := After.cell la1
            have laa2 := After.cell la2
            have laa3 := After.cell la3
            have laa4 := After.cell la4
            have laa5 := After.cell la5
            have lba0 := After.cell lb0
            have lba1 := After.cell lb1
            have lba2 := After.cell lb2
            have lba3 := After.cell lb3
            have lba4 := After.cell lb4
            have lba5 := After.cell lb5
            have hSa' := fun (q : After w5) => hSa q.W (HOa.out.below (on HF5.out.bel q.h)) (HOb.out.below (on HF5.out.bel q.h))
            have hRa' := fun (q : After w5) => hRa q.W (HOa.out.below (on HF5.out.bel q.h)) (HOb.out.below (on HF5.out.bel q.h))
            clear hSa hRa
            refine wp_region_after (by kernel_rfl) (by kernel_rfl) ?_
            repeat (go_big_quiet_step ((first
              | (go_at_call 22; refine Calls.after_of (hSa' _))
              | (go_at_call 14; refine Calls.after_of (hRa' _))
              | (go_at_call 19; refine Calls.after_of (hA _)))))
            refine wpQuiet_nil ?_
            rintro _ ⟨q, rfl⟩
            go_wp2_with fail
            go_ret
            exact ⟨rfl, on HF5.out.bel q.h⟩
      | true =>
        rw [eT]
        have ma0 : w2.cell? ⟨w.heap.size, 0, none⟩ = some (.int .i64 ea) := cell_heap HF2.out.a rfl
        have ma1 : w2.cell? ⟨w.heap.size, 1, none⟩ = some (.int .i64 a1) := cell_heap HF2.out.a rfl
        have ma2 : w2.cell? ⟨w.heap.size, 2, none⟩ = some (.int .i64 a2) := cell_heap HF2.out.a rfl
        have ma3 : w2.cell? ⟨w.heap.size, 3, none⟩ = some (.int .i64 a3) := cell_heap HF2.out.a rfl
        have ma4 : w2.cell? ⟨w.heap.size, 4, none⟩ = some (.int .i64 a4) := cell_heap HF2.out.a rfl
        have ma5 : w2.cell? ⟨w.heap.size, 5, none⟩ = some (.slice x n c) := cell_heap HF2.out.a rfl
        have mb0 : w2.cell? ⟨w.heap.size + 1, 0, none⟩ = some (.int .i64 eb) := cell_heap HF2.out.b rfl
        have mb1 : w2.cell? ⟨w.heap.size + 1, 1, none⟩ = some (.int .i64 b1) := cell_heap HF2.out.b rfl
        have mb2 : w2.cell? ⟨w.heap.size + 1, 2, none⟩ = some (.int .i64 b2) := cell_heap HF2.out.b rfl
        have mb3 : w2.cell? ⟨w.heap.size + 1, 3, none⟩ = some (.int .i64 b3) := cell_heap HF2.out.b rfl
        have mb4 : w2.cell? ⟨w.heap.size + 1, 4, none⟩ = some (.int .i64 b4) := cell_heap HF2.out.b rfl
        have mb5 : w2.cell? ⟨w.heap.size + 1, 5, none⟩ = some (.slice y n' c') := cell_heap HF2.out.b rfl
        have maa0 := After.cell ma0
        have maa1 := After.cell ma1
        have maa2 := After.cell ma2
        have maa3 := After.cell ma3
        have maa4 := After.cell ma4
        have maa5 := After.cell ma5
        have mba0 := After.cell mb0
        have mba1 := After.cell mb1
        have mba2 := After.cell mb2
        have mba3 := After.cell mb3
        have mba4 := After.cell mb4
        have mba5 := After.cell mb5
        have hRb := fun (q : After w2) => hRa q.W (HOa.out.below (on HF2.out.bel q.h)) (HOb.out.below (on HF2.out.bel q.h))
        have hcv := HTm.out rfl rfl
        have hst := (beq_str (str (wrB Na)) (str (wrB Nb))).trans hcv
        obtain ⟨x1, e1, rfl, hs1, _⟩ := H1.out.1.sl (wrB_lt _)
        obtain ⟨x2, e2, rfl, hs2, _⟩ := H2.out.1.sl (wrB_lt _)
        have hc1 := fun (q : After w2) => After.conv (hs1.below H2.out.2) q
        have hc2 := fun (q : After w2) => After.conv hs2 q
        have hbm : (tm != tm) = false := by cases tm <;> rfl
        simp only [if_true] at hc1 hc2 ⊢
        generalize str (wrB Na) = S1 at *
        generalize str (wrB Nb) = S2 at *
        refine wp_region_after (by kernel_rfl) (by kernel_rfl) ?_
        repeat (go_big_quiet_step ((first
          | (go_at_call 14; refine Calls.after_of (hRb _)))))
        refine wpQuiet_nil ?_
        rintro _ ⟨q, rfl⟩
        obtain ⟨w3, hb3⟩ := q
        dsimp only
        have HF3 := hid (HF2.out.below hb3)
        have jc0 : w3.cell? ⟨pc, 0, none⟩ = some (.int .i64 ck) := cell_heap HF3.out.c rfl
        have jc1 : w3.cell? ⟨pc, 1, none⟩ = some (.int .i64 c0) := cell_heap HF3.out.c rfl
        have jc2 : w3.cell? ⟨pc, 2, none⟩ = some (.bool c1) := cell_heap HF3.out.c rfl
        have jc3 : w3.cell? ⟨pc, 3, none⟩ = some (.bool c2) := cell_heap HF3.out.c rfl
        have jc4 : w3.cell? ⟨pc, 4, none⟩ = some (.int .i64 c3) := cell_heap HF3.out.c rfl
        have jc5 : w3.cell? ⟨pc, 5, none⟩ = some (.int .i64 c4) := cell_heap HF3.out.c rfl
        have jc6 : w3.cell? ⟨pc, 6, none⟩ = some (.int .i64 c5) := cell_heap HF3.out.c rfl
        have jc7 : w3.cell? ⟨pc, 7, none⟩ = some (.int .i64 c6) := cell_heap HF3.out.c rfl
        have jc8 : w3.cell? ⟨pc, 8, none⟩ = some (.int .i64 c7) := cell_heap HF3.out.c rfl
        have jd0 : w3.cell? ⟨pd, 0, none⟩ = some (.int .i64 dk) := cell_heap HF3.out.d rfl
        have jd1 : w3.cell? ⟨pd, 1, none⟩ = some (.int .i64 d0) := cell_heap HF3.out.d rfl
        have jd2 : w3.cell? ⟨pd, 2, none⟩ = some (.bool d1) := cell_heap HF3.out.d rfl
        have jd3 : w3.cell? ⟨pd, 3, none⟩ = some (.bool d2) := cell_heap HF3.out.d rfl
        have jd4 : w3.cell? ⟨pd, 4, none⟩ = some (.int .i64 d3) := cell_heap HF3.out.d rfl
        have jd5 : w3.cell? ⟨pd, 5, none⟩ = some (.int .i64 d4) := cell_heap HF3.out.d rfl
        have jd6 : w3.cell? ⟨pd, 6, none⟩ = some (.int .i64 d5) := cell_heap HF3.out.d rfl
        have jd7 : w3.cell? ⟨pd, 7, none⟩ = some (.int .i64 d6) := cell_heap HF3.out.d rfl
        have jd8 : w3.cell? ⟨pd, 8, none⟩ = some (.int .i64 d7) := cell_heap HF3.out.d rfl
        go_wp2_with (first
          | (
             go_at_call 26; refine (hKc _).mono ?_; rintro e v1 ⟨R3, rfl, H3⟩; clear hKc
             replace jd0 := keep H3.out.2 jd0
             replace jd1 := keep H3.out.2 jd1
             replace jd2 := keep H3.out.2 jd2
             replace jd3 := keep H3.out.2 jd3
             replace jd4 := keep H3.out.2 jd4
             replace jd5 := keep H3.out.2 jd5
             replace jd6 := keep H3.out.2 jd6
             replace jd7 := keep H3.out.2 jd7
             replace jd8 := keep H3.out.2 jd8
             have HFv := hid (HF3.out.below H3.out.2))
          | (
             go_at_call 26; refine (hKd _).mono ?_; rintro e v2 ⟨R4, rfl, H4⟩; clear hKd
             have HF4 := hid (HFv.out.below H4.out.2)))
        haveI := After.ne v2
        cases tc with
        | false =>
          rw [eF]
          refine wp_region_after (by kernel_rfl) (by kernel_rfl) ?_
          repeat (go_big_quiet_step (fail))
          refine wpQuiet_nil ?_
          rintro _ ⟨q, rfl⟩
          obtain ⟨w5, hb5⟩ := q
          dsimp only
          have HF5 := hid (HF4.out.below hb5)
          have la0 : w5.cell? ⟨w.heap.size, 0, none⟩ = some (.int .i64 ea) := cell_heap HF5.out.a rfl
          have la1 : w5.cell? ⟨w.heap.size, 1, none⟩ = some (.int .i64 a1) := cell_heap HF5.out.a rfl
          have la2 : w5.cell? ⟨w.heap.size, 2, none⟩ = some (.int .i64 a2) := cell_heap HF5.out.a rfl
          have la3 : w5.cell? ⟨w.heap.size, 3, none⟩ = some (.int .i64 a3) := cell_heap HF5.out.a rfl
          have la4 : w5.cell? ⟨w.heap.size, 4, none⟩ = some (.int .i64 a4) := cell_heap HF5.out.a rfl
          have la5 : w5.cell? ⟨w.heap.size, 5, none⟩ = some (.slice x n c) := cell_heap HF5.out.a rfl
          have lb0 : w5.cell? ⟨w.heap.size + 1, 0, none⟩ = some (.int .i64 eb) := cell_heap HF5.out.b rfl
          have lb1 : w5.cell? ⟨w.heap.size + 1, 1, none⟩ = some (.int .i64 b1) := cell_heap HF5.out.b rfl
          have lb2 : w5.cell? ⟨w.heap.size + 1, 2, none⟩ = some (.int .i64 b2) := cell_heap HF5.out.b rfl
          have lb3 : w5.cell? ⟨w.heap.size + 1, 3, none⟩ = some (.int .i64 b3) := cell_heap HF5.out.b rfl
          have lb4 : w5.cell? ⟨w.heap.size + 1, 4, none⟩ = some (.int .i64 b4) := cell_heap HF5.out.b rfl
          have lb5 : w5.cell? ⟨w.heap.size + 1, 5, none⟩ = some (.slice y n' c') := cell_heap HF5.out.b rfl
          go_wp2_with fail
          haveI := After.ne w5
          have laa0 := After.cell la0
          have laa1 := After.cell la1
          have laa2 := After.cell la2
          have laa3 := After.cell la3
          have laa4 := After.cell la4
          have laa5 := After.cell la5
          have lba0 := After.cell lb0
          have lba1 := After.cell lb1
          have lba2 := After.cell lb2
          have lba3 := After.cell lb3
          have lba4 := After.cell lb4
          have lba5 := After.cell lb5
          have hSa' := fun (q : After w5) => hSa q.W (HOa.out.below (on HF5.out.bel q.h)) (HOb.out.below (on HF5.out.bel q.h))
          have hRa' := fun (q : After w5) => hRa q.W (HOa.out.below (on HF5.out.bel q.h)) (HOb.out.below (on HF5.out.bel q.h))
          clear hSa hRa
          refine wp_region_after (by kernel_rfl) (by kernel_rfl) ?_
          repeat (go_big_quiet_step ((first
            | (go_at_call 22; refine Calls.after_of (hSa' _))
            | (go_at_call 14; refine Calls.after_of (hRa' _))
            | (go_at_call 19; refine Calls.after_of (hA _)))))
          refine wpQuiet_nil ?_
          rintro _ ⟨q, rfl⟩
          go_wp2_with fail
          go_ret
          exact ⟨rfl, on HF5.out.bel q.h⟩
        | true =>
          cases td with
          | false =>
            rw [eT, eF]
            refine wp_region_after (by kernel_rfl) (by kernel_rfl) ?_
            repeat (go_big_quiet_step (fail))
            refine wpQuiet_nil ?_
            rintro _ ⟨q, rfl⟩
            obtain ⟨w5, hb5⟩ := q
            dsimp only
            have HF5 := hid (HF4.out.below hb5)
            have la0 : w5.cell? ⟨w.heap.size, 0, none⟩ = some (.int .i64 ea) := cell_heap HF5.out.a rfl
            have la1 : w5.cell? ⟨w.heap.size, 1, none⟩ = some (.int .i64 a1) := cell_heap HF5.out.a rfl
            have la2 : w5.cell? ⟨w.heap.size, 2, none⟩ = some (.int .i64 a2) := cell_heap HF5.out.a rfl
            have la3 : w5.cell? ⟨w.heap.size, 3, none⟩ = some (.int .i64 a3) := cell_heap HF5.out.a rfl
            have la4 : w5.cell? ⟨w.heap.size, 4, none⟩ = some (.int .i64 a4) := cell_heap HF5.out.a rfl
            have la5 : w5.cell? ⟨w.heap.size, 5, none⟩ = some (.slice x n c) := cell_heap HF5.out.a rfl
            have lb0 : w5.cell? ⟨w.heap.size + 1, 0, none⟩ = some (.int .i64 eb) := cell_heap HF5.out.b rfl
            have lb1 : w5.cell? ⟨w.heap.size + 1, 1, none⟩ = some (.int .i64 b1) := cell_heap HF5.out.b rfl
            have lb2 : w5.cell? ⟨w.heap.size + 1, 2, none⟩ = some (.int .i64 b2) := cell_heap HF5.out.b rfl
            have lb3 : w5.cell? ⟨w.heap.size + 1, 3, none⟩ = some (.int .i64 b3) := cell_heap HF5.out.b rfl
            have lb4 : w5.cell? ⟨w.heap.size + 1, 4, none⟩ = some (.int .i64 b4) := cell_heap HF5.out.b rfl
            have lb5 : w5.cell? ⟨w.heap.size + 1, 5, none⟩ = some (.slice y n' c') := cell_heap HF5.out.b rfl
            go_wp2_with fail
            haveI := After.ne w5
            have laa0 := After.cell la0
            have laa1 := After.cell la1
            have laa2 := After.cell la2
            have laa3 := After.cell la3
            have laa4 := After.cell la4
            have laa5 := After.cell la5
            have lba0 := After.cell lb0
            have lba1 := After.cell lb1
            have lba2 := After.cell lb2
            have lba3 := After.cell lb3
            have lba4 := After.cell lb4
            have lba5 := After.cell lb5
            have hSa' := fun (q : After w5) => hSa q.W (HOa.out.below (on HF5.out.bel q.h)) (HOb.out.below (on HF5.out.bel q.h))
            have hRa' := fun (q : After w5) => hRa q.W (HOa.out.below (on HF5.out.bel q.h)) (HOb.out.below (on HF5.out.bel q.h))
            clear hSa hRa
            refine wp_region_after (by kernel_rfl) (by kernel_rfl) ?_
            repeat (go_big_quiet_step ((first
              | (go_at_call 22; refine Calls.after_of (hSa' _))
              | (go_at_call 14; refine Calls.after_of (hRa' _))
              | (go_at_call 19; refine Calls.after_of (hA _)))))
            refine wpQuiet_nil ?_
            rintro _ ⟨q, rfl⟩
            go_wp2_with fail
            go_ret
            exact ⟨rfl, on HF5.out.bel q.h⟩
          | true =>
            rw [eT]
            have jc0 : v2.cell? ⟨pc, 0, none⟩ = some (.int .i64 ck) := cell_heap HF4.out.c rfl
            have jc1 : v2.cell? ⟨pc, 1, none⟩ = some (.int .i64 c0) := cell_heap HF4.out.c rfl
            have jc2 : v2.cell? ⟨pc, 2, none⟩ = some (.bool c1) := cell_heap HF4.out.c rfl
            have jc3 : v2.cell? ⟨pc, 3, none⟩ = some (.bool c2) := cell_heap HF4.out.c rfl
            have jc4 : v2.cell? ⟨pc, 4, none⟩ = some (.int .i64 c3) := cell_heap HF4.out.c rfl
            have jc5 : v2.cell? ⟨pc, 5, none⟩ = some (.int .i64 c4) := cell_heap HF4.out.c rfl
            have jc6 : v2.cell? ⟨pc, 6, none⟩ = some (.int .i64 c5) := cell_heap HF4.out.c rfl
            have jc7 : v2.cell? ⟨pc, 7, none⟩ = some (.int .i64 c6) := cell_heap HF4.out.c rfl
            have jc8 : v2.cell? ⟨pc, 8, none⟩ = some (.int .i64 c7) := cell_heap HF4.out.c rfl
            have jd0 : v2.cell? ⟨pd, 0, none⟩ = some (.int .i64 dk) := cell_heap HF4.out.d rfl
            have jd1 : v2.cell? ⟨pd, 1, none⟩ = some (.int .i64 d0) := cell_heap HF4.out.d rfl
            have jd2 : v2.cell? ⟨pd, 2, none⟩ = some (.bool d1) := cell_heap HF4.out.d rfl
            have jd3 : v2.cell? ⟨pd, 3, none⟩ = some (.bool d2) := cell_heap HF4.out.d rfl
            have jd4 : v2.cell? ⟨pd, 4, none⟩ = some (.int .i64 d3) := cell_heap HF4.out.d rfl
            have jd5 : v2.cell? ⟨pd, 5, none⟩ = some (.int .i64 d4) := cell_heap HF4.out.d rfl
            have jd6 : v2.cell? ⟨pd, 6, none⟩ = some (.int .i64 d5) := cell_heap HF4.out.d rfl
            have jd7 : v2.cell? ⟨pd, 7, none⟩ = some (.int .i64 d6) := cell_heap HF4.out.d rfl
            have jd8 : v2.cell? ⟨pd, 8, none⟩ = some (.int .i64 d7) := cell_heap HF4.out.d rfl
            have jca0 := After.cell jc0
            have jca1 := After.cell jc1
            have jca2 := After.cell jc2
            have jca3 := After.cell jc3
            have jca4 := After.cell jc4
            have jca5 := After.cell jc5
            have jca6 := After.cell jc6
            have jca7 := After.cell jc7
            have jca8 := After.cell jc8
            have jda0 := After.cell jd0
            have jda1 := After.cell jd1
            have jda2 := After.cell jd2
            have jda3 := After.cell jd3
            have jda4 := After.cell jd4
            have jda5 := After.cell jd5
            have jda6 := After.cell jd6
            have jda7 := After.cell jd7
            have jda8 := After.cell jd8
            have hcv := HTc.out rfl rfl
            have hst := (beq_str (str (wrB Nc)) (str (wrB Nd))).trans hcv
            obtain ⟨x3, e3, rfl, hs3, _⟩ := H3.out.1.sl (wrB_lt _)
            obtain ⟨x4, e4, rfl, hs4, _⟩ := H4.out.1.sl (wrB_lt _)
            have hc3 := fun (q : After v2) => After.conv (hs3.below H4.out.2) q
            have hc4 := fun (q : After v2) => After.conv hs4 q
            have hbn : (tk != tk) = false := by cases tk <;> rfl
            simp only [if_true] at hc3 hc4 ⊢
            generalize str (wrB Nc) = S3 at *
            generalize str (wrB Nd) = S4 at *
            refine wp_region_after (by kernel_rfl) (by kernel_rfl) ?_
            repeat (go_big_quiet_step (fail))
            refine wpQuiet_nil ?_
            rintro _ ⟨q, rfl⟩
            obtain ⟨w5, hb5⟩ := q
            dsimp only
            have HF5 := hid (HF4.out.below hb5)
            have la0 : w5.cell? ⟨w.heap.size, 0, none⟩ = some (.int .i64 ea) := cell_heap HF5.out.a rfl
            have la1 : w5.cell? ⟨w.heap.size, 1, none⟩ = some (.int .i64 a1) := cell_heap HF5.out.a rfl
            have la2 : w5.cell? ⟨w.heap.size, 2, none⟩ = some (.int .i64 a2) := cell_heap HF5.out.a rfl
            have la3 : w5.cell? ⟨w.heap.size, 3, none⟩ = some (.int .i64 a3) := cell_heap HF5.out.a rfl
            have la4 : w5.cell? ⟨w.heap.size, 4, none⟩ = some (.int .i64 a4) := cell_heap HF5.out.a rfl
            have la5 : w5.cell? ⟨w.heap.size, 5, none⟩ = some (.slice x n c) := cell_heap HF5.out.a rfl
            have lb0 : w5.cell? ⟨w.heap.size + 1, 0, none⟩ = some (.int .i64 eb) := cell_heap HF5.out.b rfl
            have lb1 : w5.cell? ⟨w.heap.size + 1, 1, none⟩ = some (.int .i64 b1) := cell_heap HF5.out.b rfl
            have lb2 : w5.cell? ⟨w.heap.size + 1, 2, none⟩ = some (.int .i64 b2) := cell_heap HF5.out.b rfl
            have lb3 : w5.cell? ⟨w.heap.size + 1, 3, none⟩ = some (.int .i64 b3) := cell_heap HF5.out.b rfl
            have lb4 : w5.cell? ⟨w.heap.size + 1, 4, none⟩ = some (.int .i64 b4) := cell_heap HF5.out.b rfl
            have lb5 : w5.cell? ⟨w.heap.size + 1, 5, none⟩ = some (.slice y n' c') := cell_heap HF5.out.b rfl
            go_wp2_with fail
            haveI := After.ne w5
            have laa0 := After.cell la0
            have laa1 := After.cell la1
            have laa2 := After.cell la2
            have laa3 := After.cell la3
            have laa4 := After.cell la4
            have laa5 := After.cell la5
            have lba0 := After.cell lb0
            have lba1 := After.cell lb1
            have lba2 := After.cell lb2
            have lba3 := After.cell lb3
            have lba4 := After.cell lb4
            have lba5 := After.cell lb5
            have hSa' := fun (q : After w5) => hSa q.W (HOa.out.below (on HF5.out.bel q.h)) (HOb.out.below (on HF5.out.bel q.h))
            have hRa' := fun (q : After w5) => hRa q.W (HOa.out.below (on HF5.out.bel q.h)) (HOb.out.below (on HF5.out.bel q.h))
            clear hSa hRa
            refine wp_region_after (by kernel_rfl) (by kernel_rfl) ?_
            repeat (go_big_quiet_step ((first
              | (go_at_call 22; refine Calls.after_of (hSa' _))
              | (go_at_call 14; refine Calls.after_of (hRa' _))
              | (go_at_call 19; refine Calls.after_of (hA _)))))
            refine wpQuiet_nil ?_
            rintro _ ⟨q, rfl⟩
            go_wp2_with fail
            go_ret
            exact ⟨rfl, on HF5.out.bel q.h⟩
  clear hEa hEb hSa hRa hKc hKd hQc HTm HTc hA eT eF
  go_region
  · exact key _ _ _ (FU.one _ _ _ _ _ _)
  · exact key _ _ _ (FU.two _ _ _ _ _ _)

set_option maxRecDepth 100000 in
theorem lifted (os : Os) (started : os.Started) (H : Type) (enc : TypeId × Value → H) :
    ReturnsInHanded {} Try.checked os 8 .any (Rows.atlasUnlikeSpec.pre6 enc Try.prog Try.f8 Rows.atlasUnlikeRow.domain false) (Rows.atlasUnlikeSpec.post enc Try.prog Try.f8 false true false false) := by
  refine returnsInHanded_of_change_sized (C := Try.checked) own started (by kernel_rfl) Try.func8
    (ChangeSpec.witness6 (enc := enc) (C := Try.checked) false ⟨#[], #[.agg #[.int .i64 0, .int .i64 0, .int .i64 0, .int .i64 0, .int .i64 0, .slice none 0 0], .agg #[.int .i64 0, .int .i64 0, .int .i64 0, .int .i64 0, .int .i64 0, .slice none 0 0], .agg #[.int .i64 0, .int .i64 0, .bool false, .bool false, .int .i64 0, .int .i64 0, .int .i64 0, .int .i64 0, .int .i64 0, .int .i64 0, .int .i64 0, .bool false, .bool false, .int .i64 0, .int .i64 0, .int .i64 0, .int .i64 0, .int .i64 0]], []⟩ 8 (by kernel_rfl) (by kernel_rfl) (by kernel_rfl) (by kernel_rfl)) ?_
  intro W base args ds gs before hval0 hW hcnd hsz0 _
  have hsz : (DataW.weightsEach Try.prog (Try.f8.params.toList ++ Rows.atlasUnlikeSpec.plain.varTypes Try.prog) (ds ++ gs)).all (· ≤ reachBytes) = true := hsz0
  have hval : ∀ (j : Nat) t v, Try.f8.params[j]? = some t → args[j]? = some v → Value.okWide Try.prog W .any base t v := hval0
  have hW' := hW
  obtain ⟨p, q, hA0, hV, rfl, hfz, hnd⟩ := hW
  have hA : DataW.TrodAll enc Try.prog W 0 (fun _ => true) true Try.f8.params.toList args.toList ds p := hA0
  rw [Try.params8] at hA hval hsz
  obtain ⟨v0, vs0, d0, ds0, p0, q0, hargs, rfl, rfl, h0, r0⟩ := trodAll_cons hA
  obtain ⟨v1, vs1, d1, ds1, p1, q1, rfl, rfl, rfl, h1, r1⟩ := trodAll_cons r0
  obtain ⟨v2, vs2, d2, ds2, p2, q2, rfl, rfl, rfl, h2, r2⟩ := trodAll_cons r1
  obtain ⟨rfl, rfl, rfl⟩ := trodAll_nil r2
  obtain rfl : args = #[v0, v1, v2] := by cases args; simp_all
  obtain ⟨rfl, rfl⟩ := trodVars_none hV
  have k0 := h0
  have lt0 : ∀ x ∈ p0, x.block < W.heap.size := by obtain ⟨m, hm⟩ := k0; exact DataW.trod_lt m _ _ _ hm
  have s0 : ∀ x ∈ d0.weights Try.prog 26, x ≤ reachBytes := fun x hx => by
    have := List.all_eq_true.1 hsz x (DataW.weights_mem_each (j := 0) rfl rfl x hx)
    simpa using this
  obtain ⟨V0, rfl, w0⟩ := At.map_in (okWide_struct Try.underlying26 (hval 0 26 v0 rfl rfl)) h0 s0
  have k1 := h1
  have lt1 : ∀ x ∈ p1, x.block < W.heap.size := by obtain ⟨m, hm⟩ := k1; exact DataW.trod_lt m _ _ _ hm
  have s1 : ∀ x ∈ d1.weights Try.prog 26, x ≤ reachBytes := fun x hx => by
    have := List.all_eq_true.1 hsz x (DataW.weights_mem_each (j := 1) rfl rfl x hx)
    simpa using this
  obtain ⟨V1, rfl, w1⟩ := At.map_in (okWide_struct Try.underlying26 (hval 1 26 v1 rfl rfl)) h1 s1
  have k2 := h2
  have lt2 : ∀ x ∈ p2, x.block < W.heap.size := by obtain ⟨m, hm⟩ := k2; exact DataW.trod_lt m _ _ _ hm
  have s2 : ∀ x ∈ d2.weights Try.prog 60, x ≤ reachBytes := fun x hx => by
    have := List.all_eq_true.1 hsz x (DataW.weights_mem_each (j := 2) rfl rfl x hx)
    simpa using this
  obtain ⟨V2, U2, rfl⟩ := At.two_in (okWide_array Try.underlying60 (hval 2 60 v2 rfl rfl)) h2
  clear hA0 hval0
  refine (walk V0 V1 V2 U2 W w0 w1).mono fun e W' ⟨he, bel⟩ => ?_
  subst he
  exact ⟨_, rfl, _, _, _, [], _, [], hW', trodAll_mk1 (shut_bool Try.underlying4 _), (trodAll_cons_mk (Below.trod laidOut (by kernel_rfl) (of_decide_eq_true (by kernel_rfl)) k0 bel lt0) (trodAll_cons_mk (Below.trod laidOut (by kernel_rfl) (of_decide_eq_true (by kernel_rfl)) k1 bel lt1) (trodAll_cons_mk (Below.trod laidOut (by kernel_rfl) (of_decide_eq_true (by kernel_rfl)) k2 bel lt2) trodAll_mk0))), rfl, bel.frame _, fun h => by cases h⟩

theorem over : Rows.atlasUnlikeRow.holds Try.pinned (OpenSpec.ofChange Rows.atlasUnlikeSpec) :=
  OpenClaim.holds_of_wide 8 Try.f8 rfl rfl rfl rfl rfl rfl rfl ⟨rfl, rfl, rfl, rfl, rfl⟩ rfl rfl rfl rfl rfl (by kernel_rfl) Try.func8 (by kernel_rfl)
    (of_decide_eq_true (by kernel_rfl)) (by unfold Func.isWrapper; first | (rw [if_pos (by decide +kernel)]; kernel_rfl) | (rw [if_neg (by decide +kernel)]; exact ⟨rfl, rfl⟩))
    (fun os started H enc _ => lifted os started H enc)

theorem proved : Rows.AtlasUnlikeSaid := over
#print axioms proved
end Go.Proofs.Ytnddhlkdemibgaa.atlasUnlike
