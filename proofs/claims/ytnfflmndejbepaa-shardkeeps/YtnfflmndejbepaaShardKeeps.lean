/-
  ShardKeeps: what comes of a holder that may be may be, and its fence never falls.
  Conditions: none.
-/
import Derived.Test.YtnfflmndejbepaaRows
import Derived.WalkKit
import Derived.ProofKit
import Derived.OpenShut
import Derived.SizedLaws
import Derived.ShutString
import Derived.ChangeOld
import Derived.Below
import Derived.JoinedCond
import Derived.Test.YtnfflmndejbepaaJByRows
import Derived.Test.YtnfflmndejbepaaJShWrP
import Derived.ChangeMaps5
import Derived.Test.YtnfflmndejbepaaShKeep
namespace Go.Proofs.Ytnfflmndejbepaa.shardKeeps
open Go.ChangeShapes Go.WideShapes Go.ChangeAt Go.RowKit Go.ChangeMaps By
open Fl Sh
set_option linter.unusedVariables false
set_option linter.unusedSimpArgs false
set_option maxRecDepth 100000

theorem own : ownKnob Try.prog.godebug = none := by kernel_rfl
theorem laidOut : laidOutB Try.prog = true := by kernel_rfl

set_option maxHeartbeats 25600000 in
theorem walk (v : HV) (s : SV) (x : PV) (w : World) (hv : HIn w v) (hs : SIn w (fun _ => True) s) (hx : PAt w (fun _ => True) x) :
    Calls Try.prog 7 #[vH v, vS s, vP x] w fun e w' => e = .returned (.bool true) ∧ Below w.heap.size w w' := by
  obtain ⟨hdz⟩ := dz_some
  haveI := hdz
  obtain ⟨w0, hw0, bb, hsz, g0, g1, g2⟩ := three_boxes w (HCells v) (SCells s) #[.int .i64 x.e.seq, .int .i64 x.e.cl, .int .i64 x.e.ks, .string x.e.nm, .int .i64 x.e.code, .bool x.e.gone, .int .i64 x.e.sz, .int .i64 x.c.sz, .slice x.c.x x.c.n x.c.c, .int .u32 x.c.sum] 29 26 69
  have HV0 := hid (And.intro hv.at_.lt (And.intro hs.1.lt (And.intro hx.1 (CAt.lt hx.2))))
  have HSm := hid (And.intro hv.small hs.small)
  have HB0 := hid bb
  have HSz := hid hsz
  have HG0 := hid g0
  have HG1 := hid g1
  have HG2 := hid g2
  have HA := hid awake_any
  have hM := rmay_any (HV0.out.1.below bb)
  obtain ⟨tK, htK⟩ : ∃ t, t = bz (okH (pH v)) := ⟨_, rfl⟩
  rw [← htK] at hM
  have HT := hid htK
  have HW := hid hw0
  have HRM := hid (fun (W : World) (u : HV) (F : Nat → Prop) (hu : HAt W F u) (ho : okH (pH u)) => (by have := rmay_any hu; rw [bz_true ho] at this; exact this : Calls Try.prog 15 #[vH u] W fun e w' => e = .returned (.bool true) ∧ Below W.heap.size W w'))
  obtain ⟨k0, k1, k2, k3, k4, k5, k6⟩ := hcells g0
  unfold vH at hM HRM ⊢
  unfold vS vP
  unfold HCells SCells at hw0
  clear hv hs hx bb hsz g0 g1 g2 htK
  cases tK with
  | false =>
    go_enter Try.func7, Try.ntmps7
    go_upto_region 1 with (fail)
    rw [← hw0]
    clear hw0
    go_wp2_with (first
      | (go_at_call 15; refine hM.mono ?_; rintro r w1 ⟨rfl, b1⟩; clear hM)
      | (go_at_call 25; refine (HA.out _).mono ?_; rintro r w2 ⟨rfl, b2⟩))
    go_ret
    exact ⟨rfl, on HB0.out (on b1 b2)⟩
  | true =>
    have HOk := hid (bz_of HT.out.symm)
    go_enter Try.func7, Try.ntmps7
    go_upto_region 1 with (fail)
    rw [← hw0]
    clear hw0
    go_upto_region 3 with (go_at_call 15; refine hM.mono ?_; rintro r w1 ⟨rfl, b1⟩; clear hM k0 k1 k2 k3 k4 k5 k6)
    have HB1 := hid b1
    have hg1 := (b1.block _ (lt_heap HG0.out)).trans HG0.out
    have k0 := (hcells hg1).1
    clear b1 hg1
    have HI0 : Hid (∃ v1 : HV, w1.heap[w.heap.size]? = some (.cells (HCells v1) 29 (0, 0)) ∧ HAt w1 (fun q => q ≠ w.heap.size) v1 ∧ okH (pH v1) ∧ v1.fe = v.fe ∧ (0 ≤ 1 → Small (pH v1)) ∧ Turns (fun q => q = w.heap.size) w0 w1) := hid
      ⟨v, (HB1.out.block _ (lt_heap HG0.out)).trans HG0.out, ((HV0.out.1.below HB0.out).below HB1.out).weak (fun q hq => by omega), HOk.out, rfl, fun _ => HSm.out.1, Turns.of_below HB1.out⟩
    go_wp2_with fail
    clear k0
    go_loopw [7, 8] (fun f i wr => ∃ (k : Nat) (fe : Int), k ≤ 5 ∧ i = .int .i64 k ∧ f = .int .i64 fe ∧ Hid (∃ v1 : HV, wr.heap[w.heap.size]? = some (.cells (HCells v1) 29 (0, 0)) ∧ HAt wr (fun q => q ≠ w.heap.size) v1 ∧ okH (pH v1) ∧ v1.fe = fe ∧ (k ≤ 1 → Small (pH v1)) ∧ Turns (fun q => q = w.heap.size) w0 wr)) (fun _ i _ => 5 - (intOf i).toNat)
    case atStart => exact ⟨0, v.fe, by omega, rfl, rfl, HI0.out⟩
    case round =>
      clear HI0
      obtain ⟨k, fe, hk, rfl, rfl, HR⟩ := hrel
      obtain ⟨v1, hg, ha, hok, hfe, hsm, tt⟩ := HR.out
      obtain ⟨k0, k1, k2, k3, k4, k5, k6⟩ := hcells hg
      have gs := (tt.block (w.heap.size + 1) (lt_heap HG1.out) (by omega)).trans HG1.out
      have gp := (tt.block (w.heap.size + 2) (lt_heap HG2.out) (by omega)).trans HG2.out
      obtain ⟨e0, e1, e2, e3, e4⟩ := scells gs
      have p0 : wr.cell? ⟨w.heap.size + 2, 0, none⟩ = some (.int .i64 x.e.seq) := cell_heap gp rfl
      have p1 : wr.cell? ⟨w.heap.size + 2, 1, none⟩ = some (.int .i64 x.e.cl) := cell_heap gp rfl
      have p2 : wr.cell? ⟨w.heap.size + 2, 2, none⟩ = some (.int .i64 x.e.ks) := cell_heap gp rfl
      have p3 : wr.cell? ⟨w.heap.size + 2, 3, none⟩ = some (.string x.e.nm) := cell_heap gp rfl
      have p4 : wr.cell? ⟨w.heap.size + 2, 4, none⟩ = some (.int .i64 x.e.code) := cell_heap gp rfl
      have p5 : wr.cell? ⟨w.heap.size + 2, 5, none⟩ = some (.bool x.e.gone) := cell_heap gp rfl
      have p6 : wr.cell? ⟨w.heap.size + 2, 6, none⟩ = some (.int .i64 x.e.sz) := cell_heap gp rfl
      have p7 : wr.cell? ⟨w.heap.size + 2, 7, none⟩ = some (.int .i64 x.c.sz) := cell_heap gp rfl
      have p8 : wr.cell? ⟨w.heap.size + 2, 8, none⟩ = some (.slice x.c.x x.c.n x.c.c) := cell_heap gp rfl
      have p9 : wr.cell? ⟨w.heap.size + 2, 9, none⟩ = some (.int .u32 x.c.sum) := cell_heap gp rfl
      have HH := hid (And.intro hg (And.intro ha (And.intro hok (And.intro hfe (And.intro hsm tt)))))
      have hbw : Below w.heap.size w wr := HB0.out.trans (tt.below (fun q e => by omega) HB0.out.size)
      have HBw := hid hbw
      have hpn : w.heap.size < wr.heap.size := lt_heap hg
      have HPn := hid hpn
      clear hg ha hok hfe hsm tt gs gp hbw hpn
      by_cases h5 : k < 5
      · have hcs : k = 0 ∨ k = 1 ∨ k = 2 ∨ k = 3 ∨ k = 4 := by omega
        clear h5 hk
        rcases hcs with rfl | rfl | rfl | rfl | rfl
        · have hC := l_stage (B := w.heap.size) HH.out.2.1 (HV0.out.2.1.below HBw.out)
          have HK := hid (keep_stage HH.out.2.2.1 (pS s))
          have HSt := hid (show 0 + 1 ≤ 1 → Small (stageP (pH v1) (pS s)).1 from fun _ => small_stage (HH.out.2.2.2.2.1 (by omega)) HSm.out.2 zH_small)
          generalize stageP (pH v1) (pS s) = PP at *
          unfold vH at hC
          unfold vS at hC
          go_upto_region 17 with (go_at_call 30; refine hC.mono ?_; rintro r wx ⟨u, rfl, H2⟩; unfold vH; have gb := (H2.out.2.2.block _ HPn.out).trans HH.out.1; have b0 := cell_heap (j := 0) gb rfl; have fb0 := fr_heap gb 0; have b1 := cell_heap (j := 1) gb rfl; have fb1 := fr_heap gb 1; have b2 := cell_heap (j := 2) gb rfl; have fb2 := fr_heap gb 2; have b3 := cell_heap (j := 3) gb rfl; have fb3 := fr_heap gb 3; have b4 := cell_heap (j := 4) gb rfl; have fb4 := fr_heap gb 4; have b5 := cell_heap (j := 5) gb rfl; have fb5 := fr_heap gb 5; have b6 := cell_heap (j := 6) gb rfl; have fb6 := fr_heap gb 6; have HGb := hid gb; clear gb hC k0 k1 k2 k3 k4 k5 k6 e0 e1 e2 e3 e4 p0 p1 p2 p3 p4 p5 p6 p7 p8 p9)
          have e7 : (((((((wx).setCell ⟨w.heap.size, 0, none⟩ (.int .i64 u.fe)).setCell ⟨w.heap.size, 1, none⟩ (.int .i64 u.now.pl)).setCell ⟨w.heap.size, 2, none⟩ (.int .i64 u.now.si)).setCell ⟨w.heap.size, 3, none⟩ (.slice u.now.x1 u.now.n1 u.now.c1)).setCell ⟨w.heap.size, 4, none⟩ (.slice u.now.x2 u.now.n2 u.now.c2)).setCell ⟨w.heap.size, 5, none⟩ (.slice u.now.x3 u.now.n3 u.now.c3)).setCell ⟨w.heap.size, 6, none⟩ (.slice u.x u.n u.c) = put7 wx w.heap.size u := rfl
          rw [e7]
          have g5 := put7_box HGb.out rfl u
          have t5 := turns_put7 wx w.heap.size u
          have hq0 := HPn.out
          have hF : ∀ q, (q < w.heap.size ∨ New wr wx q) → q ≠ w.heap.size := fun q hq => by rcases hq with h | h; (omega); (have := h.1; omega)
          have hu : HAt (put7 wx w.heap.size u) (fun q => q ≠ w.heap.size) u := HAt.weak (H2.out.1.keeps (.turns t5 fun q hq e => hF q hq e)) hF
          have tt2 : Turns (fun q => q = w.heap.size) w0 (put7 wx w.heap.size u) := (HH.out.2.2.2.2.2.trans (Turns.of_below H2.out.2.2)).trans t5
          generalize put7 wx w.heap.size u = w3 at *
          have hokU : okH (pH u) := by rw [H2.out.2.1]; exact HK.out.1
          have hfeU : fe ≤ u.fe := by have h1 := HK.out.2; rw [← H2.out.2.1] at h1; have h2 : (pH v1).fe = fe := HH.out.2.2.2.1; have h3 : (pH u).fe = u.fe := rfl; omega
          have hfn : ¬ u.fe < fe := by omega
          have HE := hid (And.intro g5 (And.intro hu (And.intro hokU tt2)))
          have hRM := HRM.out w3 u _ hu hokU
          obtain ⟨k0, k1, k2, k3, k4, k5, k6⟩ := hcells g5
          clear e7 g5 t5 hq0 hF hu tt2 hokU hfeU b0 fb0 b1 fb1 b2 fb2 b3 fb3 b4 fb4 b5 fb5 b6 fb6
          go_wp2_with (go_at_call 15; refine hRM.mono ?_; rintro r w4 ⟨rfl, b4⟩; have HB4 := hid b4; replace k0 := keep b4 k0; clear b4 hRM k1 k2 k3 k4 k5 k6)
          go_roundw
          case rel => exact ⟨0 + 1, u.fe, by omega, by go_num, rfl, u, (HB4.out.block _ (lt_heap HE.out.1)).trans HE.out.1, HE.out.2.1.below HB4.out, HE.out.2.2.1, rfl, fun h => by rw [H2.out.2.1]; exact HSt.out h, HE.out.2.2.2.trans (Turns.of_below HB4.out)⟩
          case measure => simp [intOf]
        · have hC := l_write (B := w.heap.size) s.si x.e x.c HH.out.2.1 HV0.out.2.2.1 (CAt.below HV0.out.2.2.2 HBw.out) (HH.out.2.2.2.2.1 (by omega))
          have HK := hid (keep_write HH.out.2.2.1 s.si x.e (pC x.c))
          have HSt := hid (show 1 + 1 ≤ 1 → Small (writeP (pH v1) s.si x.e (pC x.c)).1 from fun h => by omega)
          generalize writeP (pH v1) s.si x.e (pC x.c) = PP at *
          unfold vH at hC
          unfold vE vC at hC
          go_upto_region 17 with (go_at_call 35; refine hC.mono ?_; rintro r wx ⟨u, rfl, H2⟩; unfold vH; have gb := (H2.out.2.2.block _ HPn.out).trans HH.out.1; have b0 := cell_heap (j := 0) gb rfl; have fb0 := fr_heap gb 0; have b1 := cell_heap (j := 1) gb rfl; have fb1 := fr_heap gb 1; have b2 := cell_heap (j := 2) gb rfl; have fb2 := fr_heap gb 2; have b3 := cell_heap (j := 3) gb rfl; have fb3 := fr_heap gb 3; have b4 := cell_heap (j := 4) gb rfl; have fb4 := fr_heap gb 4; have b5 := cell_heap (j := 5) gb rfl; have fb5 := fr_heap gb 5; have b6 := cell_heap (j := 6) gb rfl; have fb6 := fr_heap gb 6; have HGb := hid gb; clear gb hC k0 k1 k2 k3 k4 k5 k6 e0 e1 e2 e3 e4 p0 p1 p2 p3 p4 p5 p6 p7 p8 p9)
          have e7 : (((((((wx).setCell ⟨w.heap.size, 0, none⟩ (.int .i64 u.fe)).setCell ⟨w.heap.size, 1, none⟩ (.int .i64 u.now.pl)).setCell ⟨w.heap.size, 2, none⟩ (.int .i64 u.now.si)).setCell ⟨w.heap.size, 3, none⟩ (.slice u.now.x1 u.now.n1 u.now.c1)).setCell ⟨w.heap.size, 4, none⟩ (.slice u.now.x2 u.now.n2 u.now.c2)).setCell ⟨w.heap.size, 5, none⟩ (.slice u.now.x3 u.now.n3 u.now.c3)).setCell ⟨w.heap.size, 6, none⟩ (.slice u.x u.n u.c) = put7 wx w.heap.size u := rfl
          rw [e7]
          have g5 := put7_box HGb.out rfl u
          have t5 := turns_put7 wx w.heap.size u
          have hq0 := HPn.out
          have hF : ∀ q, (q < w.heap.size ∨ New wr wx q) → q ≠ w.heap.size := fun q hq => by rcases hq with h | h; (omega); (have := h.1; omega)
          have hu : HAt (put7 wx w.heap.size u) (fun q => q ≠ w.heap.size) u := HAt.weak (H2.out.1.keeps (.turns t5 fun q hq e => hF q hq e)) hF
          have tt2 : Turns (fun q => q = w.heap.size) w0 (put7 wx w.heap.size u) := (HH.out.2.2.2.2.2.trans (Turns.of_below H2.out.2.2)).trans t5
          generalize put7 wx w.heap.size u = w3 at *
          have hokU : okH (pH u) := by rw [H2.out.2.1]; exact HK.out.1
          have hfeU : fe ≤ u.fe := by have h1 := HK.out.2; rw [← H2.out.2.1] at h1; have h2 : (pH v1).fe = fe := HH.out.2.2.2.1; have h3 : (pH u).fe = u.fe := rfl; omega
          have hfn : ¬ u.fe < fe := by omega
          have HE := hid (And.intro g5 (And.intro hu (And.intro hokU tt2)))
          have hRM := HRM.out w3 u _ hu hokU
          obtain ⟨k0, k1, k2, k3, k4, k5, k6⟩ := hcells g5
          clear e7 g5 t5 hq0 hF hu tt2 hokU hfeU b0 fb0 b1 fb1 b2 fb2 b3 fb3 b4 fb4 b5 fb5 b6 fb6
          go_wp2_with (go_at_call 15; refine hRM.mono ?_; rintro r w4 ⟨rfl, b4⟩; have HB4 := hid b4; replace k0 := keep b4 k0; clear b4 hRM k1 k2 k3 k4 k5 k6)
          go_roundw
          case rel => exact ⟨1 + 1, u.fe, by omega, by go_num, rfl, u, (HB4.out.block _ (lt_heap HE.out.1)).trans HE.out.1, HE.out.2.1.below HB4.out, HE.out.2.2.1, rfl, fun h => by rw [H2.out.2.1]; exact HSt.out h, HE.out.2.2.2.trans (Turns.of_below HB4.out)⟩
          case measure => simp [intOf]
        · have hC := l_commit (B := w.heap.size) s.si 1 HH.out.2.1
          have HK := hid (keep_commit HH.out.2.2.1 s.si 1)
          have HSt := hid (show 2 + 1 ≤ 1 → Small (commitP (pH v1) s.si 1).1 from fun h => by omega)
          generalize commitP (pH v1) s.si 1 = PP at *
          unfold vH at hC
          go_upto_region 17 with (go_at_call 37; refine hC.mono ?_; rintro r wx ⟨u, rfl, H2⟩; unfold vH; have gb := (H2.out.2.2.block _ HPn.out).trans HH.out.1; have b0 := cell_heap (j := 0) gb rfl; have fb0 := fr_heap gb 0; have b1 := cell_heap (j := 1) gb rfl; have fb1 := fr_heap gb 1; have b2 := cell_heap (j := 2) gb rfl; have fb2 := fr_heap gb 2; have b3 := cell_heap (j := 3) gb rfl; have fb3 := fr_heap gb 3; have b4 := cell_heap (j := 4) gb rfl; have fb4 := fr_heap gb 4; have b5 := cell_heap (j := 5) gb rfl; have fb5 := fr_heap gb 5; have b6 := cell_heap (j := 6) gb rfl; have fb6 := fr_heap gb 6; have HGb := hid gb; clear gb hC k0 k1 k2 k3 k4 k5 k6 e0 e1 e2 e3 e4 p0 p1 p2 p3 p4 p5 p6 p7 p8 p9)
          have e7 : (((((((wx).setCell ⟨w.heap.size, 0, none⟩ (.int .i64 u.fe)).setCell ⟨w.heap.size, 1, none⟩ (.int .i64 u.now.pl)).setCell ⟨w.heap.size, 2, none⟩ (.int .i64 u.now.si)).setCell ⟨w.heap.size, 3, none⟩ (.slice u.now.x1 u.now.n1 u.now.c1)).setCell ⟨w.heap.size, 4, none⟩ (.slice u.now.x2 u.now.n2 u.now.c2)).setCell ⟨w.heap.size, 5, none⟩ (.slice u.now.x3 u.now.n3 u.now.c3)).setCell ⟨w.heap.size, 6, none⟩ (.slice u.x u.n u.c) = put7 wx w.heap.size u := rfl
          rw [e7]
          have g5 := put7_box HGb.out rfl u
          have t5 := turns_put7 wx w.heap.size u
          have hq0 := HPn.out
          have hF : ∀ q, (q < w.heap.size ∨ New wr wx q) → q ≠ w.heap.size := fun q hq => by rcases hq with h | h; (omega); (have := h.1; omega)
          have hu : HAt (put7 wx w.heap.size u) (fun q => q ≠ w.heap.size) u := HAt.weak (H2.out.1.keeps (.turns t5 fun q hq e => hF q hq e)) hF
          have tt2 : Turns (fun q => q = w.heap.size) w0 (put7 wx w.heap.size u) := (HH.out.2.2.2.2.2.trans (Turns.of_below H2.out.2.2)).trans t5
          generalize put7 wx w.heap.size u = w3 at *
          have hokU : okH (pH u) := by rw [H2.out.2.1]; exact HK.out.1
          have hfeU : fe ≤ u.fe := by have h1 := HK.out.2; rw [← H2.out.2.1] at h1; have h2 : (pH v1).fe = fe := HH.out.2.2.2.1; have h3 : (pH u).fe = u.fe := rfl; omega
          have hfn : ¬ u.fe < fe := by omega
          have HE := hid (And.intro g5 (And.intro hu (And.intro hokU tt2)))
          have hRM := HRM.out w3 u _ hu hokU
          obtain ⟨k0, k1, k2, k3, k4, k5, k6⟩ := hcells g5
          clear e7 g5 t5 hq0 hF hu tt2 hokU hfeU b0 fb0 b1 fb1 b2 fb2 b3 fb3 b4 fb4 b5 fb5 b6 fb6
          go_wp2_with (go_at_call 15; refine hRM.mono ?_; rintro r w4 ⟨rfl, b4⟩; have HB4 := hid b4; replace k0 := keep b4 k0; clear b4 hRM k1 k2 k3 k4 k5 k6)
          go_roundw
          case rel => exact ⟨2 + 1, u.fe, by omega, by go_num, rfl, u, (HB4.out.block _ (lt_heap HE.out.1)).trans HE.out.1, HE.out.2.1.below HB4.out, HE.out.2.2.1, rfl, fun h => by rw [H2.out.2.1]; exact HSt.out h, HE.out.2.2.2.trans (Turns.of_below HB4.out)⟩
          case measure => simp [intOf]
        · have hC := l_ask (B := w.heap.size) x.e.sz HH.out.2.1
          have HK := hid (keep_ask HH.out.2.2.1 x.e.sz)
          have HSt := hid (show 3 + 1 ≤ 1 → Small (askP (pH v1) x.e.sz).1 from fun h => by omega)
          generalize askP (pH v1) x.e.sz = PP at *
          unfold vH at hC
          go_upto_region 17 with (go_at_call 28; refine hC.mono ?_; rintro r wx ⟨u, rfl, H2⟩; unfold vH; have gb := (H2.out.2.2.block _ HPn.out).trans HH.out.1; have b0 := cell_heap (j := 0) gb rfl; have fb0 := fr_heap gb 0; have b1 := cell_heap (j := 1) gb rfl; have fb1 := fr_heap gb 1; have b2 := cell_heap (j := 2) gb rfl; have fb2 := fr_heap gb 2; have b3 := cell_heap (j := 3) gb rfl; have fb3 := fr_heap gb 3; have b4 := cell_heap (j := 4) gb rfl; have fb4 := fr_heap gb 4; have b5 := cell_heap (j := 5) gb rfl; have fb5 := fr_heap gb 5; have b6 := cell_heap (j := 6) gb rfl; have fb6 := fr_heap gb 6; have HGb := hid gb; clear gb hC k0 k1 k2 k3 k4 k5 k6 e0 e1 e2 e3 e4 p0 p1 p2 p3 p4 p5 p6 p7 p8 p9)
          have e7 : (((((((wx).setCell ⟨w.heap.size, 0, none⟩ (.int .i64 u.fe)).setCell ⟨w.heap.size, 1, none⟩ (.int .i64 u.now.pl)).setCell ⟨w.heap.size, 2, none⟩ (.int .i64 u.now.si)).setCell ⟨w.heap.size, 3, none⟩ (.slice u.now.x1 u.now.n1 u.now.c1)).setCell ⟨w.heap.size, 4, none⟩ (.slice u.now.x2 u.now.n2 u.now.c2)).setCell ⟨w.heap.size, 5, none⟩ (.slice u.now.x3 u.now.n3 u.now.c3)).setCell ⟨w.heap.size, 6, none⟩ (.slice u.x u.n u.c) = put7 wx w.heap.size u := rfl
          rw [e7]
          have g5 := put7_box HGb.out rfl u
          have t5 := turns_put7 wx w.heap.size u
          have hq0 := HPn.out
          have hF : ∀ q, (q < w.heap.size ∨ New wr wx q) → q ≠ w.heap.size := fun q hq => by rcases hq with h | h; (omega); (have := h.1; omega)
          have hu : HAt (put7 wx w.heap.size u) (fun q => q ≠ w.heap.size) u := HAt.weak (H2.out.1.keeps (.turns t5 fun q hq e => hF q hq e)) hF
          have tt2 : Turns (fun q => q = w.heap.size) w0 (put7 wx w.heap.size u) := (HH.out.2.2.2.2.2.trans (Turns.of_below H2.out.2.2)).trans t5
          generalize put7 wx w.heap.size u = w3 at *
          have hokU : okH (pH u) := by rw [H2.out.2.1]; exact HK.out.1
          have hfeU : fe ≤ u.fe := by have h1 := HK.out.2; rw [← H2.out.2.1] at h1; have h2 : (pH v1).fe = fe := HH.out.2.2.2.1; have h3 : (pH u).fe = u.fe := rfl; omega
          have hfn : ¬ u.fe < fe := by omega
          have HE := hid (And.intro g5 (And.intro hu (And.intro hokU tt2)))
          have hRM := HRM.out w3 u _ hu hokU
          obtain ⟨k0, k1, k2, k3, k4, k5, k6⟩ := hcells g5
          clear e7 g5 t5 hq0 hF hu tt2 hokU hfeU b0 fb0 b1 fb1 b2 fb2 b3 fb3 b4 fb4 b5 fb5 b6 fb6
          go_wp2_with (go_at_call 15; refine hRM.mono ?_; rintro r w4 ⟨rfl, b4⟩; have HB4 := hid b4; replace k0 := keep b4 k0; clear b4 hRM k1 k2 k3 k4 k5 k6)
          go_roundw
          case rel => exact ⟨3 + 1, u.fe, by omega, by go_num, rfl, u, (HB4.out.block _ (lt_heap HE.out.1)).trans HE.out.1, HE.out.2.1.below HB4.out, HE.out.2.2.1, rfl, fun h => by rw [H2.out.2.1]; exact HSt.out h, HE.out.2.2.2.trans (Turns.of_below HB4.out)⟩
          case measure => simp [intOf]
        · have hC := l_act (B := w.heap.size) v1.fe HH.out.2.1
          have HK := hid (keep_act HH.out.2.2.1 v1.fe)
          have HSt := hid (show 4 + 1 ≤ 1 → Small (actP (pH v1) v1.fe).1 from fun h => by omega)
          generalize actP (pH v1) v1.fe = PP at *
          unfold vH at hC
          go_upto_region 17 with (go_at_call 33; refine hC.mono ?_; rintro r wx ⟨u, rfl, H2⟩; unfold vH; have gb := (H2.out.2.2.block _ HPn.out).trans HH.out.1; have b0 := cell_heap (j := 0) gb rfl; have fb0 := fr_heap gb 0; have b1 := cell_heap (j := 1) gb rfl; have fb1 := fr_heap gb 1; have b2 := cell_heap (j := 2) gb rfl; have fb2 := fr_heap gb 2; have b3 := cell_heap (j := 3) gb rfl; have fb3 := fr_heap gb 3; have b4 := cell_heap (j := 4) gb rfl; have fb4 := fr_heap gb 4; have b5 := cell_heap (j := 5) gb rfl; have fb5 := fr_heap gb 5; have b6 := cell_heap (j := 6) gb rfl; have fb6 := fr_heap gb 6; have HGb := hid gb; clear gb hC k0 k1 k2 k3 k4 k5 k6 e0 e1 e2 e3 e4 p0 p1 p2 p3 p4 p5 p6 p7 p8 p9)
          have e7 : (((((((wx).setCell ⟨w.heap.size, 0, none⟩ (.int .i64 u.fe)).setCell ⟨w.heap.size, 1, none⟩ (.int .i64 u.now.pl)).setCell ⟨w.heap.size, 2, none⟩ (.int .i64 u.now.si)).setCell ⟨w.heap.size, 3, none⟩ (.slice u.now.x1 u.now.n1 u.now.c1)).setCell ⟨w.heap.size, 4, none⟩ (.slice u.now.x2 u.now.n2 u.now.c2)).setCell ⟨w.heap.size, 5, none⟩ (.slice u.now.x3 u.now.n3 u.now.c3)).setCell ⟨w.heap.size, 6, none⟩ (.slice u.x u.n u.c) = put7 wx w.heap.size u := rfl
          rw [e7]
          have g5 := put7_box HGb.out rfl u
          have t5 := turns_put7 wx w.heap.size u
          have hq0 := HPn.out
          have hF : ∀ q, (q < w.heap.size ∨ New wr wx q) → q ≠ w.heap.size := fun q hq => by rcases hq with h | h; (omega); (have := h.1; omega)
          have hu : HAt (put7 wx w.heap.size u) (fun q => q ≠ w.heap.size) u := HAt.weak (H2.out.1.keeps (.turns t5 fun q hq e => hF q hq e)) hF
          have tt2 : Turns (fun q => q = w.heap.size) w0 (put7 wx w.heap.size u) := (HH.out.2.2.2.2.2.trans (Turns.of_below H2.out.2.2)).trans t5
          generalize put7 wx w.heap.size u = w3 at *
          have hokU : okH (pH u) := by rw [H2.out.2.1]; exact HK.out.1
          have hfeU : fe ≤ u.fe := by have h1 := HK.out.2; rw [← H2.out.2.1] at h1; have h2 : (pH v1).fe = fe := HH.out.2.2.2.1; have h3 : (pH u).fe = u.fe := rfl; omega
          have hfn : ¬ u.fe < fe := by omega
          have HE := hid (And.intro g5 (And.intro hu (And.intro hokU tt2)))
          have hRM := HRM.out w3 u _ hu hokU
          obtain ⟨k0, k1, k2, k3, k4, k5, k6⟩ := hcells g5
          clear e7 g5 t5 hq0 hF hu tt2 hokU hfeU b0 fb0 b1 fb1 b2 fb2 b3 fb3 b4 fb4 b5 fb5 b6 fb6
          go_wp2_with (go_at_call 15; refine hRM.mono ?_; rintro r w4 ⟨rfl, b4⟩; have HB4 := hid b4; replace k0 := keep b4 k0; clear b4 hRM k1 k2 k3 k4 k5 k6)
          go_roundw
          case rel => exact ⟨4 + 1, u.fe, by omega, by go_num, rfl, u, (HB4.out.block _ (lt_heap HE.out.1)).trans HE.out.1, HE.out.2.1.below HB4.out, HE.out.2.2.1, rfl, fun h => by rw [H2.out.2.1]; exact HSt.out h, HE.out.2.2.2.trans (Turns.of_below HB4.out)⟩
          case measure => simp [intOf]
      · have hk5 : k = 5 := by omega
        subst hk5
        clear k0 k1 k2 k3 k4 k5 k6 e0 e1 e2 e3 e4 p0 p1 p2 p3 p4 p5 p6 p7 p8 p9
        go_wp2_with (go_at_call 25; refine (HA.out _).mono ?_; rintro r w2 ⟨rfl, b2⟩)
        go_ret
        exact ⟨rfl, on HBw.out b2⟩

set_option maxRecDepth 100000 in
theorem lifted (os : Os) (started : os.Started) (H : Type) (enc : TypeId × Value → H) (F : Stop.Interp) :
    ReturnsInHanded {} Try.checked os 7 .any ((Rows.OpenSpec.upto Rows.shardKeepsSpec).pre6 enc Try.prog Try.f7 Rows.shardKeepsUptoRow.domain false) (((Rows.OpenSpec.upto Rows.shardKeepsSpec).at F).post enc Try.prog Try.f7 false true false false) := by
  refine returnsInHanded_of_cond (C := Try.checked) (s := Rows.OpenSpec.upto Rows.shardKeepsSpec) (k := Rows.uptoSmall) rfl own started (by kernel_rfl) Try.func7
    (OpenSpec.witness (enc := enc) (C := Try.checked) (s := Rows.OpenSpec.upto Rows.shardKeepsSpec) (k := Rows.uptoSmall) rfl false ⟨#[], #[.agg #[.int .i64 0, .int .i64 0, .int .i64 0, .slice none 0 0, .slice none 0 0, .slice none 0 0, .slice none 0 0], .agg #[.int .i64 0, .int .i64 0, .slice none 0 0, .slice none 0 0, .slice none 0 0], .agg #[.int .i64 0, .int .i64 0, .int .i64 0, .string ⟨#[]⟩, .int .i64 0, .bool false, .int .i64 0, .int .i64 0, .slice none 0 0, .int .u32 0]], []⟩ 8 (by kernel_rfl) (by kernel_rfl) (by kernel_rfl)
      (x := ([.agg [.lit (.int .i64 0), .agg [.lit (.int .i64 0), .lit (.int .i64 0), .nil, .nil, .nil], .nil], .agg [.lit (.int .i64 0), .lit (.int .i64 0), .nil, .nil, .nil], .agg [.agg [.lit (.int .i64 0), .agg [.lit (.int .i64 0), .lit (.int .i64 0)], .lit (.string []), .lit (.int .i64 0), .lit (.bool false), .lit (.int .i64 0)], .agg [.lit (.int .i64 0), .nil, .lit (.int .u32 0)]]], [], [])) (by kernel_rfl) rfl (by kernel_rfl)) ?_
  intro W base args ds gs before hval0 hW _ hk0 _
  have hk : Rows.uptoBulkAll (ds ++ gs) ≤ 1048576 := of_decide_eq_true hk0
  have hval : ∀ (j : Nat) t v, Try.f7.params[j]? = some t → args[j]? = some v → Value.okWide Try.prog W .any base t v := hval0
  have hW' := hW
  obtain ⟨p, q, hA0, hV, rfl, hfz, hnd⟩ := hW
  have hA : DataW.TrodAll enc Try.prog W 0 (fun _ => true) true Try.f7.params.toList args.toList ds p := hA0
  rw [Try.params7] at hA hval
  obtain ⟨v0, vs0, d0, ds0, p0, q0, hargs, rfl, rfl, h0, r0⟩ := trodAll_cons hA
  obtain ⟨v1, vs1, d1, ds1, p1, q1, rfl, rfl, rfl, h1, r1⟩ := trodAll_cons r0
  obtain ⟨v2, vs2, d2, ds2, p2, q2, rfl, rfl, rfl, h2, r2⟩ := trodAll_cons r1
  obtain ⟨rfl, rfl, rfl⟩ := trodAll_nil r2
  obtain rfl : args = #[v0, v1, v2] := by cases args; simp_all
  obtain ⟨rfl, rfl⟩ := trodVars_none hV
  simp only [List.append_nil, Rows.uptoBulkAll] at hk
  have k0 := h0
  have lt0 : ∀ x ∈ p0, x.block < W.heap.size := by obtain ⟨m, hm⟩ := k0; exact DataW.trod_lt m _ _ _ hm
  have s0 : Rows.uptoBulk d0 ≤ 1048576 := by omega
  obtain ⟨V0, rfl, w0⟩ := Sh.holder_arg (okWide_struct Try.underlying29 (hval 0 29 v0 rfl rfl)) h0 s0
  have k1 := h1
  have lt1 : ∀ x ∈ p1, x.block < W.heap.size := by obtain ⟨m, hm⟩ := k1; exact DataW.trod_lt m _ _ _ hm
  have s1 : Rows.uptoBulk d1 ≤ 1048576 := by omega
  obtain ⟨V1, rfl, w1⟩ := Sh.shard_arg (okWide_struct Try.underlying26 (hval 1 26 v1 rfl rfl)) h1 s1
  have k2 := h2
  have lt2 : ∀ x ∈ p2, x.block < W.heap.size := by obtain ⟨m, hm⟩ := k2; exact DataW.trod_lt m _ _ _ hm
  have s2 : Rows.uptoBulk d2 ≤ 1048576 := by omega
  obtain ⟨V2, rfl, w2⟩ := Sh.put_arg (okWide_struct Try.underlying69 (hval 2 69 v2 rfl rfl)) h2 s2
  clear hA0 hval0
  refine (walk V0 V1 V2 W w0 w1 w2).mono fun e W' ⟨he, bel⟩ => ?_
  subst he
  exact ⟨_, rfl, _, _, _, [], _, [], hW', trodAll_mk1 (shut_bool Try.underlying4 _), (trodAll_cons_mk (Below.trod laidOut (by kernel_rfl) (of_decide_eq_true (by kernel_rfl)) k0 bel lt0) (trodAll_cons_mk (Below.trod laidOut (by kernel_rfl) (of_decide_eq_true (by kernel_rfl)) k1 bel lt1) (trodAll_cons_mk (Below.trod laidOut (by kernel_rfl) (of_decide_eq_true (by kernel_rfl)) k2 bel lt2) trodAll_mk0))), rfl, bel.frame _, fun h => by cases h⟩

theorem over : Rows.shardKeepsUptoRow.holds Try.pinned (Rows.OpenSpec.upto Rows.shardKeepsSpec) :=
  OpenClaim.holds_of_cond 7 Try.f7 rfl rfl rfl rfl rfl rfl rfl ⟨rfl, rfl, rfl, rfl, rfl⟩ rfl rfl rfl rfl rfl (by kernel_rfl) Try.func7 (by kernel_rfl)
    (of_decide_eq_true (by kernel_rfl)) (by unfold Func.isWrapper; first | (rw [if_pos (by decide +kernel)]; kernel_rfl) | (rw [if_neg (by decide +kernel)]; exact ⟨rfl, rfl⟩))
    (fun os started H enc _ F => lifted os started H enc F)

theorem proved : Rows.ShardKeepsUptoSaid := over
#print axioms proved
end Go.Proofs.Ytnfflmndejbepaa.shardKeeps
