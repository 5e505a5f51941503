/-
  ShardUndoes: the theorem of rollback: entries done and taken back leave the shard that was.
  Conditions: none.
-/
import Derived.Test.YtnfflmndejbepaaJMxOrders
import Derived.Test.YtnfflmndejbepaaRows
import Derived.WalkKit
import Derived.ProofKit
import Derived.OpenShut
import Derived.SizedLaws
import Derived.ShutString
import Derived.ChangeOld
import Derived.Below
import Derived.JoinedCond
import Derived.Test.YtnfflmndejbepaaJByRows
import Derived.Test.YtnfflmndejbepaaJShWrP
import Derived.ChangeMaps5
import Derived.Test.YtnfflmndejbepaaJShKeep
import Derived.Deep.DeepCutAuto
namespace Go.Proofs.Ytnfflmndejbepaa.shardUndoes
open Go.ChangeShapes Go.WideShapes Go.ChangeAt Go.RowKit Go.ChangeMaps By
open Fl Sh
set_option linter.unusedVariables false
set_option linter.unusedSimpArgs false
set_option maxRecDepth 100000

theorem own : ownKnob Try.prog.godebug = none := by kernel_rfl
theorem laidOut : laidOutB Try.prog = true := by kernel_rfl

set_option maxHeartbeats 25600000 in
theorem walk (v : HV) (x : Option Addr) (n c : Nat) (L : List PV) (w : World) (hv : HIn w v) (hl : Lis enP 10 PAt w (fun _ => True) x n c L) (hm : n ≤ 1048576) :
    Calls Try.prog 8 #[vH v, .slice x n c] w fun e w' => e = .returned (.bool true) ∧ Below w.heap.size w w' := by
  obtain ⟨hdz⟩ := dz_some
  haveI := hdz
  obtain ⟨w0, hw0⟩ : ∃ w0, w0 = w.alloc (.cells (HCells v) 29) := ⟨_, rfl⟩
  have b0 : Below w.heap.size w w0 := by rw [hw0]; exact al _ _
  have g0 : w0.heap[w.heap.size]? = some (.cells (HCells v) 29 (0, 0)) := by rw [hw0]; exact heap_alloc_new _ _
  have HV0 := hid hv.at_.lt
  have HSm := hid (And.intro hv.small hv.tiny)
  have HL := hid hl
  have HB0 := hid b0
  have HG0 := hid g0
  have HA := hid awake_any
  have hM := rmay_any (hv.at_.below b0)
  obtain ⟨tK, htK⟩ : ∃ t, t = bz (okH (pH v)) := ⟨_, rfl⟩
  rw [← htK] at hM
  have HT := hid htK
  obtain ⟨p, hp⟩ : ∃ p, p = w.heap.size := ⟨_, rfl⟩
  have HP := hid hp
  obtain ⟨k0, k1, k2, k3, k4, k5, k6⟩ := hcells g0
  unfold vH at hM ⊢
  unfold HCells at hw0
  clear hv hl htK g0 b0
  by_cases hgo : tK = true ∧ v.now.si ≠ 0 ∧ v.fe = v.now.si
  rotate_left
  · cases tK with
    | false =>
      go_enter Try.func8, Try.ntmps8
      go_upto_region 1 with (fail)
      rw [← hw0]
      clear hw0
      go_wp2_with (first
        | (go_at_call 15; refine hM.mono ?_; rintro r w1 ⟨rfl, b1⟩; clear hM k0 k1 k2 k3 k4 k5 k6)
        | (go_at_call 25; refine (HA.out _).mono ?_; rintro r w2 ⟨rfl, b2⟩))
      go_ret
      exact ⟨rfl, on HB0.out (on b1 b2)⟩
    | true =>
      by_cases hsi : v.now.si = 0
      · have hsb : (v.now.si == 0) = true := by simp [hsi]
        clear hsi hgo
        go_enter Try.func8, Try.ntmps8
        go_upto_region 1 with (fail)
        rw [← hw0]
        clear hw0
        go_wp2_with (first
          | (go_at_call 15; refine hM.mono ?_; rintro r w1 ⟨rfl, b1⟩; clear hM; replace k2 := keep b1 k2)
          | (go_at_call 25; refine (HA.out _).mono ?_; rintro r w2 ⟨rfl, b2⟩))
        go_ret
        exact ⟨rfl, on HB0.out (on b1 b2)⟩
      · have hsb : (v.now.si == 0) = false := by simp [hsi]
        have hfb : (v.fe != v.now.si) = true := by simp; exact fun h => hgo ⟨rfl, hsi, h⟩
        clear hsi hgo
        go_enter Try.func8, Try.ntmps8
        go_upto_region 1 with (fail)
        rw [← hw0]
        clear hw0
        go_wp2_with (first
          | (go_at_call 15; refine hM.mono ?_; rintro r w1 ⟨rfl, b1⟩; clear hM; replace k2 := keep b1 k2; replace k0 := keep b1 k0)
          | (go_at_call 25; refine (HA.out _).mono ?_; rintro r w2 ⟨rfl, b2⟩))
        go_ret
        exact ⟨rfl, on HB0.out (on b1 b2)⟩
  obtain ⟨rfl, hsi, hfe⟩ := hgo
  have hsb : (v.now.si == 0) = false := by simp [hsi]
  have hfb : (v.fe != v.now.si) = false := by simp [hfe]
  have HOk := hid (And.intro (bz_of HT.out.symm) (And.intro hsi hfe))
  have hok := HOk.out
  have HRise := hid (okS_rise hok.1.2.1)
  clear hok
  have hi0 : UInv (pS v.now) (v.N.map pS) 0 (pH v) := UInv.start (H := pH v) HOk.out.1 hfe
  have HI0 := hid hi0
  clear hsi hfe hi0
  go_enter Try.func8, Try.ntmps8
  go_upto_region 1 with (fail)
  rw [← hw0]
  clear hw0
  go_upto_region 3 with (go_at_call 15; refine hM.mono ?_; rintro r w1 ⟨rfl, b1⟩; clear hM k0 k1 k2 k3 k4 k5 k6; have g1 := (b1.block _ (lt_heap HG0.out)).trans HG0.out; obtain ⟨k0, k1, k2, k3, k4, k5, k6⟩ := hcells g1; have HB1 := hid b1; have HG1 := hid g1; clear b1 g1)
  go_upto_region 4 with (fail)
  obtain ⟨w2, hw2⟩ : ∃ w2, w2 = w1.alloc (.cells #[.int .i64 v.now.pl, .int .i64 v.now.si, .slice v.now.x1 v.now.n1 v.now.c1, .slice v.now.x2 v.now.n2 v.now.c2, .slice v.now.x3 v.now.n3 v.now.c3] 26) := ⟨_, rfl⟩
  have b2 : Below w1.heap.size w1 w2 := by rw [hw2]; exact al _ _
  have g2 : w2.heap[w1.heap.size]? = some (.cells (SCells v.now) 26 (0, 0)) := by rw [hw2]; exact heap_alloc_new _ _
  obtain ⟨pw, hpw⟩ : ∃ pw, pw = w1.heap.size := ⟨_, rfl⟩
  rw [← hw2, ← hp, ← hpw]
  rw [← hpw] at g2
  have HB2 := hid (on HB1.out b2)
  have HG2 := hid g2
  have HGp := hid ((b2.block _ (lt_heap HG1.out)).trans HG1.out)
  have HPw := hid (show p ≠ pw ∧ w.heap.size ≤ p ∧ p < w2.heap.size by
    have h1 := lt_heap HG1.out
    have h2 := b2.size
    exact ⟨by omega, by omega, by omega⟩)
  rw [← hp] at HGp
  clear hw2 b2 g2 hpw k0 k1 k2 k3 k4 k5 k6 hp HG0 HG1
  go_wp2_with fail
  go_loopw [6] (fun i wr => ∃ k : Nat, k ≤ n ∧ k ≤ 50 ∧ i = .int .i64 k ∧ Hid (∃ (v1 : HV) (m : Nat), wr.heap[p]? = some (.cells (HCells v1) 29 (0, 0)) ∧ HAt wr (fun q => q ≠ p) v1 ∧ UInv (pS v.now) (v.N.map pS) m (pH v1) ∧ m ≤ k ∧ Turns (fun q => q = p) w2 wr)) (fun i _ => n - (intOf i).toNat)
  case atStart => exact ⟨0, Nat.zero_le _, Nat.zero_le _, rfl, v, 0, HGp.out, (HV0.out.below (on HB0.out HB2.out)).weak (fun q hq => by have := HPw.out.2.1; omega), HI0.out, Nat.le_refl _, Turns.refl _ _⟩
  case round =>
    obtain ⟨k, hk, hk50, rfl, HR⟩ := hrel
    obtain ⟨v1, m, hg, ha, hi, hmk, tt⟩ := HR.out
    have hbw : Below w.heap.size w wr := (on HB0.out HB2.out).trans (tt.below (fun q e => by have := HPw.out.2.1; omega) (on HB0.out HB2.out).size)
    have HBw := hid hbw
    have HH := hid (And.intro hg (And.intro ha (And.intro hi (And.intro hmk tt))))
    have gw := (tt.block pw (lt_heap HG2.out) (fun e => HPw.out.1 e.symm)).trans HG2.out
    have HGw := hid gw
    by_cases hin : k < n ∧ k < 50
    · obtain ⟨hlt, hl50⟩ := hin
      have hkn : (k : Int) < (n : Int) := by omega
      have hk5 : (k : Int) < 50 := by omega
      obtain ⟨y, hLy, hmy⟩ := Lis.some HL.out hlt
      rcases HL.out.row with h0 | ⟨b, o, rfl, hbl, _, hcell⟩
      · omega
      have HY := hid (HL.out.each y hmy)
      have HC : Hid (∀ W, Below w.heap.size w W → W.cell? ⟨b, o + k * 10, none⟩ = some (.int .i64 y.e.seq) ∧ W.cell? ⟨b, o + k * 10 + 1, none⟩ = some (.int .i64 y.e.cl) ∧ W.cell? ⟨b, o + k * 10 + 2, none⟩ = some (.int .i64 y.e.ks) ∧ W.cell? ⟨b, o + k * 10 + 3, none⟩ = some (.string y.e.nm) ∧ W.cell? ⟨b, o + k * 10 + 4, none⟩ = some (.int .i64 y.e.code) ∧ W.cell? ⟨b, o + k * 10 + 5, none⟩ = some (.bool y.e.gone) ∧ W.cell? ⟨b, o + k * 10 + 6, none⟩ = some (.int .i64 y.e.sz) ∧ W.cell? ⟨b, o + k * 10 + 7, none⟩ = some (.int .i64 y.c.sz) ∧ W.cell? ⟨b, o + k * 10 + 8, none⟩ = some (.slice y.c.x y.c.n y.c.c) ∧ W.cell? ⟨b, o + k * 10 + 9, none⟩ = some (.int .u32 y.c.sum)) := hid fun W hW => ⟨keep hW (hcell k y hLy 0 _ rfl), keep hW (hcell k y hLy 1 _ rfl), keep hW (hcell k y hLy 2 _ rfl), keep hW (hcell k y hLy 3 _ rfl), keep hW (hcell k y hLy 4 _ rfl), keep hW (hcell k y hLy 5 _ rfl), keep hW (hcell k y hLy 6 _ rfl), keep hW (hcell k y hLy 7 _ rfl), keep hW (hcell k y hLy 8 _ rfl), keep hW (hcell k y hLy 9 _ rfl)⟩
      obtain ⟨r0, r1, r2, r3, r4, r5, r6, r7, r8, r9⟩ := HC.out wr hbw
      clear hcell hLy hmy hbl hg ha hi hmk tt hbw gw
      go_upto_region 8 with (fail)
      obtain ⟨w3, hw3⟩ : ∃ w3, w3 = wr.alloc (.cells #[.int .i64 y.e.seq, .int .i64 y.e.cl, .int .i64 y.e.ks, .string y.e.nm, .int .i64 y.e.code, .bool y.e.gone, .int .i64 y.e.sz] 67) := ⟨_, rfl⟩
      have b3 : Below wr.heap.size wr w3 := by rw [hw3]; exact al _ _
      have g3 : w3.heap[wr.heap.size]? = some (.cells #[.int .i64 y.e.seq, .int .i64 y.e.cl, .int .i64 y.e.ks, .string y.e.nm, .int .i64 y.e.code, .bool y.e.gone, .int .i64 y.e.sz] 67 (0, 0)) := by rw [hw3]; exact heap_alloc_new _ _
      obtain ⟨ge, hge⟩ : ∃ ge, ge = wr.heap.size := ⟨_, rfl⟩
      rw [← hw3, ← hge]
      rw [← hge] at g3
      have HB3 := hid b3
      have HG3 := hid g3
      obtain ⟨k0, k1, k2, k3, k4, k5, k6⟩ := hcells ((b3.block p (lt_heap HH.out.1)).trans HH.out.1)
      obtain ⟨N, hN⟩ : ∃ N, N = v1.now.n2 := ⟨_, rfl⟩
      have hNl : (pH v1).now.log.length = N := by rw [hN]; exact HH.out.2.1.s.e.len
      have hNs : N ≤ 100000000 := by rw [hN]; exact HH.out.2.1.s.e.small
      obtain ⟨q, hq⟩ : ∃ q : Nat, q = N + 1 := ⟨_, rfl⟩
      have hwq : IntKind.i64.wrap ((N : Int) + 1) = (q : Int) := by rw [IntKind.wrap_i64]; omega
      have HQ := hid (And.intro hq (And.intro hNl hN))
      have hHd := head_any v1.now w3
      unfold vS at hHd
      rw [← hN] at hHd k4
      have HGE := hid hge
      clear hge hw3 b3 g3 r0 r1 r2 r3 r4 r5 r6 r7 r8 r9 hN hNl hq
      go_upto_region 9 with (go_at_call 23; refine hHd.mono ?_; rintro r w4 ⟨rfl, b4⟩; have g4 := (b4.block _ (lt_heap HG3.out)).trans HG3.out; have s0 := cell_heap (j := 0) g4 rfl; have f0 := fr_heap g4 0; have HG4 := hid g4; have HB4 := hid b4; clear hHd g4 b4 k0 k1 k2 k3 k4 k5 k6)
      have g5 : (w4.setCell ⟨ge, 0, none⟩ (.int .i64 (q : Int))).heap[ge]? = some (.cells #[.int .i64 q, .int .i64 y.e.cl, .int .i64 y.e.ks, .string y.e.nm, .int .i64 y.e.code, .bool y.e.gone, .int .i64 y.e.sz] 67 (0, 0)) := (heap_set HG4.out _).trans rfl
      have t5 := turns_put (j := 0) (Turns.refl (fun z => z = ge) w4) (.int .i64 (q : Int))
      have b35 : Below wr.heap.size wr (w4.setCell ⟨ge, 0, none⟩ (.int .i64 (q : Int))) := (on HB3.out HB4.out).trans (t5.below (fun z e => by have := HGE.out; omega) (on HB3.out HB4.out).size)
      generalize w4.setCell ⟨ge, 0, none⟩ (.int .i64 (q : Int)) = w5 at *
      have HG5 := hid g5
      have HB5 := hid b35
      obtain ⟨e', he'⟩ : ∃ e' : Ent, e' = ⟨(q : Int), y.e.cl, y.e.ks, y.e.nm, y.e.code, y.e.gone, y.e.sz⟩ := ⟨_, rfl⟩
      have HE := hid he'
      have hsmall : Small (pH v1) := HH.out.2.2.1.small (by have := HH.out.2.2.2.1; omega) (by show (v.now.I.map pI).length ≤ _; rw [List.length_map]; exact HSm.out.2.1) HSm.out.2.2.1 (by show (v.now.U.map pU).length ≤ _; rw [List.length_map]; exact HSm.out.2.2.2) (fun t ht => HSm.out.1 t (List.mem_cons_of_mem _ ht))
      have HWr := hid (fun W (hW : Below w5.heap.size w5 W) => l_write (B := w.heap.size) v1.now.si e' y.c (HH.out.2.1.below (on b35 hW)) (by rw [he']; exact HY.out.1) (CAt.below HY.out.2 (on HBw.out (on b35 hW))) hsmall)
      have hstep : (writeP (pH v1) v1.now.si e' (pC y.c)).2 = 0 → UInv (pS v.now) (v.N.map pS) (m + 1) (writeP (pH v1) v1.now.si e' (pC y.c)).1 := fun hz => UInv.step HH.out.2.2.1 HOk.out.2.1 (by rw [he', HQ.out.2.1, HQ.out.1]; simp) hz
      have HStep := hid hstep
      generalize writeP (pH v1) v1.now.si e' (pC y.c) = PP at *
      subst he'
      unfold vH vE vC at HWr
      dsimp only at HWr
      have HK9 : Hid (∀ W, Below w5.heap.size w5 W → W.cell? ⟨p, 0, none⟩ = some (.int .i64 v1.fe) ∧ W.cell? ⟨p, 1, none⟩ = some (.int .i64 v1.now.pl) ∧ W.cell? ⟨p, 2, none⟩ = some (.int .i64 v1.now.si) ∧ W.cell? ⟨p, 3, none⟩ = some (.slice v1.now.x1 v1.now.n1 v1.now.c1) ∧ W.cell? ⟨p, 4, none⟩ = some (.slice v1.now.x2 v1.now.n2 v1.now.c2) ∧ W.cell? ⟨p, 5, none⟩ = some (.slice v1.now.x3 v1.now.n3 v1.now.c3) ∧ W.cell? ⟨p, 6, none⟩ = some (.slice v1.x v1.n v1.c) ∧ W.cell? ⟨ge, 0, none⟩ = some (.int .i64 q) ∧ W.cell? ⟨ge, 1, none⟩ = some (.int .i64 y.e.cl) ∧ W.cell? ⟨ge, 2, none⟩ = some (.int .i64 y.e.ks) ∧ W.cell? ⟨ge, 3, none⟩ = some (.string y.e.nm) ∧ W.cell? ⟨ge, 4, none⟩ = some (.int .i64 y.e.code) ∧ W.cell? ⟨ge, 5, none⟩ = some (.bool y.e.gone) ∧ W.cell? ⟨ge, 6, none⟩ = some (.int .i64 y.e.sz) ∧ W.cell? ⟨b, o + k * 10 + 7, none⟩ = some (.int .i64 y.c.sz) ∧ W.cell? ⟨b, o + k * 10 + 8, none⟩ = some (.slice y.c.x y.c.n y.c.c) ∧ W.cell? ⟨b, o + k * 10 + 9, none⟩ = some (.int .u32 y.c.sum)) := hid fun W hW => by
        have h1 := hcells (((on b35 hW).block p (lt_heap HH.out.1)).trans HH.out.1)
        have h2 := HC.out W (on HBw.out (on b35 hW))
        exact ⟨h1.1, h1.2.1, h1.2.2.1, h1.2.2.2.1, h1.2.2.2.2.1, h1.2.2.2.2.2.1, h1.2.2.2.2.2.2, keep hW (cell_heap HG5.out rfl), keep hW (cell_heap HG5.out rfl), keep hW (cell_heap HG5.out rfl), keep hW (cell_heap HG5.out rfl), keep hW (cell_heap HG5.out rfl), keep hW (cell_heap HG5.out rfl), keep hW (cell_heap HG5.out rfl), h2.2.2.2.2.2.2.2.1, h2.2.2.2.2.2.2.2.2.1, h2.2.2.2.2.2.2.2.2.2⟩
      clear hsmall hstep g5 t5 b35 s0 f0
      go_cut [8, 9] (fun s8 s9 wc => ∃ (gb : Nat) (u : HV), s8 = .pointer (some ⟨gb, 0, none⟩) ∧ s9 = .int .i64 PP.2 ∧ Hid (wc.heap[gb]? = some (.cells (HCells u) 29 (0, 0)) ∧ HAt wc (fun q => q ≠ p) u ∧ pH u = PP.1 ∧ Below w5.heap.size w5 wc))
      case first =>
        refine wp_region_held_drew (S := fun W => W.cell? ⟨p, 0, none⟩ = some (.int .i64 v1.fe) ∧ W.cell? ⟨p, 1, none⟩ = some (.int .i64 v1.now.pl) ∧ W.cell? ⟨p, 2, none⟩ = some (.int .i64 v1.now.si) ∧ W.cell? ⟨p, 3, none⟩ = some (.slice v1.now.x1 v1.now.n1 v1.now.c1) ∧ W.cell? ⟨p, 4, none⟩ = some (.slice v1.now.x2 v1.now.n2 v1.now.c2) ∧ W.cell? ⟨p, 5, none⟩ = some (.slice v1.now.x3 v1.now.n3 v1.now.c3) ∧ W.cell? ⟨p, 6, none⟩ = some (.slice v1.x v1.n v1.c) ∧ W.cell? ⟨ge, 0, none⟩ = some (.int .i64 q) ∧ W.cell? ⟨ge, 1, none⟩ = some (.int .i64 y.e.cl) ∧ W.cell? ⟨ge, 2, none⟩ = some (.int .i64 y.e.ks) ∧ W.cell? ⟨ge, 3, none⟩ = some (.string y.e.nm) ∧ W.cell? ⟨ge, 4, none⟩ = some (.int .i64 y.e.code) ∧ W.cell? ⟨ge, 5, none⟩ = some (.bool y.e.gone) ∧ W.cell? ⟨ge, 6, none⟩ = some (.int .i64 y.e.sz) ∧ W.cell? ⟨b, o + k * 10 + 7, none⟩ = some (.int .i64 y.c.sz) ∧ W.cell? ⟨b, o + k * 10 + 8, none⟩ = some (.slice y.c.x y.c.n y.c.c) ∧ W.cell? ⟨b, o + k * 10 + 9, none⟩ = some (.int .u32 y.c.sum)) (by kernel_rfl) (HK9.out _ (Below.refl _ _).drew) (fun hHeld => ?_)
        have HBD := hid (show Below w5.heap.size w5 w5.drew from (Below.refl _ _).drew)
        generalize w5.drew = wD at *
        refine By.hk 0 ?_
        refine By.hk 1 ?_
        refine By.hk 2 ?_
        refine By.hk 3 ?_
        refine By.hk 4 ?_
        refine By.hk 5 ?_
        refine By.hk 6 ?_
        refine By.hk 7 ?_
        refine By.hk 8 ?_
        refine By.hk 9 ?_
        have hnp : p < w5.heap.size := by have := lt_heap HH.out.1; have := HB5.out.size; omega
        have HNp := hid hnp
        clear hnp
        have hF : ∀ (V V' : World) (z : Nat), w5.heap.size ≤ V.heap.size → (z < w.heap.size ∨ New V V' z) → z ≠ p := fun V V' z hV hz e => by
          have h1 := HNp.out
          have h2 := HPw.out.2.1
          rcases hz with h | h
          · omega
          · have := h.1; omega
        have HF := hid hF
        clear hF
        refine wpAnyH_ready (rs := [10, 14]) (by kernel_rfl) (by simp) ?_
        refine AllReadyH.cons rfl (fun K hK => ?_) (AllReadyH.cons rfl (fun K hK => ?_) AllReadyH.nil)
        · go_simp
          refine (HWr.out wD HBD.out).mono ?_
          rintro r' w6 ⟨u, rfl, H6⟩
          have b6 := on HBD.out H6.out.2.2
          refine hK.out _ _ (HK9.out _ b6) (fun hHeld => ?_)
          clear hK K
          unfold vH
          refine By.hk 11 ?_
          refine By.hk 12 ?_
          refine By.hk 13 ?_
          refine wpAnyH_ready (rs := [14]) (by kernel_rfl) (by simp) ?_
          refine AllReadyH.cons rfl (fun K hK => ?_) AllReadyH.nil
          go_simp
          refine hK.out _ _ (HK9.out _ (on b6 (al _ _))) (fun hHeld => ?_)
          clear hK K
          have bA := on b6 (al w6 (.cells #[.int .i64 u.fe, .int .i64 u.now.pl, .int .i64 u.now.si, .slice u.now.x1 u.now.n1 u.now.c1, .slice u.now.x2 u.now.n2 u.now.c2, .slice u.now.x3 u.now.n3 u.now.c3, .slice u.x u.n u.c] 29))
          have lA := heap_alloc_new w6 (.cells #[.int .i64 u.fe, .int .i64 u.now.pl, .int .i64 u.now.si, .slice u.now.x1 u.now.n1 u.now.c1, .slice u.now.x2 u.now.n2 u.now.c2, .slice u.now.x3 u.now.n3 u.now.c3, .slice u.x u.n u.c] 29)
          have uA := (H6.out.1.below (al w6 (.cells #[.int .i64 u.fe, .int .i64 u.now.pl, .int .i64 u.now.si, .slice u.now.x1 u.now.n1 u.now.c1, .slice u.now.x2 u.now.n2 u.now.c2, .slice u.now.x3 u.now.n3 u.now.c3, .slice u.x u.n u.c] 29))).weak (fun z hz => HF.out wD w6 z HBD.out.size hz)
          have HPK := hid (And.intro lA (And.intro uA (And.intro H6.out.2.1 bA)))
          clear bA lA uA b6
          refine wpAnyH_ready (rs := [15]) (by kernel_rfl) (by simp) ?_
          refine AllReadyH.cons rfl (fun K hK => ?_) AllReadyH.nil
          go_simp
          refine hK.out _ _ (HK9.out _ HPK.out.2.2.2) (fun hHeld => ?_)
          clear hK K
          refine By.hk 16 ?_
          refine wpAnyH_done (by kernel_rfl) ?_ _
          go_wp2_with fail
          go_meet
          case rel => exact ⟨w6.heap.size, u, rfl, rfl, HPK.out⟩
        · go_simp
          have bA := al wD (.cells #[.int .i64 0, .int .i64 0, .int .i64 0, .slice none 0 0, .slice none 0 0, .slice none 0 0, .slice none 0 0] 29)
          have lA := heap_alloc_new wD (.cells #[.int .i64 0, .int .i64 0, .int .i64 0, .slice none 0 0, .slice none 0 0, .slice none 0 0, .slice none 0 0] 29)
          have sA : (wD.alloc (.cells #[.int .i64 0, .int .i64 0, .int .i64 0, .slice none 0 0, .slice none 0 0, .slice none 0 0, .slice none 0 0] 29)).heap.size = wD.heap.size + 1 := by simp
          have HA2 := hid (And.intro bA (And.intro lA sA))
          refine hK.out _ _ (HK9.out _ (on HBD.out bA)) (fun hHeld => ?_)
          clear hK K
          generalize wD.alloc (.cells #[.int .i64 0, .int .i64 0, .int .i64 0, .slice none 0 0, .slice none 0 0, .slice none 0 0, .slice none 0 0] 29) = wA at *
          clear bA lA sA
          refine wpAnyH_ready (rs := [10]) (by kernel_rfl) (by simp) ?_
          refine AllReadyH.cons rfl (fun K hK => ?_) AllReadyH.nil
          go_simp
          refine (HWr.out wA (on HBD.out HA2.out.1)).mono ?_
          rintro r' w6 ⟨u, rfl, H6⟩
          have b6 := on (on HBD.out HA2.out.1) H6.out.2.2
          have l6 := (H6.out.2.2.block wD.heap.size (by have := HA2.out.2.2; omega)).trans HA2.out.2.1
          have s0 := cell_heap (j := 0) l6 rfl
          have f0 := fr_heap l6 0
          have s1 := cell_heap (j := 1) l6 rfl
          have f1 := fr_heap l6 1
          have s2 := cell_heap (j := 2) l6 rfl
          have f2 := fr_heap l6 2
          have s3 := cell_heap (j := 3) l6 rfl
          have f3 := fr_heap l6 3
          have s4 := cell_heap (j := 4) l6 rfl
          have f4 := fr_heap l6 4
          have s5 := cell_heap (j := 5) l6 rfl
          have f5 := fr_heap l6 5
          have s6 := cell_heap (j := 6) l6 rfl
          have f6 := fr_heap l6 6
          refine hK.out _ _ (HK9.out _ b6) (fun hHeld => ?_)
          clear hK K
          unfold vH
          refine By.hk 11 ?_
          refine By.hk 12 ?_
          refine By.hk 13 ?_
          have g7 := put7_box l6 rfl u
          have t7 := turns_put7 w6 wD.heap.size u
          have b7 : Below w5.heap.size w5 (put7 w6 wD.heap.size u) := b6.trans (t7.below (fun z e => by have := HBD.out.size; omega) b6.size)
          have u7 : HAt (put7 w6 wD.heap.size u) (fun z => z ≠ p) u := HAt.weak (H6.out.1.keeps (.turns t7 fun z hz e => by
            have h1 := HBD.out.size
            have h2 := HA2.out.2.2
            have h3 := HBw.out.size
            have h4 := HB5.out.size
            rcases hz with h | h
            · omega
            · have := h.1; omega)) (fun z hz => HF.out wA w6 z (by have := HBD.out.size; have := HA2.out.2.2; omega) hz)
          have HPK := hid (And.intro g7 (And.intro u7 (And.intro H6.out.2.1 b7)))
          clear g7 t7 b7 u7 l6 b6
          refine wpAnyH_ready (rs := [15]) (by kernel_rfl) (by simp) ?_
          refine AllReadyH.cons rfl (fun K hK => ?_) AllReadyH.nil
          go_simp
          refine hK.out _ _ (HK9.out _ HPK.out.2.2.2) (fun hHeld => ?_)
          clear hK K
          clear s0 s1 s2 s3 s4 s5 s6 f0 f1 f2 f3 f4 f5 f6
          refine By.hk 16 ?_
          refine wpAnyH_done (by kernel_rfl) ?_ _
          go_wp2_with fail
          go_meet
          case rel => exact ⟨wD.heap.size, u, rfl, rfl, HPK.out⟩
      case rest =>
        obtain ⟨gb, u, rfl, rfl, HU⟩ := hcut
        have hgp := ((on HB5.out HU.out.2.2.2).block p (lt_heap HH.out.1)).trans HH.out.1
        have tc : Turns (fun z => z = p) w2 wc := HH.out.2.2.2.2.trans (Turns.of_below (on HB5.out HU.out.2.2.2))
        have HTc := hid tc
        have HGP := hid hgp
        generalize hzz : PP.2 = z at *
        by_cases hz : z = 0
        · subst hz
          have HZ := hid hzz
          obtain ⟨m0, m1, m2, m3, m4, m5, m6⟩ := hcells HU.out.1
          have n0 := cell_heap (j := 0) hgp rfl
          have fn0 := fr_heap hgp 0
          have n1 := cell_heap (j := 1) hgp rfl
          have fn1 := fr_heap hgp 1
          have n2 := cell_heap (j := 2) hgp rfl
          have fn2 := fr_heap hgp 2
          have n3 := cell_heap (j := 3) hgp rfl
          have fn3 := fr_heap hgp 3
          have n4 := cell_heap (j := 4) hgp rfl
          have fn4 := fr_heap hgp 4
          have n5 := cell_heap (j := 5) hgp rfl
          have fn5 := fr_heap hgp 5
          have n6 := cell_heap (j := 6) hgp rfl
          have fn6 := fr_heap hgp 6
          clear hzz tc hgp
          go_upto_region 6 with (fail)
          have e7 : (((((((wc).setCell ⟨p, 0, none⟩ (.int .i64 u.fe)).setCell ⟨p, 1, none⟩ (.int .i64 u.now.pl)).setCell ⟨p, 2, none⟩ (.int .i64 u.now.si)).setCell ⟨p, 3, none⟩ (.slice u.now.x1 u.now.n1 u.now.c1)).setCell ⟨p, 4, none⟩ (.slice u.now.x2 u.now.n2 u.now.c2)).setCell ⟨p, 5, none⟩ (.slice u.now.x3 u.now.n3 u.now.c3)).setCell ⟨p, 6, none⟩ (.slice u.x u.n u.c) = put7 wc p u := rfl
          rw [e7]
          have g7 := put7_box HGP.out rfl u
          have t7 := turns_put7 wc p u
          have u7 := HU.out.2.1.keeps (.turns t7 fun z hz e => hz e)
          have HN := hid (And.intro g7 (And.intro u7 (HTc.out.trans t7)))
          generalize put7 wc p u = w8 at *
          clear e7 g7 t7 u7 m0 m1 m2 m3 m4 m5 m6 n0 n1 n2 n3 n4 n5 n6 fn0 fn1 fn2 fn3 fn4 fn5 fn6
          go_wp2_with fail
          go_roundw
          case rel => exact ⟨k + 1, by omega, by omega, by go_num, u, m + 1, HN.out.1, HN.out.2.1, by rw [HU.out.2.2.1]; exact HStep.out rfl, by have := HH.out.2.2.2.1; omega, HN.out.2.2⟩
          case measure => simp [intOf]; try omega
        · have hzb : (z == 0) = false := by simp [hz]
          clear hz hzz tc hgp
          go_wp2_with fail
          go_roundw
          case rel => exact ⟨k + 1, by omega, by omega, by go_num, v1, m, HGP.out, HH.out.2.1.below (on HB5.out HU.out.2.2.2), HH.out.2.2.1, by have := HH.out.2.2.2.1; omega, HTc.out⟩
          case measure => simp [intOf]; try omega
    · have hbk := back_any ((v.now.n2 : Nat) : Int) HH.out.2.1.s (by
        have h1 := hi.2.2.2.2.2.1
        have h2 := hi.2.2.2.2.2.2.2
        have h3 : (v1.now.I.map pI).length ≤ (v.now.I.map pI).length + m := h1
        have h4 : (v1.now.U.map pU).length = (v.now.U.map pU).length + m := h2
        rw [List.length_map, List.length_map] at h3 h4
        have := HSm.out.2.1
        have := HSm.out.2.2.2
        omega)
      have hlen : (pS v.now).log.length = v.now.n2 := HV0.out.s.e.len
      have hP : backP (pS v1.now) ((v.now.n2 : Nat) : Int) = (pS v.now, 0) := by
        have := hi.back HRise.out
        rw [hlen] at this
        exact this
      rw [hP] at hbk
      unfold vS at hbk
      obtain ⟨k0, k1, k2, k3, k4, k5, k6⟩ := hcells hg
      obtain ⟨e0, e1, e2, e3, e4⟩ := scells gw
      have hstop : ¬ k < n ∨ (k < n ∧ ¬ k < 50) := by omega
      clear hin hg ha hi hmk tt hbw gw hlen hP
      rcases hstop with hst | ⟨hlt, hst⟩
      · have hki : ¬ (k : Int) < (n : Int) := by omega
        go_upto_region 13 with (go_at_call 26; refine hbk.mono ?_; rintro r w6 ⟨s, rfl, H6⟩; unfold vS; clear hbk k0 k1 k2 k3 k4 k5 k6 e0 e1 e2 e3 e4)
        obtain ⟨w7, hw7⟩ : ∃ w7, w7 = w6.alloc (.cells #[.int .i64 s.pl, .int .i64 s.si, .slice s.x1 s.n1 s.c1, .slice s.x2 s.n2 s.c2, .slice s.x3 s.n3 s.c3] 26) := ⟨_, rfl⟩
        have b7 : Below w6.heap.size w6 w7 := by rw [hw7]; exact al _ _
        have g7 : w7.heap[w6.heap.size]? = some (.cells (SCells s) 26 (0, 0)) := by rw [hw7]; exact heap_alloc_new _ _
        have b67 := on H6.out.2.2 b7
        have HB7 := hid b67
        have hSm := rsameShard_any (H6.out.1.below b7) (HV0.out.s.below (on HBw.out b67))
        rw [bz_true H6.out.2.1] at hSm
        unfold vS at hSm
        obtain ⟨m0, m1, m2, m3, m4⟩ := scells g7
        obtain ⟨e0, e1, e2, e3, e4⟩ := scells ((b67.block pw (lt_heap HGw.out)).trans HGw.out)
        rw [← hw7]
        clear hw7 b7 g7 b67 H6
        go_wp2_with (first
          | (go_at_call 18; refine hSm.mono ?_; rintro r w8 ⟨rfl, b8⟩; clear hSm)
          | (go_at_call 25; refine (HA.out _).mono ?_; rintro r w9 ⟨rfl, b9⟩))
        go_ret
        exact ⟨rfl, on HBw.out (on HB7.out (on b8 b9))⟩
      · have hkn : (k : Int) < (n : Int) := by omega
        have hki : ¬ (k : Int) < 50 := by omega
        go_upto_region 13 with (go_at_call 26; refine hbk.mono ?_; rintro r w6 ⟨s, rfl, H6⟩; unfold vS; clear hbk k0 k1 k2 k3 k4 k5 k6 e0 e1 e2 e3 e4)
        obtain ⟨w7, hw7⟩ : ∃ w7, w7 = w6.alloc (.cells #[.int .i64 s.pl, .int .i64 s.si, .slice s.x1 s.n1 s.c1, .slice s.x2 s.n2 s.c2, .slice s.x3 s.n3 s.c3] 26) := ⟨_, rfl⟩
        have b7 : Below w6.heap.size w6 w7 := by rw [hw7]; exact al _ _
        have g7 : w7.heap[w6.heap.size]? = some (.cells (SCells s) 26 (0, 0)) := by rw [hw7]; exact heap_alloc_new _ _
        have b67 := on H6.out.2.2 b7
        have HB7 := hid b67
        have hSm := rsameShard_any (H6.out.1.below b7) (HV0.out.s.below (on HBw.out b67))
        rw [bz_true H6.out.2.1] at hSm
        unfold vS at hSm
        obtain ⟨m0, m1, m2, m3, m4⟩ := scells g7
        obtain ⟨e0, e1, e2, e3, e4⟩ := scells ((b67.block pw (lt_heap HGw.out)).trans HGw.out)
        rw [← hw7]
        clear hw7 b7 g7 b67 H6
        go_wp2_with (first
          | (go_at_call 18; refine hSm.mono ?_; rintro r w8 ⟨rfl, b8⟩; clear hSm)
          | (go_at_call 25; refine (HA.out _).mono ?_; rintro r w9 ⟨rfl, b9⟩))
        go_ret
        exact ⟨rfl, on HBw.out (on HB7.out (on b8 b9))⟩

set_option maxRecDepth 100000 in
theorem lifted (os : Os) (started : os.Started) (H : Type) (enc : TypeId × Value → H) (F : Stop.Interp) :
    ReturnsInHanded {} Try.checked os 8 .any ((Rows.OpenSpec.upto Rows.shardUndoesSpec).pre6 enc Try.prog Try.f8 Rows.shardUndoesUptoRow.domain false) (((Rows.OpenSpec.upto Rows.shardUndoesSpec).at F).post enc Try.prog Try.f8 false true false false) := by
  refine returnsInHanded_of_cond (C := Try.checked) (s := Rows.OpenSpec.upto Rows.shardUndoesSpec) (k := Rows.uptoSmall) rfl own started (by kernel_rfl) Try.func8
    (OpenSpec.witness (enc := enc) (C := Try.checked) (s := Rows.OpenSpec.upto Rows.shardUndoesSpec) (k := Rows.uptoSmall) rfl false ⟨#[], #[.agg #[.int .i64 0, .int .i64 0, .int .i64 0, .slice none 0 0, .slice none 0 0, .slice none 0 0, .slice none 0 0], .slice none 0 0], []⟩ 8 (by kernel_rfl) (by kernel_rfl) (by kernel_rfl)
      (x := ([.agg [.lit (.int .i64 0), .agg [.lit (.int .i64 0), .lit (.int .i64 0), .nil, .nil, .nil], .nil], .nil], [], [])) (by kernel_rfl) rfl (by kernel_rfl)) ?_
  intro W base args ds gs before hval0 hW _ hk0 _
  have hk : Rows.uptoBulkAll (ds ++ gs) ≤ 1048576 := of_decide_eq_true hk0
  have hval : ∀ (j : Nat) t v, Try.f8.params[j]? = some t → args[j]? = some v → Value.okWide Try.prog W .any base t v := hval0
  have hW' := hW
  obtain ⟨p, q, hA0, hV, rfl, hfz, hnd⟩ := hW
  have hA : DataW.TrodAll enc Try.prog W 0 (fun _ => true) true Try.f8.params.toList args.toList ds p := hA0
  rw [Try.params8] at hA hval
  obtain ⟨v0, vs0, d0, ds0, p0, q0, hargs, rfl, rfl, h0, r0⟩ := trodAll_cons hA
  obtain ⟨v1, vs1, d1, ds1, p1, q1, rfl, rfl, rfl, h1, r1⟩ := trodAll_cons r0
  obtain ⟨rfl, rfl, rfl⟩ := trodAll_nil r1
  obtain rfl : args = #[v0, v1] := by cases args; simp_all
  obtain ⟨rfl, rfl⟩ := trodVars_none hV
  simp only [List.append_nil, Rows.uptoBulkAll] at hk
  have k0 := h0
  have lt0 : ∀ x ∈ p0, x.block < W.heap.size := by obtain ⟨m, hm⟩ := k0; exact DataW.trod_lt m _ _ _ hm
  have s0 : Rows.uptoBulk d0 ≤ 1048576 := by omega
  obtain ⟨V0, rfl, w0⟩ := Sh.holder_arg (okWide_struct Try.underlying29 (hval 0 29 v0 rfl rfl)) h0 s0
  have k1 := h1
  have lt1 : ∀ x ∈ p1, x.block < W.heap.size := by obtain ⟨m, hm⟩ := k1; exact DataW.trod_lt m _ _ _ hm
  have s1 : Rows.uptoBulk d1 ≤ 1048576 := by omega
  obtain ⟨b1, nn1, cc1, rfl⟩ := okWide_slice Try.underlying74 (hval 1 74 v1 rfl rfl)
  obtain ⟨fu1, hf1⟩ := h1
  obtain ⟨a1, len1, cap1, V1, e1, w1, m1⟩ := Sh.puts_in hf1 s1
  simp [Value.cells] at e1
  obtain ⟨rfl, rfl, rfl⟩ := e1
  clear hA0 hval0
  refine (walk V0 b1 nn1 cc1 V1 W w0 w1 m1).mono fun e W' ⟨he, bel⟩ => ?_
  subst he
  exact ⟨_, rfl, _, _, _, [], _, [], hW', trodAll_mk1 (shut_bool Try.underlying4 _), (trodAll_cons_mk (Below.trod laidOut (by kernel_rfl) (of_decide_eq_true (by kernel_rfl)) k0 bel lt0) (trodAll_cons_mk (Below.trod laidOut (by kernel_rfl) (of_decide_eq_true (by kernel_rfl)) k1 bel lt1) trodAll_mk0)), rfl, bel.frame _, fun h => by cases h⟩

theorem over : Rows.shardUndoesUptoRow.holds Try.pinned (Rows.OpenSpec.upto Rows.shardUndoesSpec) :=
  OpenClaim.holds_of_cond 8 Try.f8 rfl rfl rfl rfl rfl rfl rfl ⟨rfl, rfl, rfl, rfl, rfl⟩ rfl rfl rfl rfl rfl (by kernel_rfl) Try.func8 (by kernel_rfl)
    (of_decide_eq_true (by kernel_rfl)) (by unfold Func.isWrapper; first | (rw [if_pos (by decide +kernel)]; kernel_rfl) | (rw [if_neg (by decide +kernel)]; exact ⟨rfl, rfl⟩))
    (fun os started H enc _ F => lifted os started H enc F)

theorem proved : Rows.ShardUndoesUptoSaid := over
#print axioms proved
end Go.Proofs.Ytnfflmndejbepaa.shardUndoes
