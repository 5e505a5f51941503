/-
  What a journal writes, sector by sector, what is read, and what there is room for are the document's: 'mooringlaw08.JournalActs' returns true and leaves its arguments as they were.
  Conditions: none.
-/
import Derived.Test.YthfpljfndnjcnaaRows
import Derived.WalkKit
import Derived.ProofKit
import Derived.OpenShut
import Derived.SizedLaws
import Derived.ShutString
import Derived.ChangeOld
import Derived.Below
import Derived.Test.YthfpljfndnjcnaaByRows
import Derived.Test.YthfpljfndnjcnaaJoItem
import Derived.Test.YthfpljfndnjcnaaJoActs
namespace Go.Proofs.Ythfpljfndnjcnaa.journalActs
open Go.ChangeShapes Go.WideShapes Go.ChangeAt Go.RowKit By
open Dk Jo
set_option linter.unusedVariables false
set_option linter.unusedSimpArgs false

theorem own : ownKnob Try.prog.godebug = none := by kernel_rfl
theorem laidOut : laidOutB Try.prog = true := by kernel_rfl

set_option maxHeartbeats 30000000 in
set_option maxRecDepth 100000 in
theorem walk (z : Int) (a : Option Addr) (len cap : Nat) (V : Nat → ActV) (w : World) (hz : (Lit.int .i64 z).wf = true) (hl : ActsIn w a len cap V) :
    Calls Try.prog 3 #[.int .i64 z, .slice a len cap] w fun e w' => e = .returned (.bool true) ∧ Below w.heap.size w w' := by
  have hsm := hl.small
  have hbz := bounds_i64 hz
  have HL := hid hl
  obtain ⟨hz1, hz2⟩ := hbz
  clear hl hz
  by_cases hno : z < 1 ∨ 4096 < z
  · have hN := new_no z w hno
    clear hno
    go_enter Try.func3, Try.ntmps3
    go_wp2_with (first
      | (go_at_call 8; refine hN.mono ?_; rintro e w' ⟨rfl, hw⟩; subst w'; clear hN)
      | (go_at_call 9; refine (jawake _).mono ?_; rintro e w9 ⟨rfl, hb9⟩))
    go_ret
    exact ⟨rfl, hb9⟩
  · obtain ⟨n, rfl⟩ : ∃ n : Nat, z = (n : Int) := ⟨z.toNat, by omega⟩
    have hN := dnew n (n : Int) rfl w (by omega) (by omega)
    by_cases h3 : 300 < n
    · have h3' : (300 : Int) < (n : Int) := by omega
      clear hno
      go_enter Try.func3, Try.ntmps3
      go_wp2_with (first
        | (go_at_call 8; refine hN.mono ?_; rintro e w1 ⟨p, F, rfl, d1⟩; clear hN
           have HB1 := hid d1.bel
           clear d1)
        | (go_at_call 9; refine (jawake _).mono ?_; rintro e w9 ⟨rfl, hb9⟩))
      go_ret
      exact ⟨rfl, HB1.out.trans (hb9.mono HB1.out.size)⟩
    · have h3' : ¬ (300 : Int) < (n : Int) := by omega
      have hn3 : n ≤ 300 := by omega
      clear hno
      go_enter Try.func3, Try.ntmps3
      go_wp2_with (first
        | (go_at_call 8; refine hN.mono ?_; rintro e w1 ⟨p, F, rfl, d1⟩; clear hN
           have hO1 := (down_new d1 hn3 (fun _ => 0) (fun _ _ => 0)).open_ (by omega) d1.size
           clear d1)
        | (go_at_call 10; refine hO1.mono ?_; rintro e w2 ⟨jp, G, K, R, Aa, C, rfl, hb2, htop, hG0, hKF, ln', ft', hlf, _⟩; clear hO1
           obtain rfl : G = 0 := by omega
           have HC0 : Hid (Ac w w2 p n jp 0) := ⟨_, _, _, _, _, _, _, _, _, _, _, _, _, _, _, _, hlf, by omega⟩
           clear hb2 htop hG0 hKF hlf))
      go_loopw [7, 8] (fun j i wr => ∃ (k jp : Nat), k ≤ 100 ∧ k ≤ len ∧ j = .pointer (some ⟨jp, 0, none⟩) ∧ i = .int .i64 k ∧ Hid (Ac w wr p n jp k)) (fun _ i _ => 100 - (intOf i).toNat)
      case atStart => exact ⟨0, jp, by omega, by omega, rfl, rfl, HC0.out⟩
      case round =>
        clear HC0
        obtain ⟨k, jp, hk1, hk2, rfl, rfl, HR⟩ := hrel
        by_cases hlt : k < len ∧ k < 100
        · obtain ⟨hlt1, hlt2⟩ := hlt
          have hk1' : (k : Int) < (len : Int) := by omega
          have hk2' : (k : Int) < 100 := by omega
          obtain ⟨K, Vv, g, m, st, ms, ln, ft, F, mm, f, A, D, R, Aa, C, hlf, hg⟩ := HR.out
          rcases HL.out.row with h0' | ⟨b, o, rfl, hbl, hcells⟩
          · omega
          obtain ⟨f0, f1, f2⟩ := hcells k hlt1
          have hbel := hlf.jd.dsk.bel
          have k0 := (hbel.cell (p := ⟨b, o + k * 3, none⟩) hbl).trans f0
          have k1 := (hbel.cell (p := ⟨b, o + k * 3 + 1, none⟩) hbl).trans f1
          have k2 := (hbel.cell (p := ⟨b, o + k * 3 + 2, none⟩) hbl).trans f2
          have hact := HL.out.act k hlt1
          have hbo : Below wr.heap.size wr (wr.alloc (.cells #[.int .i64 (V k).do_, .slice (V k).x (V k).n (V k).c, .slice (V k).u (V k).l (V k).k] 34)) := (Below.refl _ _).alloc (Nat.le_refl _) _
          have hlfo := hlf.below hbo
          have hKl : ∀ q, K q → w.heap.size ≤ q ∧ q < wr.heap.size := hlf.foot
          have hB : w.heap.size ≤ wr.heap.size := hlf.jd.dsk.size
          clear hcells f0 f1 f2 HR
          by_cases hd1 : (V k).do_ = 1
          · rw [hd1] at k0 hbo hlfo
            have hS := hlfo.sync
            clear hlf hlfo hact hbel hbo
            generalize (V k).x = X at *
            generalize (V k).n = Nn at *
            generalize (V k).c = Cc at *
            generalize (V k).u = U at *
            generalize (V k).l = Lc at *
            generalize (V k).k = Kc at *
            go_wp2_with (first
              | (go_at_call 11; refine hS.mono ?_; rintro e v ⟨rfl, tv, lv⟩; clear hS
                 have hpe := lv.pend
                 have HV : Hid (Ac w v p n jp (k + 1)) := ⟨_, _, _, _, _, _, _, _, _, _, _, _, _, _, _, _, lv, by omega⟩
                 clear tv lv)
              | (go_at_call 12; refine hpe.mono ?_; rintro e w' ⟨rfl, hw⟩; subst w'; clear hpe))
            first
              | exact ⟨⟨k + 1, jp, by omega, by omega, rfl, by go_num, HV.out⟩, show 100 - ((k : Int) + 1).toNat < 100 - ((k : Int)).toNat by omega⟩
              | (go_roundw
                 case rel => exact ⟨k + 1, jp, by omega, by omega, rfl, by go_num, HV.out⟩
                 case measure => simp [intOf]; omega)
          · have hd1' : ((V k).do_ == 1) = false := by simpa using hd1
            by_cases hd2 : (V k).do_ = 2
            · rw [hd2] at k0 hbo hlfo
              have hcut := hact.cut
              have hC := hlfo.crash (V k).u (V k).l (V k).k (V k).h ((hcut.row.belowB hbel).belowB hbo) (fun h0 q e hK => by have := hcut.row.low h0 q e; have := (hKl _ hK).1; omega) (by have := hcut.small; omega)
              clear hlf hlfo hact hbel hbo hcut
              generalize (V k).h = Hh at *
              generalize (V k).x = X at *
              generalize (V k).n = Nn at *
              generalize (V k).c = Cc at *
              generalize (V k).u = U at *
              generalize (V k).l = Lc at *
              generalize (V k).k = Kc at *
              go_wp2_with (first
                | (go_at_call 13; refine hC.mono ?_; rintro e v ⟨rfl, tv, m', f', hm1, hm2, dv⟩; clear hC
                   have hA := dv.again hg hk1
                   clear tv dv hm1 hm2)
                | (go_at_call 15; refine hA.mono ?_; rintro e v1 ⟨gw, cw, rfl, hGn⟩; clear hA)
                | (go_at_call 14; refine hGn.mono ?_; rintro e v2 ⟨G, hG6, rfl, hO⟩; clear hGn)
                | (go_at_call 10; refine hO.mono ?_; rintro e v3 ⟨jq, rfl, HL3⟩; clear hO
                   obtain ⟨G1, hG1⟩ : ∃ G1, G1 = G + 1 := ⟨_, rfl⟩
                   have hG1i : (G : Int) + 1 = (G1 : Int) := by omega
                   obtain ⟨K2, ln2, ft2, R2, Aa2, C2, hl3, hg3⟩ := HL3.out
                   rw [← hG1] at hl3 hg3
                   have hBk := hl3.back
                   have HL4 := hid (And.intro hl3 hg3)
                   clear hl3 hg3 HL3 hG1)
                | (go_at_call 15; refine hBk.mono ?_; rintro e v4 ⟨g4, c4, rfl, hRc⟩; clear hBk)
                | (go_at_call 16; refine hRc.mono ?_; rintro e v5 ⟨x5, c5, E5, rfl, hGe, hLs⟩; clear hRc)
                | (go_at_call 17; refine hGe.mono ?_; rintro e w' ⟨rfl, hw⟩; subst w'; clear hGe)
                | (go_at_call 19; refine hLs.mono ?_; rintro e v6 ⟨x6, c6, rfl, hLi⟩; clear hLs)
                | (go_at_call 18; refine hLi.mono ?_; rintro e v7 ⟨rfl, hb7⟩; clear hLi
                   have HV : Hid (Ac w v7 p n jq (k + 1)) := ⟨_, _, _, _, _, _, _, _, _, _, _, _, _, _, _, _, HL4.out.1.below hb7, HL4.out.2⟩
                   clear hb7 HL4))
              first
                | exact ⟨⟨k + 1, jq, by omega, by omega, rfl, by go_num, HV.out⟩, show 100 - ((k : Int) + 1).toNat < 100 - ((k : Int)).toNat by omega⟩
                | (go_roundw
                   case rel => exact ⟨k + 1, jq, by omega, by omega, rfl, by go_num, HV.out⟩
                   case measure => simp [intOf]; omega)
            · have hd2' : ((V k).do_ == 2) = false := by simpa using hd2
              obtain ⟨wo, hwo⟩ : ∃ wo, wo = wr := ⟨_, rfl⟩
              subst hwo
              have hby := hact.bytes
              have hbn := hby.small
              have hbn2 := hby.le
              have hS := hlfo.hd hg
              have hsza : (wo.alloc (.cells #[.int .i64 (V k).do_, .slice (V k).x (V k).n (V k).c, .slice (V k).u (V k).l (V k).k] 34)).heap.size = wo.heap.size + 1 := by simp
              have HCe : Hid (∀ v, Below (wo.alloc (.cells #[.int .i64 (V k).do_, .slice (V k).x (V k).n (V k).c, .slice (V k).u (V k).l (V k).k] 34)).heap.size (wo.alloc (.cells #[.int .i64 (V k).do_, .slice (V k).x (V k).n (V k).c, .slice (V k).u (V k).l (V k).k] 34)) v → v.cell? ⟨wo.heap.size, 1, none⟩ = some (.slice (V k).x (V k).n (V k).c) ∧ EltW v (V k).x (V k).n (V k).c (V k).f ∧ wo.heap.size < v.heap.size) := fun v hv => by
                have hcell : (wo.alloc (.cells #[.int .i64 (V k).do_, .slice (V k).x (V k).n (V k).c, .slice (V k).u (V k).l (V k).k] 34)).cell? ⟨wo.heap.size, 1, none⟩ = some (.slice (V k).x (V k).n (V k).c) := by simp
                have hs := hv.size
                rw [hsza] at hs
                exact ⟨(hv.cell (p := ⟨wo.heap.size, 1, none⟩) (by rw [hsza]; exact Nat.lt_succ_self _)).trans hcell, (bytes_elt hby hbel).turns (Turns.of_below (F := fun _ => False) (hbo.trans (hv.mono hbo.size))) (fun _ _ _ h => h), hs⟩
              have HLow : Hid ((V k).n ≠ 0 → ∀ ad, (V k).x = some ad → ¬ K ad.block) := fun h0 ad e hK => by have := bytes_low hby h0 ad e; have := (hKl _ hK).1; omega
              have HnK : Hid (¬ K wo.heap.size) := fun e => by have := (hKl _ e).2; omega
              have hEn : st m ≤ n := hlf.used
              have hm3 : m ≤ 300 := hlf.count
              obtain ⟨E, hE⟩ : ∃ E, E = st m := ⟨_, rfl⟩
              rw [← hE] at hEn
              have HE := hid hE
              obtain ⟨N, hN⟩ : ∃ N, N = pcs (V k).n := ⟨_, rfl⟩
              have hN1 : (0 : Int) < (N : Int) := by have := pcs_pos (V k).n; omega
              have hN9 : N ≤ 140737488351232 := by rw [hN]; unfold pcs; split <;> omega
              have HN := hid hN
              obtain ⟨M, hM⟩ : ∃ M : Nat → Nat → Nat, M = fun i => mkS g (m + 1) (V k).n (V k).f i := ⟨_, rfl⟩
              have HM := hid hM
              have HREC : Hid (∀ v gw cw, Hd w v p n jp k K Vv g m st gw cw none 0 0 M → Calls Try.prog 16 #[.slice (some ⟨gw, 0, none⟩) n cw] v fun e v' => ∃ x c, e = .returned (.tuple #[.slice x m c, .int .i64 (E : Int)]) ∧ Below v.heap.size v v') := fun v gw cw h => by
                have h := h.recs
                rwa [← hE] at h
              clear hlf hlfo hact hbel hbo hd1 hd2 hby hE hN hM hsza
              generalize (V k).do_ = Do at *
              generalize (V k).f = Ff at *
              generalize (V k).x = X at *
              generalize (V k).n = Nn at *
              generalize (V k).c = Cc at *
              generalize (V k).u = U at *
              generalize (V k).l = Lc at *
              generalize (V k).k = Kc at *
              go_wp2_with (first
                | (go_at_call 15; refine hS.mono ?_; rintro e v1 ⟨gw, cw, rfl, hb1, hh1⟩; clear hS
                   have hRe := HREC.out v1 gw cw (hh1 M)
                   have HS1 := hid (And.intro hb1 (hh1 M))
                   clear hb1 hh1 HREC)
                | (go_at_call 16; refine hRe.mono ?_; rintro e v2 ⟨x2, c2, rfl, hb2⟩; clear hRe))
              have hba := HS1.out.1.trans (hb2.mono HS1.out.1.size)
              obtain ⟨hc2, he2, hs2⟩ := HCe.out v2 hba
              have hbd : Below v2.heap.size v2 v2.drew := (Below.refl _ _).drew
              have hh2 := (HS1.out.2.below hb2).below hbd
              have hgen := hh2.gen
              have hmk := hh2.make X Nn Cc Ff (he2.turns (Turns.of_below (F := fun _ => False) hbd) (fun _ _ _ h => h)) (by omega) HM.out
              rw [← HN.out, show ((m + 1 : Nat) : Int) = IntKind.i64.wrap ((m : Int) + 1) by rw [IntKind.wrap_i64]; omega] at hmk
              have HBA := hid hba
              clear hba hh2 he2 HS1 hb2 hbd
              refine wp_region_held_drew (S := fun v => v.cell? ⟨wo.heap.size, 1, none⟩ = some (.slice X Nn Cc)) (by kernel_rfl) hc2 (fun hHeld => ?_)
              refine wpAnyH_take (i := 0) (v := ?_) rfl (by kernel_rfl) (by kernel_rfl) (by kernel_rfl) (fun _ _ _ h => h) (Or.inl ⟨by rfl, ?_⟩) (by assumption) ?_
              case refine_2 => (intro w hSw; (try dsimp only at hSw); go_simp; (try with_reducible rfl))
              (try simp only [Act.put, List.getElem_toArray, List.getElem_cons_succ, List.getElem_cons_zero, List.setIfInBounds_toArray, List.set_cons_zero, List.set_cons_succ])
              refine wpAnyH_take (i := 2) (v := ?_) rfl (by kernel_rfl) (by kernel_rfl) (by kernel_rfl) (fun _ _ _ h => h) (Or.inl ⟨by rfl, ?_⟩) (by assumption) ?_
              case refine_2 => (intro w hSw; (try dsimp only at hSw); go_simp; (try with_reducible rfl))
              (try simp only [Act.put, List.getElem_toArray, List.getElem_cons_succ, List.getElem_cons_zero, List.setIfInBounds_toArray, List.set_cons_zero, List.set_cons_succ])
              refine wpAnyH_take (i := 3) (v := ?_) rfl (by kernel_rfl) (by kernel_rfl) (by kernel_rfl) (fun _ _ _ h => h) (Or.inl ⟨by rfl, ?_⟩) (by assumption) ?_
              case refine_2 => (intro w hSw; (try dsimp only at hSw); go_simp; (try with_reducible rfl))
              (try simp only [Act.put, List.getElem_toArray, List.getElem_cons_succ, List.getElem_cons_zero, List.setIfInBounds_toArray, List.set_cons_zero, List.set_cons_succ])
              refine wpAnyH_take (i := 4) (v := ?_) rfl (by kernel_rfl) (by kernel_rfl) (by kernel_rfl) (fun _ _ _ h => h) (Or.inl ⟨by rfl, ?_⟩) (by assumption) ?_
              case refine_2 => (intro w hSw; (try dsimp only at hSw); go_simp; (try with_reducible rfl))
              (try simp only [Act.put, List.getElem_toArray, List.getElem_cons_succ, List.getElem_cons_zero, List.setIfInBounds_toArray, List.set_cons_zero, List.set_cons_succ])
              refine wpAnyH_take (i := 5) (v := ?_) rfl (by kernel_rfl) (by kernel_rfl) (by kernel_rfl) (fun _ _ _ h => h) (Or.inl ⟨by rfl, ?_⟩) (by assumption) ?_
              case refine_2 => (intro w hSw; (try dsimp only at hSw); go_simp; (try with_reducible rfl))
              (try simp only [Act.put, List.getElem_toArray, List.getElem_cons_succ, List.getElem_cons_zero, List.setIfInBounds_toArray, List.set_cons_zero, List.set_cons_succ])
              refine wpAnyH_take (i := 6) (v := ?_) rfl (by kernel_rfl) (by kernel_rfl) (by kernel_rfl) (fun _ _ _ h => h) (Or.inl ⟨by rfl, ?_⟩) (by assumption) ?_
              case refine_2 => (intro w hSw; (try dsimp only at hSw); go_simp; (try with_reducible rfl))
              (try simp only [Act.put, List.getElem_toArray, List.getElem_cons_succ, List.getElem_cons_zero, List.setIfInBounds_toArray, List.set_cons_zero, List.set_cons_succ])
              refine wpAnyH_ready (rs := [1]) (by kernel_rfl) (by simp) ?_
              refine AllReadyH.cons rfl (fun K hK => ?_) AllReadyH.nil
              go_simp
              refine hgen.mono ?_
              rintro e v3 ⟨rfl, hv⟩
              subst v3
              clear hgen
              refine hK.out _ _ hc2 (fun hHeld => ?_)
              clear hK K
              refine wpAnyH_ready (rs := [7]) (by kernel_rfl) (by simp) ?_
              refine AllReadyH.cons rfl (fun K hK => ?_) AllReadyH.nil
              go_simp
              refine hmk.mono ?_
              rintro e v3 ⟨y, cy, rfl, hb3, hh3⟩
              clear hmk
              have hb3' : Below v2.heap.size v2 v3 := ⟨hb3.os, hb3.tape, hb3.output, hb3.size, hb3.block⟩
              have hba3 := HBA.out.trans (hb3'.mono HBA.out.size)
              have hc3 := (HCe.out v3 hba3).1
              have HSz : Hid (wo.heap.size < v3.heap.size) := (HCe.out v3 hba3).2.2
              have HCell : Hid (∀ v, Below v3.heap.size v3 v → v.cell? ⟨wo.heap.size, 1, none⟩ = some (.slice X Nn Cc)) := fun v hv => (HCe.out v (hba3.trans (hv.mono hba3.size))).1
              have HElt : Hid (∀ v, Below v3.heap.size v3 v → EltW v X Nn Cc Ff) := fun v hv => (HCe.out v (hba3.trans (hv.mono hba3.size))).2.1
              obtain ⟨Zr, hZr⟩ : ∃ Zr, Zr = roomZ n (st m) := ⟨_, rfl⟩
              have HZr := hid hZr
              have HRoom : Hid (∀ v, Below v3.heap.size v3 v → Calls Try.prog 21 #[.pointer (some ⟨jp, 0, none⟩)] v fun e v' => e = .returned (.int .i64 Zr) ∧ Below v3.heap.size v3 v') := fun v hv => by
                rw [hZr]
                exact (hh3.below hv).room.mono fun e v' ⟨q1, q2⟩ => ⟨q1, hv.trans (q2.mono hv.size)⟩
              have HH3 := hid hh3
              obtain ⟨d, hd⟩ : ∃ d, d = n - E := ⟨_, rfl⟩
              have hdi9 : (n : Int) - (E : Int) = (d : Int) := by omega
              have hd3 : d ≤ 300 := by omega
              clear hb3 hh3 hb3' hba3 hc2 hZr HBA HCe
              refine hK.out _ _ hc3 (fun hHeld => ?_)
              clear hK K
              refine wpAnyH_take (i := 8) (v := ?_) rfl (by kernel_rfl) (by kernel_rfl) (by kernel_rfl) (fun _ _ _ h => h) (Or.inl ⟨by rfl, ?_⟩) (by assumption) ?_
              case refine_2 => (intro w hSw; (try dsimp only at hSw); go_simp; (try with_reducible rfl))
              (try simp only [Act.put, List.getElem_toArray, List.getElem_cons_succ, List.getElem_cons_zero, List.setIfInBounds_toArray, List.set_cons_zero, List.set_cons_succ])
              refine wpAnyH_done (by kernel_rfl) ?_ _
              by_cases hlong : 13005 < Nn
              · have hl9 : (13005 : Int) < (Nn : Int) := by omega
                have HPut : Hid (∀ v, Below v3.heap.size v3 v → Calls Try.prog 22 #[.pointer (some ⟨jp, 0, none⟩), .slice X Nn Cc] v fun e v' => ∃ V', e = .returned (.int .i64 3) ∧ v'.cell? ⟨wo.heap.size, 1, none⟩ = some (.slice X Nn Cc) ∧ Hid (Tl w v' p n jp (k + 1) gw none 0 E Vv M V')) := fun v hv => by
                  refine ((HH3.out.below hv).put_long X Nn Cc hlong).mono fun e v' ⟨q1, q2, q3⟩ => ⟨Vv, q1, HCell.out v' (hv.trans (q2.mono hv.size)), ?_⟩
                  rw [HE.out]; exact q3
                clear HElt HLow HnK HSz
                by_cases hdA : 255 < d
                · have hd9 : (255 : Int) < (d : Int) := by omega
                  have hz : Zr = 13005 := by rw [HZr.out]; unfold roomZ; rw [← HE.out, if_neg (by omega), show n - E = d by omega, Nat.min_eq_right (by omega)]; rfl
                  have hdi := hdi9
                  have hr1 : Calls Try.prog 21 #[.pointer (some ⟨jp, 0, none⟩)] v3 fun e v' => e = .returned (.int .i64 (13005)) ∧ Below v3.heap.size v3 v' := by
                    have h := HRoom.out v3 (Below.refl _ _)
                    rwa [hz] at h
                  clear HRoom hz
                  go_wp2_with (first
                    | (go_at_call 21; refine hr1.mono ?_; rintro e v4 ⟨rfl, hb4⟩; clear hr1
                       have hc4 := HCell.out v4 hb4
                       have hp := HPut.out v4 hb4
                       clear hb4)
                    | (go_at_call 22; refine hp.mono ?_; rintro e v6 ⟨V', rfl, hc6, HT6⟩; clear hp))
                  go_loopw [19] (fun i wr => i = .int .i64 0 ∧ Hid (TlR w v6 wr n gw E Vv M 0)) (fun _ _ => 0)
                  case atStart => exact ⟨rfl, HT6.out.start⟩
                  case round =>
                    obtain ⟨rfl, HRt⟩ := hrel
                    have hF := HT6.out.fin HRt.out cw
                    clear HRt
                    go_wp2_with (first
                      | (go_at_call 15; refine hF.mono ?_; rintro e v8 ⟨g8, c8, rfl, hLi⟩; clear hF)
                      | (go_at_call 18; refine hLi.mono ?_; rintro e v9 ⟨rfl, HV⟩; clear hLi))
                    first
                      | exact ⟨⟨k + 1, jp, by omega, by omega, rfl, by go_num, HV.out⟩, show 100 - ((k : Int) + 1).toNat < 100 - ((k : Int)).toNat by omega⟩
                      | (go_roundw
                         case rel => exact ⟨k + 1, jp, by omega, by omega, rfl, by go_num, HV.out⟩
                         case measure => simp [intOf]; omega)
                · by_cases hd0 : 0 < d
                  · have hd9 : ¬ (255 : Int) < (d : Int) := by omega
                    have hz : Zr = (d : Int) * 51 := by rw [HZr.out]; unfold roomZ; rw [← HE.out, if_neg (by omega), show n - E = d by omega, Nat.min_eq_left (by omega)]; omega
                    have hdi := hdi9
                    have hr1 : Calls Try.prog 21 #[.pointer (some ⟨jp, 0, none⟩)] v3 fun e v' => e = .returned (.int .i64 ((d : Int) * 51)) ∧ Below v3.heap.size v3 v' := by
                      have h := HRoom.out v3 (Below.refl _ _)
                      rwa [hz] at h
                    clear HRoom hz
                    go_wp2_with (first
                      | (go_at_call 21; refine hr1.mono ?_; rintro e v4 ⟨rfl, hb4⟩; clear hr1
                         have hc4 := HCell.out v4 hb4
                         have hp := HPut.out v4 hb4
                         clear hb4)
                      | (go_at_call 22; refine hp.mono ?_; rintro e v6 ⟨V', rfl, hc6, HT6⟩; clear hp))
                    go_loopw [19] (fun i wr => i = .int .i64 0 ∧ Hid (TlR w v6 wr n gw E Vv M 0)) (fun _ _ => 0)
                    case atStart => exact ⟨rfl, HT6.out.start⟩
                    case round =>
                      obtain ⟨rfl, HRt⟩ := hrel
                      have hF := HT6.out.fin HRt.out cw
                      clear HRt
                      go_wp2_with (first
                        | (go_at_call 15; refine hF.mono ?_; rintro e v8 ⟨g8, c8, rfl, hLi⟩; clear hF)
                        | (go_at_call 18; refine hLi.mono ?_; rintro e v9 ⟨rfl, HV⟩; clear hLi))
                      first
                        | exact ⟨⟨k + 1, jp, by omega, by omega, rfl, by go_num, HV.out⟩, show 100 - ((k : Int) + 1).toNat < 100 - ((k : Int)).toNat by omega⟩
                        | (go_roundw
                           case rel => exact ⟨k + 1, jp, by omega, by omega, rfl, by go_num, HV.out⟩
                           case measure => simp [intOf]; omega)
                  · have hdi : (n : Int) - (E : Int) = 0 := by omega
                    have hz : Zr = -1 := by rw [HZr.out]; unfold roomZ; rw [← HE.out, if_pos (by omega)]
                    clear hd hdi9
                    have hr1 : Calls Try.prog 21 #[.pointer (some ⟨jp, 0, none⟩)] v3 fun e v' => e = .returned (.int .i64 (-1)) ∧ Below v3.heap.size v3 v' := by
                      have h := HRoom.out v3 (Below.refl _ _)
                      rwa [hz] at h
                    have HR2 : Hid (∀ v, Below v3.heap.size v3 v → Calls Try.prog 21 #[.pointer (some ⟨jp, 0, none⟩)] v fun e v' => e = .returned (.int .i64 (-1)) ∧ Below v3.heap.size v3 v') := fun v hv => by
                      have h := HRoom.out v hv
                      rwa [hz] at h
                    clear HRoom hz
                    go_wp2_with (first
                      | (go_at_call 21; refine hr1.mono ?_; rintro e v4 ⟨rfl, hb4⟩; clear hr1
                         have hc4 := HCell.out v4 hb4
                         have hp := HPut.out v4 hb4
                         have hr2 := HR2.out v4 hb4
                         clear HR2 hb4)
                      | (go_at_call 21; refine hr2.mono ?_; rintro e v5 ⟨rfl, hb5⟩; clear hr2 hc4 hp
                         have hc5 := HCell.out v5 hb5
                         have hp := HPut.out v5 hb5
                         clear hb5)
                      | (go_at_call 22; refine hp.mono ?_; rintro e v6 ⟨V', rfl, hc6, HT6⟩; clear hp))
                    go_loopw [19] (fun i wr => i = .int .i64 0 ∧ Hid (TlR w v6 wr n gw E Vv M 0)) (fun _ _ => 0)
                    case atStart => exact ⟨rfl, HT6.out.start⟩
                    case round =>
                      obtain ⟨rfl, HRt⟩ := hrel
                      have hF := HT6.out.fin HRt.out cw
                      clear HRt
                      go_wp2_with (first
                        | (go_at_call 15; refine hF.mono ?_; rintro e v8 ⟨g8, c8, rfl, hLi⟩; clear hF)
                        | (go_at_call 18; refine hLi.mono ?_; rintro e v9 ⟨rfl, HV⟩; clear hLi))
                      first
                        | exact ⟨⟨k + 1, jp, by omega, by omega, rfl, by go_num, HV.out⟩, show 100 - ((k : Int) + 1).toNat < 100 - ((k : Int)).toNat by omega⟩
                        | (go_roundw
                           case rel => exact ⟨k + 1, jp, by omega, by omega, rfl, by go_num, HV.out⟩
                           case measure => simp [intOf]; omega)
              · have hl9 : ¬ (13005 : Int) < (Nn : Int) := by omega
                by_cases hful : d < N
                · have hf9 : (d : Int) < (N : Int) := by omega
                  have HPut : Hid (∀ v, Below v3.heap.size v3 v → Calls Try.prog 22 #[.pointer (some ⟨jp, 0, none⟩), .slice X Nn Cc] v fun e v' => ∃ V', e = .returned (.int .i64 2) ∧ v'.cell? ⟨wo.heap.size, 1, none⟩ = some (.slice X Nn Cc) ∧ Hid (Tl w v' p n jp (k + 1) gw none 0 E Vv M V')) := fun v hv => by
                    refine ((HH3.out.below hv).put_full X Nn Cc (by omega) (by rw [← HE.out, ← HN.out]; omega)).mono fun e v' ⟨q1, q2, q3⟩ => ⟨Vv, q1, HCell.out v' (hv.trans (q2.mono hv.size)), ?_⟩
                    rw [HE.out]; exact q3
                  clear HElt HLow HnK HSz
                  by_cases hdA : 255 < d
                  · have hd9 : (255 : Int) < (d : Int) := by omega
                    have hz : Zr = 13005 := by rw [HZr.out]; unfold roomZ; rw [← HE.out, if_neg (by omega), show n - E = d by omega, Nat.min_eq_right (by omega)]; rfl
                    have hdi := hdi9
                    have hr1 : Calls Try.prog 21 #[.pointer (some ⟨jp, 0, none⟩)] v3 fun e v' => e = .returned (.int .i64 (13005)) ∧ Below v3.heap.size v3 v' := by
                      have h := HRoom.out v3 (Below.refl _ _)
                      rwa [hz] at h
                    clear HRoom hz
                    go_wp2_with (first
                      | (go_at_call 21; refine hr1.mono ?_; rintro e v4 ⟨rfl, hb4⟩; clear hr1
                         have hc4 := HCell.out v4 hb4
                         have hp := HPut.out v4 hb4
                         clear hb4)
                      | (go_at_call 22; refine hp.mono ?_; rintro e v6 ⟨V', rfl, hc6, HT6⟩; clear hp))
                    go_loopw [19] (fun i wr => i = .int .i64 0 ∧ Hid (TlR w v6 wr n gw E Vv M 0)) (fun _ _ => 0)
                    case atStart => exact ⟨rfl, HT6.out.start⟩
                    case round =>
                      obtain ⟨rfl, HRt⟩ := hrel
                      have hF := HT6.out.fin HRt.out cw
                      clear HRt
                      go_wp2_with (first
                        | (go_at_call 15; refine hF.mono ?_; rintro e v8 ⟨g8, c8, rfl, hLi⟩; clear hF)
                        | (go_at_call 18; refine hLi.mono ?_; rintro e v9 ⟨rfl, HV⟩; clear hLi))
                      first
                        | exact ⟨⟨k + 1, jp, by omega, by omega, rfl, by go_num, HV.out⟩, show 100 - ((k : Int) + 1).toNat < 100 - ((k : Int)).toNat by omega⟩
                        | (go_roundw
                           case rel => exact ⟨k + 1, jp, by omega, by omega, rfl, by go_num, HV.out⟩
                           case measure => simp [intOf]; omega)
                  · by_cases hd0 : 0 < d
                    · have hd9 : ¬ (255 : Int) < (d : Int) := by omega
                      have hz : Zr = (d : Int) * 51 := by rw [HZr.out]; unfold roomZ; rw [← HE.out, if_neg (by omega), show n - E = d by omega, Nat.min_eq_left (by omega)]; omega
                      have hdi := hdi9
                      have hr1 : Calls Try.prog 21 #[.pointer (some ⟨jp, 0, none⟩)] v3 fun e v' => e = .returned (.int .i64 ((d : Int) * 51)) ∧ Below v3.heap.size v3 v' := by
                        have h := HRoom.out v3 (Below.refl _ _)
                        rwa [hz] at h
                      clear HRoom hz
                      go_wp2_with (first
                        | (go_at_call 21; refine hr1.mono ?_; rintro e v4 ⟨rfl, hb4⟩; clear hr1
                           have hc4 := HCell.out v4 hb4
                           have hp := HPut.out v4 hb4
                           clear hb4)
                        | (go_at_call 22; refine hp.mono ?_; rintro e v6 ⟨V', rfl, hc6, HT6⟩; clear hp))
                      go_loopw [19] (fun i wr => i = .int .i64 0 ∧ Hid (TlR w v6 wr n gw E Vv M 0)) (fun _ _ => 0)
                      case atStart => exact ⟨rfl, HT6.out.start⟩
                      case round =>
                        obtain ⟨rfl, HRt⟩ := hrel
                        have hF := HT6.out.fin HRt.out cw
                        clear HRt
                        go_wp2_with (first
                          | (go_at_call 15; refine hF.mono ?_; rintro e v8 ⟨g8, c8, rfl, hLi⟩; clear hF)
                          | (go_at_call 18; refine hLi.mono ?_; rintro e v9 ⟨rfl, HV⟩; clear hLi))
                        first
                          | exact ⟨⟨k + 1, jp, by omega, by omega, rfl, by go_num, HV.out⟩, show 100 - ((k : Int) + 1).toNat < 100 - ((k : Int)).toNat by omega⟩
                          | (go_roundw
                             case rel => exact ⟨k + 1, jp, by omega, by omega, rfl, by go_num, HV.out⟩
                             case measure => simp [intOf]; omega)
                    · have hdi : (n : Int) - (E : Int) = 0 := by omega
                      have hz : Zr = -1 := by rw [HZr.out]; unfold roomZ; rw [← HE.out, if_pos (by omega)]
                      clear hd hdi9
                      have hr1 : Calls Try.prog 21 #[.pointer (some ⟨jp, 0, none⟩)] v3 fun e v' => e = .returned (.int .i64 (-1)) ∧ Below v3.heap.size v3 v' := by
                        have h := HRoom.out v3 (Below.refl _ _)
                        rwa [hz] at h
                      have HR2 : Hid (∀ v, Below v3.heap.size v3 v → Calls Try.prog 21 #[.pointer (some ⟨jp, 0, none⟩)] v fun e v' => e = .returned (.int .i64 (-1)) ∧ Below v3.heap.size v3 v') := fun v hv => by
                        have h := HRoom.out v hv
                        rwa [hz] at h
                      clear HRoom hz
                      go_wp2_with (first
                        | (go_at_call 21; refine hr1.mono ?_; rintro e v4 ⟨rfl, hb4⟩; clear hr1
                           have hc4 := HCell.out v4 hb4
                           have hp := HPut.out v4 hb4
                           have hr2 := HR2.out v4 hb4
                           clear HR2 hb4)
                        | (go_at_call 21; refine hr2.mono ?_; rintro e v5 ⟨rfl, hb5⟩; clear hr2 hc4 hp
                           have hc5 := HCell.out v5 hb5
                           have hp := HPut.out v5 hb5
                           clear hb5)
                        | (go_at_call 22; refine hp.mono ?_; rintro e v6 ⟨V', rfl, hc6, HT6⟩; clear hp))
                      go_loopw [19] (fun i wr => i = .int .i64 0 ∧ Hid (TlR w v6 wr n gw E Vv M 0)) (fun _ _ => 0)
                      case atStart => exact ⟨rfl, HT6.out.start⟩
                      case round =>
                        obtain ⟨rfl, HRt⟩ := hrel
                        have hF := HT6.out.fin HRt.out cw
                        clear HRt
                        go_wp2_with (first
                          | (go_at_call 15; refine hF.mono ?_; rintro e v8 ⟨g8, c8, rfl, hLi⟩; clear hF)
                          | (go_at_call 18; refine hLi.mono ?_; rintro e v9 ⟨rfl, HV⟩; clear hLi))
                        first
                          | exact ⟨⟨k + 1, jp, by omega, by omega, rfl, by go_num, HV.out⟩, show 100 - ((k : Int) + 1).toNat < 100 - ((k : Int)).toNat by omega⟩
                          | (go_roundw
                             case rel => exact ⟨k + 1, jp, by omega, by omega, rfl, by go_num, HV.out⟩
                             case measure => simp [intOf]; omega)
                · have hf9 : ¬ (d : Int) < (N : Int) := by omega
                  have HPut : Hid (∀ v, Below v3.heap.size v3 v → Calls Try.prog 22 #[.pointer (some ⟨jp, 0, none⟩), .slice X Nn Cc] v fun e v' => ∃ V', e = .returned (.int .i64 0) ∧ v'.cell? ⟨wo.heap.size, 1, none⟩ = some (.slice X Nn Cc) ∧ Hid (Tl w v' p n jp (k + 1) gw y N E Vv M V')) := fun v hv => by
                    have hh := HH3.out.below hv
                    rw [HN.out] at hh ⊢
                    rw [HE.out]
                    refine (hh.put_ok X Cc Ff (HElt.out v hv) HLow.out (by omega) (by rw [← HE.out, ← HN.out]; omega) (by omega) HM.out).mono fun e v' ⟨V', q1, q2, q3⟩ => ⟨V', q1, (World.cell?_of_block (a := ⟨wo.heap.size, 1, none⟩) (q2.block wo.heap.size ?_ HnK.out)).trans (HCell.out v hv), q3⟩
                    have := HSz.out
                    have := hv.size
                    omega
                  clear HElt HLow HnK HSz
                  by_cases hdA : 255 < d
                  · have hd9 : (255 : Int) < (d : Int) := by omega
                    have hz : Zr = 13005 := by rw [HZr.out]; unfold roomZ; rw [← HE.out, if_neg (by omega), show n - E = d by omega, Nat.min_eq_right (by omega)]; rfl
                    have hdi := hdi9
                    have hr1 : Calls Try.prog 21 #[.pointer (some ⟨jp, 0, none⟩)] v3 fun e v' => e = .returned (.int .i64 (13005)) ∧ Below v3.heap.size v3 v' := by
                      have h := HRoom.out v3 (Below.refl _ _)
                      rwa [hz] at h
                    clear HRoom hz
                    go_wp2_with (first
                      | (go_at_call 21; refine hr1.mono ?_; rintro e v4 ⟨rfl, hb4⟩; clear hr1
                         have hc4 := HCell.out v4 hb4
                         have hp := HPut.out v4 hb4
                         clear hb4)
                      | (go_at_call 22; refine hp.mono ?_; rintro e v6 ⟨V', rfl, hc6, HT6⟩; clear hp))
                    go_loopw [19] (fun i wr => ∃ t : Nat, t ≤ N ∧ i = .int .i64 t ∧ Hid (TlR w v6 wr n gw E Vv M t)) (fun i _ => N - (intOf i).toNat)
                    case atStart => exact ⟨0, by omega, rfl, HT6.out.start⟩
                    case round =>
                      obtain ⟨t, htN, rfl, HRt⟩ := hrel
                      by_cases ht : t < N
                      · have ht' : (t : Int) < (N : Int) := by omega
                        obtain ⟨gy, x7, c7, u7, hy, hcy, hcw, hfz, hnx⟩ := HT6.out.step ht HRt.out
                        subst hy
                        obtain ⟨o, ho⟩ : ∃ o, o = E + t := ⟨_, rfl⟩
                        rw [← ho] at hcw hfz hnx
                        have hoi : (E : Int) + (t : Int) = (o : Int) := by omega
                        have hon : (o : Int) < (n : Int) := by omega
                        have HNX := hid hnx
                        clear hnx HRt ho
                        go_wp2_with fail
                        first
                          | exact ⟨⟨t + 1, by omega, by go_num, HNX.out⟩, by simp [intOf]; omega⟩
                          | (go_roundw
                             case rel => exact ⟨t + 1, by omega, by go_num, HNX.out⟩
                             case measure => simp [intOf]; omega)
                      · obtain rfl : t = N := by omega
                        have hF := HT6.out.fin HRt.out cw
                        clear HRt
                        go_wp2_with (first
                          | (go_at_call 15; refine hF.mono ?_; rintro e v8 ⟨g8, c8, rfl, hLi⟩; clear hF)
                          | (go_at_call 18; refine hLi.mono ?_; rintro e v9 ⟨rfl, HV⟩; clear hLi))
                        first
                          | exact ⟨⟨k + 1, jp, by omega, by omega, rfl, by go_num, HV.out⟩, show 100 - ((k : Int) + 1).toNat < 100 - ((k : Int)).toNat by omega⟩
                          | (go_roundw
                             case rel => exact ⟨k + 1, jp, by omega, by omega, rfl, by go_num, HV.out⟩
                             case measure => simp [intOf]; omega)
                  · have hd0 : 0 < d := by omega
                    have hd9 : ¬ (255 : Int) < (d : Int) := by omega
                    have hz : Zr = (d : Int) * 51 := by rw [HZr.out]; unfold roomZ; rw [← HE.out, if_neg (by omega), show n - E = d by omega, Nat.min_eq_left (by omega)]; omega
                    have hdi := hdi9
                    have hr1 : Calls Try.prog 21 #[.pointer (some ⟨jp, 0, none⟩)] v3 fun e v' => e = .returned (.int .i64 ((d : Int) * 51)) ∧ Below v3.heap.size v3 v' := by
                      have h := HRoom.out v3 (Below.refl _ _)
                      rwa [hz] at h
                    clear HRoom hz
                    go_wp2_with (first
                      | (go_at_call 21; refine hr1.mono ?_; rintro e v4 ⟨rfl, hb4⟩; clear hr1
                         have hc4 := HCell.out v4 hb4
                         have hp := HPut.out v4 hb4
                         clear hb4)
                      | (go_at_call 22; refine hp.mono ?_; rintro e v6 ⟨V', rfl, hc6, HT6⟩; clear hp))
                    go_loopw [19] (fun i wr => ∃ t : Nat, t ≤ N ∧ i = .int .i64 t ∧ Hid (TlR w v6 wr n gw E Vv M t)) (fun i _ => N - (intOf i).toNat)
                    case atStart => exact ⟨0, by omega, rfl, HT6.out.start⟩
                    case round =>
                      obtain ⟨t, htN, rfl, HRt⟩ := hrel
                      by_cases ht : t < N
                      · have ht' : (t : Int) < (N : Int) := by omega
                        obtain ⟨gy, x7, c7, u7, hy, hcy, hcw, hfz, hnx⟩ := HT6.out.step ht HRt.out
                        subst hy
                        obtain ⟨o, ho⟩ : ∃ o, o = E + t := ⟨_, rfl⟩
                        rw [← ho] at hcw hfz hnx
                        have hoi : (E : Int) + (t : Int) = (o : Int) := by omega
                        have hon : (o : Int) < (n : Int) := by omega
                        have HNX := hid hnx
                        clear hnx HRt ho
                        go_wp2_with fail
                        first
                          | exact ⟨⟨t + 1, by omega, by go_num, HNX.out⟩, by simp [intOf]; omega⟩
                          | (go_roundw
                             case rel => exact ⟨t + 1, by omega, by go_num, HNX.out⟩
                             case measure => simp [intOf]; omega)
                      · obtain rfl : t = N := by omega
                        have hF := HT6.out.fin HRt.out cw
                        clear HRt
                        go_wp2_with (first
                          | (go_at_call 15; refine hF.mono ?_; rintro e v8 ⟨g8, c8, rfl, hLi⟩; clear hF)
                          | (go_at_call 18; refine hLi.mono ?_; rintro e v9 ⟨rfl, HV⟩; clear hLi))
                        first
                          | exact ⟨⟨k + 1, jp, by omega, by omega, rfl, by go_num, HV.out⟩, show 100 - ((k : Int) + 1).toNat < 100 - ((k : Int)).toNat by omega⟩
                          | (go_roundw
                             case rel => exact ⟨k + 1, jp, by omega, by omega, rfl, by go_num, HV.out⟩
                             case measure => simp [intOf]; omega)

        · obtain ⟨K, Vv, g, m, st, ms, ln, ft, F, mm, f, A, D, R, Aa, C, hlf, hg⟩ := HR.out
          have HB3 := hid hlf.jd.dsk.bel
          have hex : (len : Int) ≤ (k : Int) ∨ ((k : Int) < (len : Int) ∧ (100 : Int) ≤ (k : Int)) := by omega
          clear hlf HR hlt HL
          rcases hex with hex | ⟨hex, hex2⟩
          all_goals
            go_wp2_with (first
              | (go_at_call 9; refine (jawake _).mono ?_; rintro e w9 ⟨rfl, hb9⟩))
            go_ret
            exact ⟨rfl, HB3.out.trans (hb9.mono HB3.out.size)⟩

set_option maxRecDepth 100000 in
theorem lifted (os : Os) (started : os.Started) (H : Type) (enc : TypeId × Value → H) :
    ReturnsInHanded {} Try.checked os 3 .any (Rows.journalActsSpec.pre6 enc Try.prog Try.f3 Rows.journalActsRow.domain false) (Rows.journalActsSpec.post enc Try.prog Try.f3 false true false false) := by
  refine returnsInHanded_of_change_sized (C := Try.checked) own started (by kernel_rfl) Try.func3
    (ChangeSpec.witness6 (enc := enc) (C := Try.checked) false ⟨#[], #[.int .i64 0, .slice none 0 0], []⟩ 8 (by kernel_rfl) (by kernel_rfl) (by kernel_rfl) (by kernel_rfl)) ?_
  intro W base args ds gs before hval0 hW hcnd hsz0 _
  have hsz : (DataW.weightsEach Try.prog (Try.f3.params.toList ++ Rows.journalActsSpec.plain.varTypes Try.prog) (ds ++ gs)).all (· ≤ reachBytes) = true := hsz0
  have hval : ∀ (j : Nat) t v, Try.f3.params[j]? = some t → args[j]? = some v → Value.okWide Try.prog W .any base t v := hval0
  have hW' := hW
  obtain ⟨p, q, hA0, hV, rfl, hfz, hnd⟩ := hW
  have hA : DataW.TrodAll enc Try.prog W 0 (fun _ => true) true Try.f3.params.toList args.toList ds p := hA0
  rw [Try.params3] at hA hval hsz
  obtain ⟨v0, vs0, d0, ds0, p0, q0, hargs, rfl, rfl, h0, r0⟩ := trodAll_cons hA
  obtain ⟨v1, vs1, d1, ds1, p1, q1, rfl, rfl, rfl, h1, r1⟩ := trodAll_cons r0
  obtain ⟨rfl, rfl, rfl⟩ := trodAll_nil r1
  obtain rfl : args = #[v0, v1] := by cases args; simp_all
  obtain ⟨rfl, rfl⟩ := trodVars_none hV
  obtain ⟨a0, rfl, rfl, rfl, w0⟩ := open_int Try.underlying3 (hval 0 3 v0 rfl rfl) h0
  have k1 := h1
  have lt1 : ∀ x ∈ p1, x.block < W.heap.size := by obtain ⟨m, hm⟩ := k1; exact DataW.trod_lt m _ _ _ hm
  have s1 : ∀ x ∈ d1.weights Try.prog 22, x ≤ reachBytes := fun x hx => by
    have := List.all_eq_true.1 hsz x (DataW.weights_mem_each (j := 1) rfl rfl x hx)
    simpa using this
  obtain ⟨b1, nn1, cc1, rfl⟩ := okWide_slice Try.underlying22 (hval 1 22 v1 rfl rfl)
  obtain ⟨fu1, hf1⟩ := h1
  obtain ⟨a1, len1, cap1, V1, e1, w1⟩ := acts_in hf1 s1
  simp [Value.cells] at e1
  obtain ⟨rfl, rfl, rfl⟩ := e1
  clear hA0 hval0
  refine (walk a0 b1 nn1 cc1 V1 W w0 w1).mono fun e W' ⟨he, bel⟩ => ?_
  subst he
  exact ⟨_, rfl, _, _, _, [], _, [], hW', trodAll_mk1 (shut_bool Try.underlying4 _), (trodAll_cons_mk (shut_int Try.underlying3 w0) (trodAll_cons_mk (Below.trod laidOut (by kernel_rfl) (of_decide_eq_true (by kernel_rfl)) k1 bel lt1) trodAll_mk0)), rfl, bel.frame _, fun h => by cases h⟩

theorem over : Rows.journalActsRow.holds Try.pinned (OpenSpec.ofChange Rows.journalActsSpec) :=
  OpenClaim.holds_of_wide 3 Try.f3 rfl rfl rfl rfl rfl rfl rfl ⟨rfl, rfl, rfl, rfl, rfl⟩ rfl rfl rfl rfl rfl (by kernel_rfl) Try.func3 (by kernel_rfl)
    (of_decide_eq_true (by kernel_rfl)) (by unfold Func.isWrapper; first | (rw [if_pos (by decide +kernel)]; kernel_rfl) | (rw [if_neg (by decide +kernel)]; exact ⟨rfl, rfl⟩))
    (fun os started H enc _ => lifted os started H enc)

theorem proved : Rows.JournalActsSaid := over
#print axioms proved
end Go.Proofs.Ythfpljfndnjcnaa.journalActs
