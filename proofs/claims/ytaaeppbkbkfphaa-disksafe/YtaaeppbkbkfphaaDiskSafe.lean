/-
  What was flushed, and neither written anew nor rotted, is there behind any crashes: 'mooringlaw07.DiskSafe' returns true and leaves its arguments as they were.
  Conditions: none.
-/
import Derived.Test.YtaaeppbkbkfphaaRows
import Derived.WalkKit
import Derived.ProofKit
import Derived.OpenShut
import Derived.SizedLaws
import Derived.ShutString
import Derived.ChangeOld
import Derived.Below
import Derived.Test.YtaaeppbkbkfphaaByRows
import Derived.Test.YtaaeppbkbkfphaaDkItem
import Derived.Test.YtaaeppbkbkfphaaDkAll
namespace Go.Proofs.Ytaaeppbkbkfphaa.diskSafe
open Go.ChangeShapes Go.WideShapes Go.ChangeAt Go.RowKit By
open Dk
set_option linter.unusedVariables false
set_option linter.unusedSimpArgs false

theorem own : ownKnob Try.prog.godebug = none := by kernel_rfl
theorem laidOut : laidOutB Try.prog = true := by kernel_rfl

set_option maxHeartbeats 8000000 in
set_option maxRecDepth 100000 in
theorem walk (a : Option Addr) (len cap : Nat) (V : Nat → ActV) (z : Int) (x : Option Addr) (l c : Nat) (g : Nat → Nat) (w : World) (hl : ActsIn w a len cap V) (hz : (Lit.int .i64 z).wf = true) (h : BytesIn w x l c g) :
    Calls Try.prog 4 #[.slice a len cap, .int .i64 z, .slice x l c] w fun e w' => e = .returned (.bool true) ∧ Below w.heap.size w w' := by
  have hN := dnew 8 8 rfl w (by omega) (by omega)
  obtain ⟨h0, hh0⟩ : ∃ h0 : Nat, h0 = len / 2 := ⟨_, rfl⟩
  have hq : (len : Int) / 2 = (h0 : Int) := by omega
  have hle0 : h0 ≤ len := by omega
  have hsm := hl.small
  have hbz := bounds_i64 hz
  have hll : l ≤ 140737488351232 := by have := h.le; have := h.small; omega
  have HL := hid hl
  have HX := hid h
  obtain ⟨hz1, hz2⟩ := hbz
  have hloop : ∀ (p k : Nat) (wr : World) (F : Nat → Prop) (m : Nat) (f A : Nat → Nat) (D : Nat → Nat → Nat), k < len → m < 1000 → Dsk w.heap.size w wr F p 8 m f A D →
      Calls Try.prog 17 #[.pointer (some ⟨p, 0, none⟩), .int .i64 (V k).at_, .slice (V k).x (V k).n (V k).c] wr.drew fun e w' => ∃ r : Int, e = .returned (.int .i64 r) ∧ ∃ F' m' A' D', Dsk w.heap.size w w' F' p 8 m' f A' D' ∧ m' ≤ m + 1 ∧ ∀ i, i < m' → (i < m ∧ A' i = A i) ∨ (A' i : Int) = (V k).at_ := fun p k wr F m f A D hk hm hd => by
    have hb := (hl.act k hk).bytes
    exact dwrite_all _ _ _ _ _ _ _ _ _ (V k).f _ _ _ w wr.drew hd.drew (hb.row.below hd.drew.bel) hb.lt hm
  have HLoop := hid hloop
  clear hl hz h hh0 hloop
  go_enter Try.func4, Try.ntmps4
  go_wp2_with (first
    | (go_at_call 7; refine hN.mono ?_; rintro e w1 ⟨p, F, rfl, d1⟩; clear hN; have HD1 := hid d1; clear d1))
  go_loopw [9] (fun i wr => ∃ k : Nat, k ≤ 200 ∧ k ≤ h0 ∧ i = .int .i64 k ∧ Hid (∃ F m A D, Dsk w.heap.size w wr F p 8 m (fun _ => 0) A D ∧ m ≤ k)) (fun i _ => 200 - (intOf i).toNat)
  case atStart => exact ⟨0, by omega, by omega, rfl, _, _, _, _, HD1.out, Nat.le_refl _⟩
  case round =>
    obtain ⟨k, hk2, hk, rfl, HR⟩ := hrel
    clear HD1
    by_cases hlt : k < h0 ∧ k < 200
    · obtain ⟨hlt1, hlt2⟩ := hlt
      have hk1' : (k : Int) < (h0 : Int) := by omega
      have hk2' : (k : Int) < 200 := by omega
      have hklen : k < len := by omega
      obtain ⟨F1, m, A, D, hd, hm⟩ := HR.out
      rcases HL.out.row with h0' | ⟨b, o, rfl, hbl, hcells⟩
      · omega
      obtain ⟨_, f1, f2, _, _⟩ := hcells k hklen
      have hcl : ∀ v, Below w.heap.size w v → v.cell? ⟨b, o + k * 5 + 1, none⟩ = some (.int .i64 (V k).at_) ∧ v.cell? ⟨b, o + k * 5 + 2, none⟩ = some (.slice (V k).x (V k).n (V k).c) := fun v hv => ⟨(hv.cell (p := ⟨b, o + k * 5 + 1, none⟩) hbl).trans f1, (hv.cell (p := ⟨b, o + k * 5 + 2, none⟩) hbl).trans f2⟩
      have hS0 := hcl _ hd.drew.bel
      have hcall := HLoop.out p k wr F1 m _ A D hklen (by omega) hd
      have HCL := hid hcl
      have HM := hid hm
      clear hd HR f1 f2 hcells hcl hm
      generalize (V k).at_ = At at *
      generalize (V k).x = X at *
      generalize (V k).n = Nn at *
      generalize (V k).c = Cc at *
      go_wp2_with fail
      refine wp_region_held_drew (S := fun v => v.cell? ⟨b, o + k * 5 + 1, none⟩ = some (.int .i64 At) ∧ v.cell? ⟨b, o + k * 5 + 2, none⟩ = some (.slice X Nn Cc)) (by kernel_rfl) hS0 (fun hHeld => ?_)
      refine wpAnyH_take (i := 0) (v := ?_) rfl (by kernel_rfl) (by kernel_rfl) (by kernel_rfl) (fun _ _ _ h => h) (Or.inl ⟨by rfl, ?_⟩) (by assumption) ?_
      case refine_2 => (intro w hSw; (try dsimp only at hSw); go_simp; (try with_reducible rfl))
      (try simp only [Act.put, List.getElem_toArray, List.getElem_cons_succ, List.getElem_cons_zero, List.setIfInBounds_toArray, List.set_cons_zero, List.set_cons_succ])
      refine wpAnyH_take (i := 1) (v := ?_) rfl (by kernel_rfl) (by kernel_rfl) (by kernel_rfl) (fun _ _ _ h => h) (Or.inl ⟨by rfl, ?_⟩) (by assumption) ?_
      case refine_2 => (intro w hSw; (try dsimp only at hSw); go_simp; (try with_reducible rfl))
      (try simp only [Act.put, List.getElem_toArray, List.getElem_cons_succ, List.getElem_cons_zero, List.setIfInBounds_toArray, List.set_cons_zero, List.set_cons_succ])
      refine wpAnyH_take (i := 2) (v := ?_) rfl (by kernel_rfl) (by kernel_rfl) (by kernel_rfl) (fun _ _ _ h => h) (Or.inl ⟨by rfl, ?_⟩) (by assumption) ?_
      case refine_2 => (intro w hSw; (try dsimp only at hSw); go_simp; (try with_reducible rfl))
      (try simp only [Act.put, List.getElem_toArray, List.getElem_cons_succ, List.getElem_cons_zero, List.setIfInBounds_toArray, List.set_cons_zero, List.set_cons_succ])
      refine wpAnyH_take (i := 3) (v := ?_) rfl (by kernel_rfl) (by kernel_rfl) (by kernel_rfl) (fun _ _ _ h => h) (Or.inl ⟨by rfl, ?_⟩) (by assumption) ?_
      case refine_2 => (intro w hSw; (try dsimp only at hSw); go_simp; (try with_reducible rfl))
      (try simp only [Act.put, List.getElem_toArray, List.getElem_cons_succ, List.getElem_cons_zero, List.setIfInBounds_toArray, List.set_cons_zero, List.set_cons_succ])
      refine wpAnyH_take (i := 4) (v := ?_) rfl (by kernel_rfl) (by kernel_rfl) (by kernel_rfl) (fun _ _ _ h => h) (Or.inl ⟨by rfl, ?_⟩) (by assumption) ?_
      case refine_2 => (intro w hSw; (try dsimp only at hSw); go_simp; (try with_reducible rfl))
      (try simp only [Act.put, List.getElem_toArray, List.getElem_cons_succ, List.getElem_cons_zero, List.setIfInBounds_toArray, List.set_cons_zero, List.set_cons_succ])
      refine wpAnyH_take (i := 5) (v := ?_) rfl (by kernel_rfl) (by kernel_rfl) (by kernel_rfl) (fun _ _ _ h => h) (Or.inl ⟨by rfl, ?_⟩) (by assumption) ?_
      case refine_2 => (intro w hSw; (try dsimp only at hSw); go_simp; (try with_reducible rfl))
      (try simp only [Act.put, List.getElem_toArray, List.getElem_cons_succ, List.getElem_cons_zero, List.setIfInBounds_toArray, List.set_cons_zero, List.set_cons_succ])
      refine wpAnyH_take (i := 6) (v := ?_) rfl (by kernel_rfl) (by kernel_rfl) (by kernel_rfl) (fun _ _ _ h => h) (Or.inl ⟨by rfl, ?_⟩) (by assumption) ?_
      case refine_2 => (intro w hSw; (try dsimp only at hSw); go_simp; (try with_reducible rfl))
      (try simp only [Act.put, List.getElem_toArray, List.getElem_cons_succ, List.getElem_cons_zero, List.setIfInBounds_toArray, List.set_cons_zero, List.set_cons_succ])
      refine wpAnyH_take (i := 7) (v := ?_) rfl (by kernel_rfl) (by kernel_rfl) (by kernel_rfl) (fun _ _ _ h => h) (Or.inl ⟨by rfl, ?_⟩) (by assumption) ?_
      case refine_2 => (intro w hSw; (try dsimp only at hSw); go_simp; (try with_reducible rfl))
      (try simp only [Act.put, List.getElem_toArray, List.getElem_cons_succ, List.getElem_cons_zero, List.setIfInBounds_toArray, List.set_cons_zero, List.set_cons_succ])
      refine wpAnyH_take (i := 8) (v := ?_) rfl (by kernel_rfl) (by kernel_rfl) (by kernel_rfl) (fun _ _ _ h => h) (Or.inl ⟨by rfl, ?_⟩) (by assumption) ?_
      case refine_2 => (intro w hSw; (try dsimp only at hSw); go_simp; (try with_reducible rfl))
      (try simp only [Act.put, List.getElem_toArray, List.getElem_cons_succ, List.getElem_cons_zero, List.setIfInBounds_toArray, List.set_cons_zero, List.set_cons_succ])
      refine wpAnyH_take (i := 9) (v := ?_) rfl (by kernel_rfl) (by kernel_rfl) (by kernel_rfl) (fun _ _ _ h => h) (Or.inl ⟨by rfl, ?_⟩) (by assumption) ?_
      case refine_2 => (intro w hSw; (try dsimp only at hSw); go_simp; (try with_reducible rfl))
      (try simp only [Act.put, List.getElem_toArray, List.getElem_cons_succ, List.getElem_cons_zero, List.setIfInBounds_toArray, List.set_cons_zero, List.set_cons_succ])
      refine wpAnyH_take (i := 10) (v := ?_) rfl (by kernel_rfl) (by kernel_rfl) (by kernel_rfl) (fun _ _ _ h => h) (Or.inl ⟨by rfl, ?_⟩) (by assumption) ?_
      case refine_2 => (intro w hSw; (try dsimp only at hSw); go_simp; (try with_reducible rfl))
      (try simp only [Act.put, List.getElem_toArray, List.getElem_cons_succ, List.getElem_cons_zero, List.setIfInBounds_toArray, List.set_cons_zero, List.set_cons_succ])
      refine wpAnyH_ready (rs := [11]) (by kernel_rfl) (by simp) ?_
      refine AllReadyH.cons rfl (fun K hK => ?_) AllReadyH.nil
      go_simp
      refine hcall.mono ?_
      rintro e v ⟨r, rfl, F', m', A', D', hd', hm', _⟩
      refine hK.out _ _ (HCL.out v hd'.bel) (fun hHeld => ?_)
      clear hK K
      refine wpAnyH_done (by kernel_rfl) ?_ _
      have HN : Hid (∃ F m A D, Dsk w.heap.size w v F p 8 m (fun _ => 0) A D ∧ m ≤ k + 1) := ⟨F', m', A', D', hd', by have := HM.out; omega⟩
      clear hd' hm' hcall
      go_wp2_with fail
      go_roundw
      case rel => exact ⟨k + 1, by omega, by omega, by go_num, HN⟩
      case measure => simp [intOf]; omega
    · obtain ⟨F1, m, A, D, hd, hm⟩ := HR.out
      have hm2 : m < 1000 := by omega
      have HD := hid hd
      have HM := hid hm2
      obtain ⟨w2, hw2⟩ : ∃ w2, w2 = wr := ⟨_, rfl⟩
      subst hw2
      have hex : (h0 : Int) ≤ (k : Int) ∨ ((k : Int) < (h0 : Int) ∧ (200 : Int) ≤ (k : Int)) := by omega
      by_cases hy : 0 ≤ z ∧ z < 8 ∧ l = 64
      · obtain ⟨y1, y2, rfl⟩ := hy
        obtain ⟨at_, rfl⟩ : ∃ a : Nat, z = (a : Int) := ⟨z.toNat, by omega⟩
        have hat : at_ < 8 := by omega
        have hW := dwrite _ _ _ _ at_ c _ _ _ g _ x (at_ : Int) rfl w w2 hd hat (HX.out.row.below hd.bel) HX.out.lt hm2
        obtain ⟨S, hS⟩ : ∃ S, S = strOfNums (nums g 64) := ⟨_, rfl⟩
        have HS := hid hS
        clear hd HR hm hm2 hlt hS y1 y2 hz1 hz2
        have hfl : ∀ v F2, Dsk w.heap.size w v F2 p 8 0 (kept (fun _ => 0) (ext A m at_) (ext D m g) (fun _ => true) (m + 1)) (ext A m at_) (ext D m g) → Hid (∃ F m f A D, Dsk w.heap.size w v F p 8 m f A D ∧ m ≤ h0 ∧ (∀ j, j < 64 → sec f at_ j = g j) ∧ ∀ i, i < m → A i ≠ at_) := fun v F2 hv => ⟨F2, 0, _, _, _, hv, Nat.zero_le _, fun j hj => by rw [kept_all _ _ _ _ _ j hj, now_ext]; simp, fun i hi => by omega⟩
        rcases hex with hex | ⟨hex1, hex2⟩
        all_goals
          go_wp2_with (first
            | (go_at_call 17; refine hW.mono ?_; rintro e w3 ⟨rfl, t3, d3⟩; clear hW t3
               have hF1 := dflush _ _ _ _ _ _ _ _ w w3 d3
               clear d3)
            | (go_at_call 18; refine hF1.mono ?_; rintro e w4 ⟨rfl, t4, d4⟩; clear hF1 t4
               have HD4 := hfl _ _ d4
               clear d4 hfl))
          go_loopw [10] (fun i wr => ∃ k : Nat, h0 ≤ k ∧ k ≤ len ∧ i = .int .i64 k ∧ Hid (∃ F m f A D, Dsk w.heap.size w wr F p 8 m f A D ∧ m ≤ k ∧ (∀ j, j < 64 → sec f at_ j = g j) ∧ ∀ i, i < m → A i ≠ at_)) (fun i _ => len - (intOf i).toNat)
          case atStart => exact ⟨h0, Nat.le_refl _, hle0, rfl, HD4⟩
          case round =>
            obtain ⟨q, hq0, hq1, rfl, HR⟩ := hrel
            clear HD4 HD HM
            by_cases hlt : q < len ∧ q < 400
            · obtain ⟨hlt1, hlt2⟩ := hlt
              have hq1' : (q : Int) < (len : Int) := by omega
              have hq2' : (q : Int) < 400 := by omega
              obtain ⟨F1, m, f, A, D, hd, hm, hf, hA⟩ := HR.out
              rcases HL.out.row with h0' | ⟨b, o, rfl, hbl, hcells⟩
              · omega
              obtain ⟨f0, f1, f2, _, f4⟩ := hcells q hlt1
              have hcl : ∀ v, Below w.heap.size w v → v.cell? ⟨b, o + q * 5 + 1, none⟩ = some (.int .i64 (V q).at_) ∧ v.cell? ⟨b, o + q * 5 + 2, none⟩ = some (.slice (V q).x (V q).n (V q).c) := fun v hv => ⟨(hv.cell (p := ⟨b, o + q * 5 + 1, none⟩) hbl).trans f1, (hv.cell (p := ⟨b, o + q * 5 + 2, none⟩) hbl).trans f2⟩
              have k0 := (hd.bel.cell (p := ⟨b, o + q * 5, none⟩) hbl).trans f0
              have k1 := (hcl _ hd.bel).1
              have k4 := (hd.bel.cell (p := ⟨b, o + q * 5 + 4, none⟩) hbl).trans f4
              have hS0 := hcl _ hd.drew.bel
              have hcut := (HL.out.act q hlt1).cut
              by_cases hdo : (V q).do_ = 3
              · rw [hdo] at k0
                have hC := dcrash _ _ _ _ (V q).l (V q).k _ _ _ _ (V q).u (V q).h w wr hd (hcut.row.below hd.bel) (hcut.row.far hd.foot) (by have := hcut.small; omega)
                have HN : ∀ v, Dsk w.heap.size w v F1 p 8 0 (kept f A D (cutB (V q).l (V q).h) m) A D → Hid (∃ F m f A D, Dsk w.heap.size w v F p 8 m f A D ∧ m ≤ q + 1 ∧ (∀ j, j < 64 → sec f at_ j = g j) ∧ ∀ i, i < m → A i ≠ at_) := fun v hv => ⟨F1, 0, _, _, _, hv, Nat.zero_le _, fun j hj => (kept_away _ _ m hA j hj).trans (hf j hj), fun i hi => by omega⟩
                clear hd hm hf hA HR hcells f0 f1 f2 f4 hcl hS0 hcut k1 hdo
                generalize (V q).u = U at *
                generalize (V q).l = Lc at *
                generalize (V q).k = Kc at *
                go_wp2_with ((go_at_call 19; refine hC.mono ?_; rintro e v ⟨rfl, _, hv⟩; have HV := HN v hv; clear hC HN hv))
                go_roundw
                case rel => exact ⟨q + 1, by omega, by omega, by go_num, HV⟩
                case measure => simp [intOf]; omega
              · have hdo' : ((V q).do_ == 3) = false := by simpa using hdo
                by_cases hne : (V q).at_ = (at_ : Int)
                · rw [hne] at k1
                  have HV : Hid (∃ F m f A D, Dsk w.heap.size w wr F p 8 m f A D ∧ m ≤ q + 1 ∧ (∀ j, j < 64 → sec f at_ j = g j) ∧ ∀ i, i < m → A i ≠ at_) := ⟨F1, m, f, A, D, hd, by omega, hf, hA⟩
                  clear hd hm hf hA HR hcells f0 f1 f2 f4 hcl hS0 hcut k4 hdo hne
                  generalize (V q).do_ = Do at *
                  go_wp2_with fail
                  go_roundw
                  case rel => exact ⟨q + 1, by omega, by omega, by go_num, HV⟩
                  case measure => simp [intOf]; omega
                · have hne' : ((V q).at_ == (at_ : Int)) = false := by simpa using hne
                  have hcall := HLoop.out p q wr F1 m f A D hlt1 (by omega) hd
                  have HCL := hid hcl
                  have HN : ∀ v, (∃ F' m' A' D', Dsk w.heap.size w v F' p 8 m' f A' D' ∧ m' ≤ m + 1 ∧ ∀ i, i < m' → (i < m ∧ A' i = A i) ∨ (A' i : Int) = (V q).at_) → Hid ((∃ F m f A D, Dsk w.heap.size w v F p 8 m f A D ∧ m ≤ q + 1 ∧ (∀ j, j < 64 → sec f at_ j = g j) ∧ ∀ i, i < m → A i ≠ at_) ∧ Below w.heap.size w v) := fun v ⟨F', m', A', D', hd', hm', hA'⟩ => ⟨⟨F', m', f, A', D', hd', by omega, hf, fun i hi e => by
                    rcases hA' i hi with ⟨g1, g2⟩ | g1
                    · exact hA i g1 (g2.symm.trans e)
                    · exact hne (by rw [← g1, e])⟩, hd'.bel⟩
                  clear hd hm hf hA HR hcells f0 f1 f2 f4 hcl hcut k4 hdo hne
                  generalize (V q).do_ = Do at *
                  generalize (V q).at_ = At at *
                  generalize (V q).x = X at *
                  generalize (V q).n = Nn at *
                  generalize (V q).c = Cc at *
                  go_wp2_with fail
                  refine wp_region_held_drew (S := fun v => v.cell? ⟨b, o + q * 5 + 1, none⟩ = some (.int .i64 At) ∧ v.cell? ⟨b, o + q * 5 + 2, none⟩ = some (.slice X Nn Cc)) (by kernel_rfl) hS0 (fun hHeld => ?_)
                  refine wpAnyH_take (i := 0) (v := ?_) rfl (by kernel_rfl) (by kernel_rfl) (by kernel_rfl) (fun _ _ _ h => h) (Or.inl ⟨by rfl, ?_⟩) (by assumption) ?_
                  case refine_2 => (intro w hSw; (try dsimp only at hSw); go_simp; (try with_reducible rfl))
                  (try simp only [Act.put, List.getElem_toArray, List.getElem_cons_succ, List.getElem_cons_zero, List.setIfInBounds_toArray, List.set_cons_zero, List.set_cons_succ])
                  refine wpAnyH_take (i := 1) (v := ?_) rfl (by kernel_rfl) (by kernel_rfl) (by kernel_rfl) (fun _ _ _ h => h) (Or.inl ⟨by rfl, ?_⟩) (by assumption) ?_
                  case refine_2 => (intro w hSw; (try dsimp only at hSw); go_simp; (try with_reducible rfl))
                  (try simp only [Act.put, List.getElem_toArray, List.getElem_cons_succ, List.getElem_cons_zero, List.setIfInBounds_toArray, List.set_cons_zero, List.set_cons_succ])
                  refine wpAnyH_take (i := 2) (v := ?_) rfl (by kernel_rfl) (by kernel_rfl) (by kernel_rfl) (fun _ _ _ h => h) (Or.inl ⟨by rfl, ?_⟩) (by assumption) ?_
                  case refine_2 => (intro w hSw; (try dsimp only at hSw); go_simp; (try with_reducible rfl))
                  (try simp only [Act.put, List.getElem_toArray, List.getElem_cons_succ, List.getElem_cons_zero, List.setIfInBounds_toArray, List.set_cons_zero, List.set_cons_succ])
                  refine wpAnyH_take (i := 3) (v := ?_) rfl (by kernel_rfl) (by kernel_rfl) (by kernel_rfl) (fun _ _ _ h => h) (Or.inl ⟨by rfl, ?_⟩) (by assumption) ?_
                  case refine_2 => (intro w hSw; (try dsimp only at hSw); go_simp; (try with_reducible rfl))
                  (try simp only [Act.put, List.getElem_toArray, List.getElem_cons_succ, List.getElem_cons_zero, List.setIfInBounds_toArray, List.set_cons_zero, List.set_cons_succ])
                  refine wpAnyH_take (i := 4) (v := ?_) rfl (by kernel_rfl) (by kernel_rfl) (by kernel_rfl) (fun _ _ _ h => h) (Or.inl ⟨by rfl, ?_⟩) (by assumption) ?_
                  case refine_2 => (intro w hSw; (try dsimp only at hSw); go_simp; (try with_reducible rfl))
                  (try simp only [Act.put, List.getElem_toArray, List.getElem_cons_succ, List.getElem_cons_zero, List.setIfInBounds_toArray, List.set_cons_zero, List.set_cons_succ])
                  refine wpAnyH_take (i := 5) (v := ?_) rfl (by kernel_rfl) (by kernel_rfl) (by kernel_rfl) (fun _ _ _ h => h) (Or.inl ⟨by rfl, ?_⟩) (by assumption) ?_
                  case refine_2 => (intro w hSw; (try dsimp only at hSw); go_simp; (try with_reducible rfl))
                  (try simp only [Act.put, List.getElem_toArray, List.getElem_cons_succ, List.getElem_cons_zero, List.setIfInBounds_toArray, List.set_cons_zero, List.set_cons_succ])
                  refine wpAnyH_take (i := 6) (v := ?_) rfl (by kernel_rfl) (by kernel_rfl) (by kernel_rfl) (fun _ _ _ h => h) (Or.inl ⟨by rfl, ?_⟩) (by assumption) ?_
                  case refine_2 => (intro w hSw; (try dsimp only at hSw); go_simp; (try with_reducible rfl))
                  (try simp only [Act.put, List.getElem_toArray, List.getElem_cons_succ, List.getElem_cons_zero, List.setIfInBounds_toArray, List.set_cons_zero, List.set_cons_succ])
                  refine wpAnyH_take (i := 7) (v := ?_) rfl (by kernel_rfl) (by kernel_rfl) (by kernel_rfl) (fun _ _ _ h => h) (Or.inl ⟨by rfl, ?_⟩) (by assumption) ?_
                  case refine_2 => (intro w hSw; (try dsimp only at hSw); go_simp; (try with_reducible rfl))
                  (try simp only [Act.put, List.getElem_toArray, List.getElem_cons_succ, List.getElem_cons_zero, List.setIfInBounds_toArray, List.set_cons_zero, List.set_cons_succ])
                  refine wpAnyH_take (i := 8) (v := ?_) rfl (by kernel_rfl) (by kernel_rfl) (by kernel_rfl) (fun _ _ _ h => h) (Or.inl ⟨by rfl, ?_⟩) (by assumption) ?_
                  case refine_2 => (intro w hSw; (try dsimp only at hSw); go_simp; (try with_reducible rfl))
                  (try simp only [Act.put, List.getElem_toArray, List.getElem_cons_succ, List.getElem_cons_zero, List.setIfInBounds_toArray, List.set_cons_zero, List.set_cons_succ])
                  refine wpAnyH_take (i := 9) (v := ?_) rfl (by kernel_rfl) (by kernel_rfl) (by kernel_rfl) (fun _ _ _ h => h) (Or.inl ⟨by rfl, ?_⟩) (by assumption) ?_
                  case refine_2 => (intro w hSw; (try dsimp only at hSw); go_simp; (try with_reducible rfl))
                  (try simp only [Act.put, List.getElem_toArray, List.getElem_cons_succ, List.getElem_cons_zero, List.setIfInBounds_toArray, List.set_cons_zero, List.set_cons_succ])
                  refine wpAnyH_take (i := 10) (v := ?_) rfl (by kernel_rfl) (by kernel_rfl) (by kernel_rfl) (fun _ _ _ h => h) (Or.inl ⟨by rfl, ?_⟩) (by assumption) ?_
                  case refine_2 => (intro w hSw; (try dsimp only at hSw); go_simp; (try with_reducible rfl))
                  (try simp only [Act.put, List.getElem_toArray, List.getElem_cons_succ, List.getElem_cons_zero, List.setIfInBounds_toArray, List.set_cons_zero, List.set_cons_succ])
                  refine wpAnyH_ready (rs := [11]) (by kernel_rfl) (by simp) ?_
                  refine AllReadyH.cons rfl (fun K hK => ?_) AllReadyH.nil
                  go_simp
                  refine hcall.mono ?_
                  rintro e v ⟨r, rfl, hv⟩
                  have HV := HN v hv
                  refine hK.out _ _ (HCL.out v HV.out.2) (fun hHeld => ?_)
                  clear hK K
                  refine wpAnyH_done (by kernel_rfl) ?_ _
                  clear hv hcall HN
                  go_wp2_with fail
                  go_roundw
                  case rel => exact ⟨q + 1, by omega, by omega, by go_num, HV.out.1⟩
                  case measure => simp [intOf]; omega
            · obtain ⟨F1, m, f, A, D, hd, hm, hf, hA⟩ := HR.out
              have hC := dcrash _ _ _ _ 0 0 _ _ _ _ none (fun _ => false) w wr hd (.inl rfl) (fun h => absurd rfl h) (by omega)
              have HFA : Hid (∀ j, j < 64 → sec (kept f A D (cutB 0 (fun _ => false)) m) at_ j = g j) := fun j hj => (kept_away _ _ m hA j hj).trans (hf j hj)
              have hex2 : (len : Int) ≤ (q : Int) ∨ ((q : Int) < (len : Int) ∧ (400 : Int) ≤ (q : Int)) := by omega
              clear hd hm hf hA HR hlt HLoop HL
              obtain ⟨fk, hfk⟩ : ∃ fk, fk = kept f A D (cutB 0 (fun _ => false)) m := ⟨_, rfl⟩
              rw [← hfk] at hC HFA
              clear hfk
              rcases hex2 with hex2 | ⟨hex2, hex3⟩
              all_goals
                go_wp2_with (first
                  | (go_at_call 19; refine hC.mono ?_; rintro e w5 ⟨rfl, _, d5⟩; clear hC
                     have hR1 := dread _ _ _ _ at_ _ _ _ _ (at_ : Int) rfl w w5 d5 hat
                     clear d5)
                  | (go_at_call 12; refine hR1.mono ?_; rintro e w6 ⟨rfl, b6, d6, k6⟩; clear hR1
                     have HB6 := hid d6.bel
                     have v1 : (convert 32 9 (.slice (some ⟨w5.heap.size, 0, none⟩) 64 64)).run Try.prog w6 = .ok (.string S) w6 := by
                       rw [conv_row w6 _ 64 64 _ k6.row, HS.out, str_congr (g := g) fun i hi => by rw [now_zero]; exact HFA.out i hi]
                     have v2 : (convert 32 9 (.slice x 64 c)).run Try.prog w6 = .ok (.string S) w6 := by
                       rw [conv_row w6 _ 64 c g (HX.out.row.below d6.bel), HS.out]
                     clear b6 d6 k6)
                  | (go_at_call 9; refine (awake_any _).mono ?_; rintro e w9 ⟨rfl, hb9⟩))
                go_ret
                exact ⟨rfl, HB6.out.trans (hb9.mono HB6.out.size)⟩
      · have hW := dwrite_no _ _ _ _ l c _ _ _ _ x z w w2 hd hy
        have HB2 := hid hd.bel
        have hcs : z < 0 ∨ (0 ≤ z ∧ 8 ≤ z) ∨ (0 ≤ z ∧ z < 8 ∧ ((l : Int) != 64) = true) := by
          by_cases e0 : z < 0
          · exact .inl e0
          · by_cases e1 : 8 ≤ z
            · exact .inr (.inl ⟨by omega, e1⟩)
            · refine .inr (.inr ⟨by omega, by omega, ?_⟩)
              have hne : ¬ (l : Int) = 64 := fun e => hy ⟨by omega, by omega, by omega⟩
              simpa using hne
        clear hd HR hm hm2 hlt HD HM HLoop HL HX hy
        rcases hex with hex | ⟨hex1, hex2⟩ <;> rcases hcs with hcs | ⟨hcs, hcs2⟩ | ⟨hcs, hcs2, hcs3⟩
        all_goals
          go_wp2_with (first
            | (go_at_call 17; refine hW.mono ?_; rintro e w' ⟨rfl, hw⟩; subst w'; clear hW)
            | (go_at_call 9; refine (awake_any _).mono ?_; rintro e w9 ⟨rfl, hb9⟩))
          go_ret
          exact ⟨rfl, HB2.out.trans (hb9.mono HB2.out.size)⟩

set_option maxRecDepth 100000 in
theorem lifted (os : Os) (started : os.Started) (H : Type) (enc : TypeId × Value → H) :
    ReturnsInHanded {} Try.checked os 4 .any (Rows.diskSafeSpec.pre6 enc Try.prog Try.f4 Rows.diskSafeRow.domain false) (Rows.diskSafeSpec.post enc Try.prog Try.f4 false true false false) := by
  refine returnsInHanded_of_change_sized (C := Try.checked) own started (by kernel_rfl) Try.func4
    (ChangeSpec.witness6 (enc := enc) (C := Try.checked) false ⟨#[], #[.slice none 0 0, .int .i64 0, .slice none 0 0], []⟩ 8 (by kernel_rfl) (by kernel_rfl) (by kernel_rfl) (by kernel_rfl)) ?_
  intro W base args ds gs before hval0 hW hcnd hsz0 _
  have hsz : (DataW.weightsEach Try.prog (Try.f4.params.toList ++ Rows.diskSafeSpec.plain.varTypes Try.prog) (ds ++ gs)).all (· ≤ reachBytes) = true := hsz0
  have hval : ∀ (j : Nat) t v, Try.f4.params[j]? = some t → args[j]? = some v → Value.okWide Try.prog W .any base t v := hval0
  have hW' := hW
  obtain ⟨p, q, hA0, hV, rfl, hfz, hnd⟩ := hW
  have hA : DataW.TrodAll enc Try.prog W 0 (fun _ => true) true Try.f4.params.toList args.toList ds p := hA0
  rw [Try.params4] at hA hval hsz
  obtain ⟨v0, vs0, d0, ds0, p0, q0, hargs, rfl, rfl, h0, r0⟩ := trodAll_cons hA
  obtain ⟨v1, vs1, d1, ds1, p1, q1, rfl, rfl, rfl, h1, r1⟩ := trodAll_cons r0
  obtain ⟨v2, vs2, d2, ds2, p2, q2, rfl, rfl, rfl, h2, r2⟩ := trodAll_cons r1
  obtain ⟨rfl, rfl, rfl⟩ := trodAll_nil r2
  obtain rfl : args = #[v0, v1, v2] := by cases args; simp_all
  obtain ⟨rfl, rfl⟩ := trodVars_none hV
  have k0 := h0
  have lt0 : ∀ x ∈ p0, x.block < W.heap.size := by obtain ⟨m, hm⟩ := k0; exact DataW.trod_lt m _ _ _ hm
  have s0 : ∀ x ∈ d0.weights Try.prog 22, x ≤ reachBytes := fun x hx => by
    have := List.all_eq_true.1 hsz x (DataW.weights_mem_each (j := 0) rfl rfl x hx)
    simpa using this
  obtain ⟨b0, nn0, cc0, rfl⟩ := okWide_slice Try.underlying22 (hval 0 22 v0 rfl rfl)
  obtain ⟨fu0, hf0⟩ := h0
  obtain ⟨a0, len0, cap0, V0, e0, w0⟩ := acts_in hf0 s0
  simp [Value.cells] at e0
  obtain ⟨rfl, rfl, rfl⟩ := e0
  obtain ⟨a1, rfl, rfl, rfl, w1⟩ := open_int Try.underlying3 (hval 1 3 v1 rfl rfl) h1
  have k2 := h2
  have lt2 : ∀ x ∈ p2, x.block < W.heap.size := by obtain ⟨m, hm⟩ := k2; exact DataW.trod_lt m _ _ _ hm
  have s2 : ∀ x ∈ d2.weights Try.prog 32, x ≤ reachBytes := fun x hx => by
    have := List.all_eq_true.1 hsz x (DataW.weights_mem_each (j := 2) rfl rfl x hx)
    simpa using this
  obtain ⟨b2, nn2, cc2, rfl⟩ := okWide_slice Try.underlying32 (hval 2 32 v2 rfl rfl)
  obtain ⟨fu2, hf2⟩ := h2
  obtain ⟨a2, len2, cap2, f2, e2, w2⟩ := bytes_in hf2 s2
  simp [Value.cells] at e2
  obtain ⟨rfl, rfl, rfl⟩ := e2
  clear hA0 hval0
  refine (walk b0 nn0 cc0 V0 a1 b2 nn2 cc2 f2 W w0 w1 w2).mono fun e W' ⟨he, bel⟩ => ?_
  subst he
  exact ⟨_, rfl, _, _, _, [], _, [], hW', trodAll_mk1 (shut_bool Try.underlying4 _), (trodAll_cons_mk (Below.trod laidOut (by kernel_rfl) (of_decide_eq_true (by kernel_rfl)) k0 bel lt0) (trodAll_cons_mk (shut_int Try.underlying3 w1) (trodAll_cons_mk (Below.trod laidOut (by kernel_rfl) (of_decide_eq_true (by kernel_rfl)) k2 bel lt2) trodAll_mk0))), rfl, bel.frame _, fun h => by cases h⟩

theorem over : Rows.diskSafeRow.holds Try.pinned (OpenSpec.ofChange Rows.diskSafeSpec) :=
  OpenClaim.holds_of_wide 4 Try.f4 rfl rfl rfl rfl rfl rfl rfl ⟨rfl, rfl, rfl, rfl, rfl⟩ rfl rfl rfl rfl rfl (by kernel_rfl) Try.func4 (by kernel_rfl)
    (of_decide_eq_true (by kernel_rfl)) (by unfold Func.isWrapper; first | (rw [if_pos (by decide +kernel)]; kernel_rfl) | (rw [if_neg (by decide +kernel)]; exact ⟨rfl, rfl⟩))
    (fun os started H enc _ => lifted os started H enc)

theorem proved : Rows.DiskSafeSaid := over
#print axioms proved
end Go.Proofs.Ytaaeppbkbkfphaa.diskSafe
