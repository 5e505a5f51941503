/-
  The theorem of delivery: nothing comes that was not posted, and no more often than it was posted and doubled: 'mooringlaw10.FlightOnce' returns true and leaves its argument as it was.
  Conditions: none.
-/
import Derived.Test.YtmekbbddfmmbeaaRows
import Derived.WalkKit
import Derived.ProofKit
import Derived.OpenShut
import Derived.SizedLaws
import Derived.ShutString
import Derived.ChangeOld
import Derived.Below
import Derived.Test.YtmekbbddfmmbeaaByRows
import Derived.Test.YtmekbbddfmmbeaaFlItem
import Derived.Test.YtmekbbddfmmbeaaFlOnce2
namespace Go.Proofs.Ytmekbbddfmmbeaa.flightOnce
open Go.ChangeShapes Go.WideShapes Go.ChangeAt Go.RowKit By
open Fl
set_option linter.unusedVariables false
set_option linter.unusedSimpArgs false
set_option maxRecDepth 100000

theorem own : ownKnob Try.prog.godebug = none := by kernel_rfl
theorem laidOut : laidOutB Try.prog = true := by kernel_rfl

theorem wrap_ok {z : Int} (h0 : -1000000 ≤ z) (h1 : z ≤ 1000000) : IntKind.i64.wrap z = z := by
  unfold IntKind.wrap
  simp [IntKind.bits, IntKind.signed]
  omega

set_option maxHeartbeats 8000000 in
set_option maxRecDepth 100000 in
theorem walk (x : Option Addr) (len cap : Nat) (V : Nat → ActV) (w : World) (h : ActsIn w x len cap V) :
    Calls Try.prog 4 #[.slice x len cap] w fun e w' => e = .returned (.bool true) ∧ Below w.heap.size w w' := by
  have hN : Calls Try.prog 8 #[] w fun e w1 => ∃ p, e = .returned (.pointer (some ⟨p, 0, none⟩)) ∧ Hid (Once w (w1.alloc (.map #[] 0)) p w1.heap.size 0 []) := by
    refine (new_any w).mono fun e w1 ⟨p, mb, e1, H⟩ => ⟨p, e1, ?_⟩
    obtain ⟨hb, hf⟩ := H.out
    have b1 : Below w1.heap.size w1 (w1.alloc (.map #[] 0)) := (Below.refl _ _).alloc (Nat.le_refl _) _
    have hlt := (map_lt hf.map).1
    exact ⟨hb.trans (b1.mono hb.size), ⟨mb, _, _, 0, _, _, hf.below b1, LfAt.new w1 _ hb.size, by omega, by omega, fun a b s => ⟨by simp [cntL], by omega⟩⟩, by simp⟩
  have HA : Hid (ActsIn w x len cap V) := h
  have hsm := h.small
  have hlz : (len : Int) ≤ 140737488351232 := by omega
  clear h
  have hmm := @run_makeMap Try.prog
  go_enter Try.func4, Try.ntmps4
  go_wp2_with (go_at_call 8; refine hN.mono ?_; rintro e w1 ⟨p, rfl, HO⟩; clear hN)
  generalize w1.heap.size = lb at HO ⊢
  go_loopw [5] (fun i wr => ∃ (k : Nat) (L : List MV), k ≤ len ∧ k ≤ 500 ∧ i = .int .i64 k ∧ Hid (Once w wr p lb k L)) (fun i _ => len - (intOf i).toNat)
  case atStart => exact ⟨0, [], by omega, by omega, rfl, HO.out⟩
  case round =>
    obtain ⟨k, L, hk, hk5, rfl, HR⟩ := hrel
    clear HO
    by_cases hgo : k < len ∧ k < 500
    · obtain ⟨hlt, hlt5⟩ := hgo
      have hkn : (k : Int) < (len : Int) := by omega
      have hk5z : (k : Int) < 500 := by omega
      obtain ⟨b, o, hx, hbl, hc⟩ : ∃ b o, x = some ⟨b, o, none⟩ ∧ b < w.heap.size ∧ ∀ i, i < len → w.cell? ⟨b, o + i * 4, none⟩ = some (.int .i64 (V i).do_) ∧ w.cell? ⟨b, o + i * 4 + 1, none⟩ = some (.int .i64 (V i).a) ∧ w.cell? ⟨b, o + i * 4 + 2, none⟩ = some (.int .i64 (V i).b) ∧ w.cell? ⟨b, o + i * 4 + 3, none⟩ = some (.slice (V i).x (V i).n (V i).c) := by
        rcases HA.out.row with h0 | h1
        · omega
        · exact h1
      subst hx
      obtain ⟨g0, g1, g2, g3⟩ := hc k hlt
      have hV := HA.out.act k hlt
      have hbr := HR.out.bel
      have c0 : wr.cell? ⟨b, o + k * 4, none⟩ = some (.int .i64 (V k).do_) := (hbr.cell (p := ⟨b, o + k * 4, none⟩) hbl).trans g0
      have c1 : wr.cell? ⟨b, o + k * 4 + 1, none⟩ = some (.int .i64 (V k).a) := (hbr.cell (p := ⟨b, o + k * 4 + 1, none⟩) hbl).trans g1
      have c2 : wr.cell? ⟨b, o + k * 4 + 2, none⟩ = some (.int .i64 (V k).b) := (hbr.cell (p := ⟨b, o + k * 4 + 2, none⟩) hbl).trans g2
      have c3 : wr.cell? ⟨b, o + k * 4 + 3, none⟩ = some (.slice (V k).x (V k).n (V k).c) := (hbr.cell (p := ⟨b, o + k * 4 + 3, none⟩) hbl).trans g3
      have ba : Below wr.heap.size wr (wr.alloc (.cells #[.int .i64 (V k).do_, .int .i64 (V k).a, .int .i64 (V k).b, .slice (V k).x (V k).n (V k).c] 33)) := (Below.refl _ _).alloc (Nat.le_refl _) _
      have hOa := HR.out.below ba
      have hle := HR.out.len
      by_cases hd1 : (V k).do_ = 1
      · rw [hd1] at c0 hOa
        by_cases hi : (V k).a < 0 ∨ (L.length : Int) ≤ (V k).a
        · have hD := once_deliver_no hOa (V k).a hi
          have hcv := conv_sl (Sl.empty (wr.alloc (.cells #[.int .i64 1, .int .i64 (V k).a, .int .i64 (V k).b, .slice (V k).x (V k).n (V k).c] 33)))
          have HN : Hid (∀ w2, Below (wr.alloc (.cells #[.int .i64 1, .int .i64 (V k).a, .int .i64 (V k).b, .slice (V k).x (V k).n (V k).c] 33)).heap.size (wr.alloc (.cells #[.int .i64 1, .int .i64 (V k).a, .int .i64 (V k).b, .slice (V k).x (V k).n (V k).c] 33)) w2 → Once w w2 p lb (k + 1) L) := fun w2 hb2 => (hOa.below hb2).more
          clear hOa ba HR hbr hc hV hi hd1 HA g0 g1 g2 g3
          generalize (V k).a = A at *
          generalize (V k).b = Bb at *
          generalize (V k).x = X at *
          generalize (V k).n = n at *
          generalize (V k).c = c at *
          generalize str [] = Z at *
          go_wp2_with (go_at_call 15; refine hD.mono ?_; rintro e w' ⟨rfl, hw⟩; subst w'; clear hD)
          go_roundw
          case rel => exact ⟨k + 1, L, by omega, by omega, by go_num, HN.out _ ((Below.refl _ _).alloc (Nat.le_refl _) _)⟩
          case measure => simp [intOf]; omega
        · obtain ⟨j, hj⟩ : ∃ j : Nat, (V k).a = (j : Int) := ⟨(V k).a.toNat, by omega⟩
          have hjl : j < L.length := by omega
          have hD := once_deliver hOa (by omega) j (L[j]'hjl) (List.getElem?_eq_getElem hjl)
          rw [hj] at c1 hD
          clear hOa ba HR hbr hc hV hi hd1 HA g0 g1 g2 g3 hjl hj
          generalize (V k).b = Bb at *
          generalize (V k).x = X at *
          generalize (V k).n = n at *
          generalize (V k).c = c at *
          generalize del L j = L2 at *
          go_wp2_with (first
            | (go_at_call 15; refine hD.mono ?_; rintro e w2 ⟨f, t, y, yn, cy, s, cc, rfl, hcv, HE⟩; clear hD
               obtain ⟨_, _, _, _, hE0⟩ := HE.out (w2.alloc (.cells #[.int .i64 f, .int .i64 t, .string s] 39)) ((Below.refl _ _).alloc (Nat.le_refl _) _)
               have hl1 := hE0.look
               have hcc : ¬ cc ≤ 0 := by have := hE0.lo rfl; omega
               clear hE0
               obtain ⟨v0, st, w4, w5, hE⟩ := HE.out (w2.alloc (.cells #[.int .i64 f, .int .i64 t, .string s] 39)).drew ((Below.refl _ _).alloc (Nat.le_refl _) _).drew
               have hl2 := hE.look
               have hl3 := hE.look1
               have hent := hE.ent
               have hst := hE.store
               rw [show cc + -1 = cc - 1 by omega] at hst
               have hwz : IntKind.i64.wrap (cc - 1) = cc - 1 := wrap_ok (by have := hE.l0; omega) (by have := hE.hi; omega)
               have HN : Hid (Once w w5 p lb (k + 1) L2) := hE.once
               clear hE HE))
          refine wp_region_held_drew (S := fun _ => True) (by kernel_rfl) trivial (fun hHeld => ?_)
          refine wpAnyH_take (i := 0) (v := ?_) rfl (by kernel_rfl) (by kernel_rfl) (by kernel_rfl) (fun _ _ _ h => h) (Or.inl ⟨by rfl, ?_⟩) (by assumption) ?_
          case refine_2 => (intro w hSw; (try dsimp only at hSw); go_simp; (try with_reducible rfl))
          (try simp only [Act.put, List.getElem_toArray, List.getElem_cons_succ, List.getElem_cons_zero, List.setIfInBounds_toArray, List.set_cons_zero, List.set_cons_succ])
          refine wpAnyH_ready (rs := [1]) (by kernel_rfl) (by simp) ?_
          refine AllReadyH.cons rfl (fun K hK => ?_) AllReadyH.nil
          go_simp
          refine hK.out _ _ trivial (fun hHeld => ?_)
          clear hK K
          refine wpAnyH_ready (rs := [2, 4]) (by kernel_rfl) (by simp) ?_
          refine AllReadyH.cons rfl (fun K hK => ?_) (AllReadyH.cons rfl (fun K hK => ?_) AllReadyH.nil)
          · refine st_lookup rfl _ _ 42 false rfl _ _ _ rfl rfl hl2 ?_
            (try simp only [Act.put, List.getElem_toArray, List.getElem_cons_succ, List.getElem_cons_zero, List.setIfInBounds_toArray, List.set_cons_zero, List.set_cons_succ])
            refine hK.out _ _ trivial (fun hHeld => ?_)
            clear hK K
            refine wpAnyH_take (i := 3) (v := ?_) rfl (by kernel_rfl) (by kernel_rfl) (by kernel_rfl) (fun _ _ _ h => h) (Or.inl ⟨by rfl, ?_⟩) (by assumption) ?_
            case refine_2 => (intro w hSw; (try dsimp only at hSw); go_simp; (try with_reducible rfl))
            (try simp only [Act.put, List.getElem_toArray, List.getElem_cons_succ, List.getElem_cons_zero, List.setIfInBounds_toArray, List.set_cons_zero, List.set_cons_succ])
            refine wpAnyH_ready (rs := [4]) (by kernel_rfl) (by simp) ?_
            refine AllReadyH.cons rfl (fun K hK => ?_) AllReadyH.nil
            refine st_mapentry rfl _ _ 42 rfl _ _ _ rfl rfl hent ?_
            (try simp only [Act.put, List.getElem_toArray, List.getElem_cons_succ, List.getElem_cons_zero, List.setIfInBounds_toArray, List.set_cons_zero, List.set_cons_succ])
            refine hK.out _ _ trivial (fun hHeld => ?_)
            clear hK K
            refine wpAnyH_take (i := 5) (v := ?_) rfl (by kernel_rfl) (by kernel_rfl) (by kernel_rfl) (fun _ _ _ h => h) (Or.inl ⟨by rfl, ?_⟩) (by assumption) ?_
            case refine_2 => (intro w hSw; (try dsimp only at hSw); go_simp; (try with_reducible rfl))
            (try simp only [Act.put, List.getElem_toArray, List.getElem_cons_succ, List.getElem_cons_zero, List.setIfInBounds_toArray, List.set_cons_zero, List.set_cons_succ])
            refine wpAnyH_ready (rs := [6]) (by kernel_rfl) (by simp) ?_
            refine AllReadyH.cons rfl (fun K hK => ?_) AllReadyH.nil
            refine st_entrystore rfl _ _ _ 42 rfl _ _ _ rfl rfl rfl hst ?_
            (try simp only [Act.put, List.getElem_toArray, List.getElem_cons_succ, List.getElem_cons_zero, List.setIfInBounds_toArray, List.set_cons_zero, List.set_cons_succ])
            refine hK.out _ _ trivial (fun hHeld => ?_)
            clear hK K
            refine wpAnyH_done (by kernel_rfl) ?_ _
            go_wp2_with fail
            go_roundw
            case rel => exact ⟨k + 1, _, by omega, by omega, by go_num, HN.out⟩
            case measure => simp [intOf]; omega
          · refine st_mapentry rfl _ _ 42 rfl _ _ _ rfl rfl hent ?_
            (try simp only [Act.put, List.getElem_toArray, List.getElem_cons_succ, List.getElem_cons_zero, List.setIfInBounds_toArray, List.set_cons_zero, List.set_cons_succ])
            refine hK.out _ _ trivial (fun hHeld => ?_)
            clear hK K
            refine wpAnyH_take (i := 5) (v := ?_) rfl (by kernel_rfl) (by kernel_rfl) (by kernel_rfl) (fun _ _ _ h => h) (Or.inl ⟨by rfl, ?_⟩) (by assumption) ?_
            case refine_2 => (intro w hSw; (try dsimp only at hSw); go_simp; (try with_reducible rfl))
            (try simp only [Act.put, List.getElem_toArray, List.getElem_cons_succ, List.getElem_cons_zero, List.setIfInBounds_toArray, List.set_cons_zero, List.set_cons_succ])
            refine wpAnyH_ready (rs := [2]) (by kernel_rfl) (by simp) ?_
            refine AllReadyH.cons rfl (fun K hK => ?_) AllReadyH.nil
            refine st_lookup rfl _ _ 42 false rfl _ _ _ rfl rfl hl3 ?_
            (try simp only [Act.put, List.getElem_toArray, List.getElem_cons_succ, List.getElem_cons_zero, List.setIfInBounds_toArray, List.set_cons_zero, List.set_cons_succ])
            refine hK.out _ _ trivial (fun hHeld => ?_)
            clear hK K
            refine wpAnyH_take (i := 3) (v := ?_) rfl (by kernel_rfl) (by kernel_rfl) (by kernel_rfl) (fun _ _ _ h => h) (Or.inl ⟨by rfl, ?_⟩) (by assumption) ?_
            case refine_2 => (intro w hSw; (try dsimp only at hSw); go_simp; (try with_reducible rfl))
            (try simp only [Act.put, List.getElem_toArray, List.getElem_cons_succ, List.getElem_cons_zero, List.setIfInBounds_toArray, List.set_cons_zero, List.set_cons_succ])
            refine wpAnyH_ready (rs := [6]) (by kernel_rfl) (by simp) ?_
            refine AllReadyH.cons rfl (fun K hK => ?_) AllReadyH.nil
            refine st_entrystore rfl _ _ _ 42 rfl _ _ _ rfl rfl rfl hst ?_
            (try simp only [Act.put, List.getElem_toArray, List.getElem_cons_succ, List.getElem_cons_zero, List.setIfInBounds_toArray, List.set_cons_zero, List.set_cons_succ])
            refine hK.out _ _ trivial (fun hHeld => ?_)
            clear hK K
            refine wpAnyH_done (by kernel_rfl) ?_ _
            go_wp2_with fail
            go_roundw
            case rel => exact ⟨k + 1, _, by omega, by omega, by go_num, HN.out⟩
            case measure => simp [intOf]; omega
      · by_cases hd3 : (V k).do_ = 3
        · rw [hd3] at c0 hOa
          by_cases hi : (V k).a < 0 ∨ (L.length : Int) ≤ (V k).a
          · have hD := once_look_no hOa (V k).a hi
            have hT := once_twice_no hOa (V k).a hi
            have HN : Hid (Once w (wr.alloc (.cells #[.int .i64 3, .int .i64 (V k).a, .int .i64 (V k).b, .slice (V k).x (V k).n (V k).c] 33)) p lb (k + 1) L) := hOa.more
            clear hOa ba HR hbr hc hV hi hd1 hd3 HA g0 g1 g2 g3
            generalize (V k).a = A at *
            generalize (V k).b = Bb at *
            generalize (V k).x = X at *
            generalize (V k).n = n at *
            generalize (V k).c = c at *
            go_wp2_with (first
              | (go_at_call 13; refine hD.mono ?_; rintro e w' ⟨rfl, hw⟩; subst w'; clear hD)
              | (go_at_call 16; refine hT.mono ?_; rintro e w' ⟨rfl, hw⟩; subst w'; clear hT))
            go_roundw
            case rel => exact ⟨k + 1, L, by omega, by omega, by go_num, HN.out⟩
            case measure => simp [intOf]; omega
          · obtain ⟨j, hj⟩ : ∃ j : Nat, (V k).a = (j : Int) := ⟨(V k).a.toNat, by omega⟩
            have hjl : j < L.length := by omega
            have hD := once_twice hOa (by omega) j (L[j]'hjl) (List.getElem?_eq_getElem hjl)
            rw [hj] at c1 hD
            generalize L ++ [L[j]'hjl] = L2 at *
            clear hOa ba HR hbr hc hV hi hd1 hd3 HA g0 g1 g2 g3 hjl hj
            generalize (V k).b = Bb at *
            generalize (V k).x = X at *
            generalize (V k).n = n at *
            generalize (V k).c = c at *
            go_wp2_with (first
              | (go_at_call 13; refine hD.mono ?_; rintro e w2 ⟨f, t, y, yn, cy, s, rfl, hb2, hT⟩; clear hD
                 have s1 : w2.cell? ⟨wr.heap.size, 1, none⟩ = some (.int .i64 (j : Int)) := (hb2.cell (p := ⟨wr.heap.size, 1, none⟩) (by simp)).trans (by simp)
                 clear hb2)
              | (go_at_call 16; refine hT.mono ?_; rintro e w3 ⟨rfl, hcv, cc, v0, st, w4, w5, HE⟩; clear hT
                 have hl2 := HE.out.look
                 have hl3 := HE.out.look1
                 have hent := HE.out.ent
                 have hst := HE.out.store
                 have hwz : IntKind.i64.wrap (cc + 1) = cc + 1 := wrap_ok (by have := HE.out.l0; omega) (by have := HE.out.hi; omega)
                 have HN : Hid (Once w w5 p lb (k + 1) L2) := HE.out.once
                 clear HE))
            refine wp_region_held_drew (S := fun _ => True) (by kernel_rfl) trivial (fun hHeld => ?_)
            refine wpAnyH_take (i := 0) (v := ?_) rfl (by kernel_rfl) (by kernel_rfl) (by kernel_rfl) (fun _ _ _ h => h) (Or.inl ⟨by rfl, ?_⟩) (by assumption) ?_
            case refine_2 => (intro w hSw; (try dsimp only at hSw); go_simp; (try with_reducible rfl))
            (try simp only [Act.put, List.getElem_toArray, List.getElem_cons_succ, List.getElem_cons_zero, List.setIfInBounds_toArray, List.set_cons_zero, List.set_cons_succ])
            refine wpAnyH_take (i := 1) (v := ?_) rfl (by kernel_rfl) (by kernel_rfl) (by kernel_rfl) (fun _ _ _ h => h) (Or.inl ⟨by rfl, ?_⟩) (by assumption) ?_
            case refine_2 => (intro w hSw; (try dsimp only at hSw); go_simp; (try with_reducible rfl))
            (try simp only [Act.put, List.getElem_toArray, List.getElem_cons_succ, List.getElem_cons_zero, List.setIfInBounds_toArray, List.set_cons_zero, List.set_cons_succ])
            refine wpAnyH_take (i := 2) (v := ?_) rfl (by kernel_rfl) (by kernel_rfl) (by kernel_rfl) (fun _ _ _ h => h) (Or.inl ⟨by rfl, ?_⟩) (by assumption) ?_
            case refine_2 => (intro w hSw; (try dsimp only at hSw); go_simp; (try with_reducible rfl))
            (try simp only [Act.put, List.getElem_toArray, List.getElem_cons_succ, List.getElem_cons_zero, List.setIfInBounds_toArray, List.set_cons_zero, List.set_cons_succ])
            refine wpAnyH_take (i := 3) (v := ?_) rfl (by kernel_rfl) (by kernel_rfl) (by kernel_rfl) (fun _ _ _ h => h) (Or.inl ⟨by rfl, ?_⟩) (by assumption) ?_
            case refine_2 => (intro w hSw; (try dsimp only at hSw); go_simp; (try with_reducible rfl))
            (try simp only [Act.put, List.getElem_toArray, List.getElem_cons_succ, List.getElem_cons_zero, List.setIfInBounds_toArray, List.set_cons_zero, List.set_cons_succ])
            refine wpAnyH_ready (rs := [4]) (by kernel_rfl) (by simp) ?_
            refine AllReadyH.cons rfl (fun K hK => ?_) AllReadyH.nil
            go_simp
            refine hK.out _ _ trivial (fun hHeld => ?_)
            clear hK K
            refine wpAnyH_ready (rs := [5]) (by kernel_rfl) (by simp) ?_
            refine AllReadyH.cons rfl (fun K hK => ?_) AllReadyH.nil
            go_simp
            refine hK.out _ _ trivial (fun hHeld => ?_)
            clear hK K
            refine wpAnyH_ready (rs := [6, 8]) (by kernel_rfl) (by simp) ?_
            refine AllReadyH.cons rfl (fun K hK => ?_) (AllReadyH.cons rfl (fun K hK => ?_) AllReadyH.nil)
            · refine st_lookup rfl _ _ 42 false rfl _ _ _ rfl rfl hl2 ?_
              (try simp only [Act.put, List.getElem_toArray, List.getElem_cons_succ, List.getElem_cons_zero, List.setIfInBounds_toArray, List.set_cons_zero, List.set_cons_succ])
              refine hK.out _ _ trivial (fun hHeld => ?_)
              clear hK K
              refine wpAnyH_take (i := 7) (v := ?_) rfl (by kernel_rfl) (by kernel_rfl) (by kernel_rfl) (fun _ _ _ h => h) (Or.inl ⟨by rfl, ?_⟩) (by assumption) ?_
              case refine_2 => (intro w hSw; (try dsimp only at hSw); go_simp; (try with_reducible rfl))
              (try simp only [Act.put, List.getElem_toArray, List.getElem_cons_succ, List.getElem_cons_zero, List.setIfInBounds_toArray, List.set_cons_zero, List.set_cons_succ])
              refine wpAnyH_ready (rs := [8]) (by kernel_rfl) (by simp) ?_
              refine AllReadyH.cons rfl (fun K hK => ?_) AllReadyH.nil
              refine st_mapentry rfl _ _ 42 rfl _ _ _ rfl rfl hent ?_
              (try simp only [Act.put, List.getElem_toArray, List.getElem_cons_succ, List.getElem_cons_zero, List.setIfInBounds_toArray, List.set_cons_zero, List.set_cons_succ])
              refine hK.out _ _ trivial (fun hHeld => ?_)
              clear hK K
              refine wpAnyH_take (i := 9) (v := ?_) rfl (by kernel_rfl) (by kernel_rfl) (by kernel_rfl) (fun _ _ _ h => h) (Or.inl ⟨by rfl, ?_⟩) (by assumption) ?_
              case refine_2 => (intro w hSw; (try dsimp only at hSw); go_simp; (try with_reducible rfl))
              (try simp only [Act.put, List.getElem_toArray, List.getElem_cons_succ, List.getElem_cons_zero, List.setIfInBounds_toArray, List.set_cons_zero, List.set_cons_succ])
              refine wpAnyH_ready (rs := [10]) (by kernel_rfl) (by simp) ?_
              refine AllReadyH.cons rfl (fun K hK => ?_) AllReadyH.nil
              refine st_entrystore rfl _ _ _ 42 rfl _ _ _ rfl rfl rfl hst ?_
              (try simp only [Act.put, List.getElem_toArray, List.getElem_cons_succ, List.getElem_cons_zero, List.setIfInBounds_toArray, List.set_cons_zero, List.set_cons_succ])
              refine hK.out _ _ trivial (fun hHeld => ?_)
              clear hK K
              refine wpAnyH_done (by kernel_rfl) ?_ _
              go_wp2_with fail
              go_roundw
              case rel => exact ⟨k + 1, _, by omega, by omega, by go_num, HN.out⟩
              case measure => simp [intOf]; omega
            · refine st_mapentry rfl _ _ 42 rfl _ _ _ rfl rfl hent ?_
              (try simp only [Act.put, List.getElem_toArray, List.getElem_cons_succ, List.getElem_cons_zero, List.setIfInBounds_toArray, List.set_cons_zero, List.set_cons_succ])
              refine hK.out _ _ trivial (fun hHeld => ?_)
              clear hK K
              refine wpAnyH_take (i := 9) (v := ?_) rfl (by kernel_rfl) (by kernel_rfl) (by kernel_rfl) (fun _ _ _ h => h) (Or.inl ⟨by rfl, ?_⟩) (by assumption) ?_
              case refine_2 => (intro w hSw; (try dsimp only at hSw); go_simp; (try with_reducible rfl))
              (try simp only [Act.put, List.getElem_toArray, List.getElem_cons_succ, List.getElem_cons_zero, List.setIfInBounds_toArray, List.set_cons_zero, List.set_cons_succ])
              refine wpAnyH_ready (rs := [6]) (by kernel_rfl) (by simp) ?_
              refine AllReadyH.cons rfl (fun K hK => ?_) AllReadyH.nil
              refine st_lookup rfl _ _ 42 false rfl _ _ _ rfl rfl hl3 ?_
              (try simp only [Act.put, List.getElem_toArray, List.getElem_cons_succ, List.getElem_cons_zero, List.setIfInBounds_toArray, List.set_cons_zero, List.set_cons_succ])
              refine hK.out _ _ trivial (fun hHeld => ?_)
              clear hK K
              refine wpAnyH_take (i := 7) (v := ?_) rfl (by kernel_rfl) (by kernel_rfl) (by kernel_rfl) (fun _ _ _ h => h) (Or.inl ⟨by rfl, ?_⟩) (by assumption) ?_
              case refine_2 => (intro w hSw; (try dsimp only at hSw); go_simp; (try with_reducible rfl))
              (try simp only [Act.put, List.getElem_toArray, List.getElem_cons_succ, List.getElem_cons_zero, List.setIfInBounds_toArray, List.set_cons_zero, List.set_cons_succ])
              refine wpAnyH_ready (rs := [10]) (by kernel_rfl) (by simp) ?_
              refine AllReadyH.cons rfl (fun K hK => ?_) AllReadyH.nil
              refine st_entrystore rfl _ _ _ 42 rfl _ _ _ rfl rfl rfl hst ?_
              (try simp only [Act.put, List.getElem_toArray, List.getElem_cons_succ, List.getElem_cons_zero, List.setIfInBounds_toArray, List.set_cons_zero, List.set_cons_succ])
              refine hK.out _ _ trivial (fun hHeld => ?_)
              clear hK K
              refine wpAnyH_done (by kernel_rfl) ?_ _
              go_wp2_with fail
              go_roundw
              case rel => exact ⟨k + 1, _, by omega, by omega, by go_num, HN.out⟩
              case measure => simp [intOf]; omega
        · have hP := once_post hOa (by omega) (V k) hV
          have tbA : Tb (wr.alloc (.cells #[.int .i64 (V k).do_, .int .i64 (V k).a, .int .i64 (V k).b, .slice (V k).x (V k).n (V k).c] 33)) wr.heap.size 33 := ⟨_, _, heap_alloc_new _ _⟩
          have hCV : Hid (∀ v, Below w.heap.size w v → (convert 31 9 (.slice (V k).x (V k).n (V k).c)).run Try.prog v = .ok (.string (str (V k).d)) v) := fun v hv => conv_sl (hV.sl.below hv)
          have hz1 : ((V k).do_ == 1) = false := by simpa using hd1
          have hz3 : ((V k).do_ == 3) = false := by simpa using hd3
          clear hOa ba HR hbr hc hV hd1 hd3 HA g0 g1 g2 g3
          generalize (V k).do_ = Do at *
          generalize (V k).a = A at *
          generalize (V k).b = Bb at *
          generalize (V k).x = X at *
          generalize (V k).n = n at *
          generalize (V k).c = c at *
          generalize str (V k).d = s at *
          go_wp2_with (first
            | (go_at_call 17; refine hP.mono ?_; rintro e w2 ⟨rfl, hblk, m, cc, v0, st, w4, w5, HE⟩; clear hP
               have hl2 := HE.out.1.look
               have hl3 := HE.out.1.look1
               have hent := HE.out.1.ent
               have hst := HE.out.1.store
               have hwz : IntKind.i64.wrap (cc + 1) = cc + 1 := wrap_ok (by have := HE.out.1.l0; omega) (by have := HE.out.1.hi; omega)
               have HN : Hid (Once w w5 p lb (k + 1) (L ++ [m])) := HE.out.1.once
               have hq := hblk _ tbA
               have tb2 : Tb w2.drew wr.heap.size 33 := tbA.of_heap hq
               have cells : ∀ v : World, v.heap[wr.heap.size]? = w2.heap[wr.heap.size]? → v.cell? ⟨wr.heap.size, 1, none⟩ = some (.int .i64 A) ∧ v.cell? ⟨wr.heap.size, 2, none⟩ = some (.int .i64 Bb) ∧ v.cell? ⟨wr.heap.size, 3, none⟩ = some (.slice X n c) := fun v hv => by
                 have e := hv.trans hq
                 exact ⟨(World.cell?_of_block (a := ⟨wr.heap.size, 1, none⟩) e).trans (by simp), (World.cell?_of_block (a := ⟨wr.heap.size, 2, none⟩) e).trans (by simp), (World.cell?_of_block (a := ⟨wr.heap.size, 3, none⟩) e).trans (by simp)⟩
               have nlb : wr.heap.size ≠ lb := fun e => by
                 rw [e] at tb2
                 exact tb2.not_map HE.out.1.mapb
               obtain ⟨p1, p2, p3⟩ := cells w2.drew rfl
               obtain ⟨q1, q2, q3⟩ := cells w4 (HE.out.1.t1.block _ tb2.lt nlb)
               obtain ⟨r1, r2, r3⟩ := cells w5 (HE.out.1.t2.block _ tb2.lt nlb)
               have p4 := hCV.out _ HE.out.2.1
               have q4 := hCV.out _ HE.out.2.2
               have r4 := hCV.out _ HE.out.1.once.bel
               clear HE hblk hq tb2 cells nlb))
          refine wp_region_held_drew (S := fun v => v.cell? ⟨wr.heap.size, 1, none⟩ = some (.int .i64 A) ∧ v.cell? ⟨wr.heap.size, 2, none⟩ = some (.int .i64 Bb) ∧ v.cell? ⟨wr.heap.size, 3, none⟩ = some (.slice X n c) ∧ (convert 31 9 (.slice X n c)).run Try.prog v = .ok (.string s) v) (by kernel_rfl) ⟨p1, p2, p3, p4⟩ (fun hHeld => ?_)
          refine wpAnyH_take (i := 0) (v := ?_) rfl (by kernel_rfl) (by kernel_rfl) (by kernel_rfl) (fun _ _ _ h => h) (Or.inl ⟨by rfl, ?_⟩) (by assumption) ?_
          case refine_2 => (intro w hSw; (try dsimp only at hSw); go_simp; (try with_reducible rfl))
          (try simp only [Act.put, List.getElem_toArray, List.getElem_cons_succ, List.getElem_cons_zero, List.setIfInBounds_toArray, List.set_cons_zero, List.set_cons_succ])
          refine wpAnyH_take (i := 1) (v := ?_) rfl (by kernel_rfl) (by kernel_rfl) (by kernel_rfl) (fun _ _ _ h => h) (Or.inl ⟨by rfl, ?_⟩) (by assumption) ?_
          case refine_2 => (intro w hSw; (try dsimp only at hSw); go_simp; (try with_reducible rfl))
          (try simp only [Act.put, List.getElem_toArray, List.getElem_cons_succ, List.getElem_cons_zero, List.setIfInBounds_toArray, List.set_cons_zero, List.set_cons_succ])
          refine wpAnyH_take (i := 2) (v := ?_) rfl (by kernel_rfl) (by kernel_rfl) (by kernel_rfl) (fun _ _ _ h => h) (Or.inl ⟨by rfl, ?_⟩) (by assumption) ?_
          case refine_2 => (intro w hSw; (try dsimp only at hSw); go_simp; (try with_reducible rfl))
          (try simp only [Act.put, List.getElem_toArray, List.getElem_cons_succ, List.getElem_cons_zero, List.setIfInBounds_toArray, List.set_cons_zero, List.set_cons_succ])
          refine wpAnyH_take (i := 3) (v := ?_) rfl (by kernel_rfl) (by kernel_rfl) (by kernel_rfl) (fun _ _ _ h => h) (Or.inl ⟨by rfl, ?_⟩) (by assumption) ?_
          case refine_2 => (intro w hSw; (try dsimp only at hSw); go_simp; (try with_reducible rfl))
          (try simp only [Act.put, List.getElem_toArray, List.getElem_cons_succ, List.getElem_cons_zero, List.setIfInBounds_toArray, List.set_cons_zero, List.set_cons_succ])
          refine wpAnyH_take (i := 4) (v := ?_) rfl (by kernel_rfl) (by kernel_rfl) (by kernel_rfl) (fun _ _ _ h => h) (Or.inl ⟨by rfl, ?_⟩) (by assumption) ?_
          case refine_2 => (intro w hSw; (try dsimp only at hSw); go_simp; (try with_reducible rfl))
          (try simp only [Act.put, List.getElem_toArray, List.getElem_cons_succ, List.getElem_cons_zero, List.setIfInBounds_toArray, List.set_cons_zero, List.set_cons_succ])
          refine wpAnyH_take (i := 5) (v := ?_) rfl (by kernel_rfl) (by kernel_rfl) (by kernel_rfl) (fun _ _ _ h => h) (Or.inl ⟨by rfl, ?_⟩) (by assumption) ?_
          case refine_2 => (intro w hSw; (try dsimp only at hSw); go_simp; (try with_reducible rfl))
          (try simp only [Act.put, List.getElem_toArray, List.getElem_cons_succ, List.getElem_cons_zero, List.setIfInBounds_toArray, List.set_cons_zero, List.set_cons_succ])
          refine wpAnyH_take (i := 6) (v := ?_) rfl (by kernel_rfl) (by kernel_rfl) (by kernel_rfl) (fun _ _ _ h => h) (Or.inl ⟨by rfl, ?_⟩) (by assumption) ?_
          case refine_2 => (intro w hSw; (try dsimp only at hSw); go_simp; (try with_reducible rfl))
          (try simp only [Act.put, List.getElem_toArray, List.getElem_cons_succ, List.getElem_cons_zero, List.setIfInBounds_toArray, List.set_cons_zero, List.set_cons_succ])
          refine wpAnyH_take (i := 7) (v := ?_) rfl (by kernel_rfl) (by kernel_rfl) (by kernel_rfl) (fun _ _ _ h => h) (Or.inl ⟨by rfl, ?_⟩) (by assumption) ?_
          case refine_2 => (intro w hSw; (try dsimp only at hSw); go_simp; (try with_reducible rfl))
          (try simp only [Act.put, List.getElem_toArray, List.getElem_cons_succ, List.getElem_cons_zero, List.setIfInBounds_toArray, List.set_cons_zero, List.set_cons_succ])
          refine wpAnyH_take (i := 8) (v := ?_) rfl (by kernel_rfl) (by kernel_rfl) (by kernel_rfl) (fun _ _ _ h => h) (Or.inl ⟨by rfl, ?_⟩) (by assumption) ?_
          case refine_2 => (intro w hSw; (try dsimp only at hSw); go_simp; (try with_reducible rfl))
          (try simp only [Act.put, List.getElem_toArray, List.getElem_cons_succ, List.getElem_cons_zero, List.setIfInBounds_toArray, List.set_cons_zero, List.set_cons_succ])
          refine wpAnyH_ready (rs := [9, 11]) (by kernel_rfl) (by simp) ?_
          refine AllReadyH.cons rfl (fun K hK => ?_) (AllReadyH.cons rfl (fun K hK => ?_) AllReadyH.nil)
          · refine st_lookup rfl _ _ 42 false rfl _ _ _ rfl rfl hl2 ?_
            (try simp only [Act.put, List.getElem_toArray, List.getElem_cons_succ, List.getElem_cons_zero, List.setIfInBounds_toArray, List.set_cons_zero, List.set_cons_succ])
            refine hK.out _ _ ⟨p1, p2, p3, p4⟩ (fun hHeld => ?_)
            clear hK K
            refine wpAnyH_take (i := 10) (v := ?_) rfl (by kernel_rfl) (by kernel_rfl) (by kernel_rfl) (fun _ _ _ h => h) (Or.inl ⟨by rfl, ?_⟩) (by assumption) ?_
            case refine_2 => (intro w hSw; (try dsimp only at hSw); go_simp; (try with_reducible rfl))
            (try simp only [Act.put, List.getElem_toArray, List.getElem_cons_succ, List.getElem_cons_zero, List.setIfInBounds_toArray, List.set_cons_zero, List.set_cons_succ])
            refine wpAnyH_ready (rs := [11]) (by kernel_rfl) (by simp) ?_
            refine AllReadyH.cons rfl (fun K hK => ?_) AllReadyH.nil
            refine st_mapentry rfl _ _ 42 rfl _ _ _ rfl rfl hent ?_
            (try simp only [Act.put, List.getElem_toArray, List.getElem_cons_succ, List.getElem_cons_zero, List.setIfInBounds_toArray, List.set_cons_zero, List.set_cons_succ])
            refine hK.out _ _ ⟨q1, q2, q3, q4⟩ (fun hHeld => ?_)
            clear hK K
            refine wpAnyH_take (i := 12) (v := ?_) rfl (by kernel_rfl) (by kernel_rfl) (by kernel_rfl) (fun _ _ _ h => h) (Or.inl ⟨by rfl, ?_⟩) (by assumption) ?_
            case refine_2 => (intro w hSw; (try dsimp only at hSw); go_simp; (try with_reducible rfl))
            (try simp only [Act.put, List.getElem_toArray, List.getElem_cons_succ, List.getElem_cons_zero, List.setIfInBounds_toArray, List.set_cons_zero, List.set_cons_succ])
            refine wpAnyH_ready (rs := [13]) (by kernel_rfl) (by simp) ?_
            refine AllReadyH.cons rfl (fun K hK => ?_) AllReadyH.nil
            refine st_entrystore rfl _ _ _ 42 rfl _ _ _ rfl rfl rfl hst ?_
            (try simp only [Act.put, List.getElem_toArray, List.getElem_cons_succ, List.getElem_cons_zero, List.setIfInBounds_toArray, List.set_cons_zero, List.set_cons_succ])
            refine hK.out _ _ ⟨r1, r2, r3, r4⟩ (fun hHeld => ?_)
            clear hK K
            refine wpAnyH_done (by kernel_rfl) ?_ _
            go_wp2_with fail
            go_roundw
            case rel => exact ⟨k + 1, _, by omega, by omega, by go_num, HN.out⟩
            case measure => simp [intOf]; omega
          · refine st_mapentry rfl _ _ 42 rfl _ _ _ rfl rfl hent ?_
            (try simp only [Act.put, List.getElem_toArray, List.getElem_cons_succ, List.getElem_cons_zero, List.setIfInBounds_toArray, List.set_cons_zero, List.set_cons_succ])
            refine hK.out _ _ ⟨q1, q2, q3, q4⟩ (fun hHeld => ?_)
            clear hK K
            refine wpAnyH_take (i := 12) (v := ?_) rfl (by kernel_rfl) (by kernel_rfl) (by kernel_rfl) (fun _ _ _ h => h) (Or.inl ⟨by rfl, ?_⟩) (by assumption) ?_
            case refine_2 => (intro w hSw; (try dsimp only at hSw); go_simp; (try with_reducible rfl))
            (try simp only [Act.put, List.getElem_toArray, List.getElem_cons_succ, List.getElem_cons_zero, List.setIfInBounds_toArray, List.set_cons_zero, List.set_cons_succ])
            refine wpAnyH_ready (rs := [9]) (by kernel_rfl) (by simp) ?_
            refine AllReadyH.cons rfl (fun K hK => ?_) AllReadyH.nil
            refine st_lookup rfl _ _ 42 false rfl _ _ _ rfl rfl hl3 ?_
            (try simp only [Act.put, List.getElem_toArray, List.getElem_cons_succ, List.getElem_cons_zero, List.setIfInBounds_toArray, List.set_cons_zero, List.set_cons_succ])
            refine hK.out _ _ ⟨q1, q2, q3, q4⟩ (fun hHeld => ?_)
            clear hK K
            refine wpAnyH_take (i := 10) (v := ?_) rfl (by kernel_rfl) (by kernel_rfl) (by kernel_rfl) (fun _ _ _ h => h) (Or.inl ⟨by rfl, ?_⟩) (by assumption) ?_
            case refine_2 => (intro w hSw; (try dsimp only at hSw); go_simp; (try with_reducible rfl))
            (try simp only [Act.put, List.getElem_toArray, List.getElem_cons_succ, List.getElem_cons_zero, List.setIfInBounds_toArray, List.set_cons_zero, List.set_cons_succ])
            refine wpAnyH_ready (rs := [13]) (by kernel_rfl) (by simp) ?_
            refine AllReadyH.cons rfl (fun K hK => ?_) AllReadyH.nil
            refine st_entrystore rfl _ _ _ 42 rfl _ _ _ rfl rfl rfl hst ?_
            (try simp only [Act.put, List.getElem_toArray, List.getElem_cons_succ, List.getElem_cons_zero, List.setIfInBounds_toArray, List.set_cons_zero, List.set_cons_succ])
            refine hK.out _ _ ⟨r1, r2, r3, r4⟩ (fun hHeld => ?_)
            clear hK K
            refine wpAnyH_done (by kernel_rfl) ?_ _
            go_wp2_with fail
            go_roundw
            case rel => exact ⟨k + 1, _, by omega, by omega, by go_num, HN.out⟩
            case measure => simp [intOf]; omega
    · have HB : Hid (Below w.heap.size w wr) := HR.out.bel
      clear HR HA
      by_cases hl : k < len
      · have hkn : (k : Int) < (len : Int) := by omega
        have hk5z : ¬ (k : Int) < 500 := by omega
        clear hgo
        go_wp2_with (go_at_call 14; refine (awake_any _).mono ?_; rintro e w5 ⟨rfl, hb5⟩)
        go_ret
        exact ⟨rfl, HB.out.trans (hb5.mono HB.out.size)⟩
      · have hkn : ¬ (k : Int) < (len : Int) := by omega
        clear hgo
        go_wp2_with (go_at_call 14; refine (awake_any _).mono ?_; rintro e w5 ⟨rfl, hb5⟩)
        go_ret
        exact ⟨rfl, HB.out.trans (hb5.mono HB.out.size)⟩

set_option maxRecDepth 100000 in
theorem lifted (os : Os) (started : os.Started) (H : Type) (enc : TypeId × Value → H) :
    ReturnsInHanded {} Try.checked os 4 .any (Rows.flightOnceSpec.pre6 enc Try.prog Try.f4 Rows.flightOnceRow.domain false) (Rows.flightOnceSpec.post enc Try.prog Try.f4 false true false false) := by
  refine returnsInHanded_of_change_sized (C := Try.checked) own started (by kernel_rfl) Try.func4
    (ChangeSpec.witness6 (enc := enc) (C := Try.checked) false ⟨#[], #[.slice none 0 0], []⟩ 8 (by kernel_rfl) (by kernel_rfl) (by kernel_rfl) (by kernel_rfl)) ?_
  intro W base args ds gs before hval0 hW hcnd hsz0 _
  have hsz : (DataW.weightsEach Try.prog (Try.f4.params.toList ++ Rows.flightOnceSpec.plain.varTypes Try.prog) (ds ++ gs)).all (· ≤ reachBytes) = true := hsz0
  have hval : ∀ (j : Nat) t v, Try.f4.params[j]? = some t → args[j]? = some v → Value.okWide Try.prog W .any base t v := hval0
  have hW' := hW
  obtain ⟨p, q, hA0, hV, rfl, hfz, hnd⟩ := hW
  have hA : DataW.TrodAll enc Try.prog W 0 (fun _ => true) true Try.f4.params.toList args.toList ds p := hA0
  rw [Try.params4] at hA hval hsz
  obtain ⟨v0, vs0, d0, ds0, p0, q0, hargs, rfl, rfl, h0, r0⟩ := trodAll_cons hA
  obtain ⟨rfl, rfl, rfl⟩ := trodAll_nil r0
  obtain rfl : args = #[v0] := by cases args; simp_all
  obtain ⟨rfl, rfl⟩ := trodVars_none hV
  have k0 := h0
  have lt0 : ∀ x ∈ p0, x.block < W.heap.size := by obtain ⟨m, hm⟩ := k0; exact DataW.trod_lt m _ _ _ hm
  have s0 : ∀ x ∈ d0.weights Try.prog 22, x ≤ reachBytes := fun x hx => by
    have := List.all_eq_true.1 hsz x (DataW.weights_mem_each (j := 0) rfl rfl x hx)
    simpa using this
  obtain ⟨b0, nn0, cc0, rfl⟩ := okWide_slice Try.underlying22 (hval 0 22 v0 rfl rfl)
  obtain ⟨fu0, hf0⟩ := h0
  obtain ⟨a0, len0, cap0, V0, e0, w0⟩ := acts_in hf0 s0
  simp [Value.cells] at e0
  obtain ⟨rfl, rfl, rfl⟩ := e0
  clear hA0 hval0
  refine (walk b0 nn0 cc0 V0 W w0).mono fun e W' ⟨he, bel⟩ => ?_
  subst he
  exact ⟨_, rfl, _, _, _, [], _, [], hW', trodAll_mk1 (shut_bool Try.underlying4 _), (trodAll_cons_mk (Below.trod laidOut (by kernel_rfl) (of_decide_eq_true (by kernel_rfl)) k0 bel lt0) trodAll_mk0), rfl, bel.frame _, fun h => by cases h⟩

theorem over : Rows.flightOnceRow.holds Try.pinned (OpenSpec.ofChange Rows.flightOnceSpec) :=
  OpenClaim.holds_of_wide 4 Try.f4 rfl rfl rfl rfl rfl rfl rfl ⟨rfl, rfl, rfl, rfl, rfl⟩ rfl rfl rfl rfl rfl (by kernel_rfl) Try.func4 (by kernel_rfl)
    (of_decide_eq_true (by kernel_rfl)) (by unfold Func.isWrapper; first | (rw [if_pos (by decide +kernel)]; kernel_rfl) | (rw [if_neg (by decide +kernel)]; exact ⟨rfl, rfl⟩))
    (fun os started H enc _ => lifted os started H enc)

theorem proved : Rows.FlightOnceSaid := over
#print axioms proved
end Go.Proofs.Ytmekbbddfmmbeaa.flightOnce
