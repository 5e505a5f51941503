/-
  What any writes, flushes, crashes and rot leave is what the document says, read at once and safe: 'mooringlaw07.DiskActs' returns true and leaves its arguments as they were.
  Conditions: none.
-/
import Derived.Test.YtaaeppbkbkfphaaRows
import Derived.WalkKit
import Derived.ProofKit
import Derived.OpenShut
import Derived.SizedLaws
import Derived.ShutString
import Derived.ChangeOld
import Derived.Below
import Derived.Test.YtaaeppbkbkfphaaByRows
import Derived.Test.YtaaeppbkbkfphaaDkItem
import Derived.Test.YtaaeppbkbkfphaaDkDoesW
namespace Go.Proofs.Ytaaeppbkbkfphaa.diskActs
open Go.ChangeShapes Go.WideShapes Go.ChangeAt Go.RowKit By
open Dk
set_option linter.unusedVariables false
set_option linter.unusedSimpArgs false

theorem own : ownKnob Try.prog.godebug = none := by kernel_rfl
theorem laidOut : laidOutB Try.prog = true := by kernel_rfl

theorem read_both (p r n m : Nat) (z : Int) (f A : Nat → Nat) (D : Nat → Nat → Nat) : ∃ (q : Int) (N : Nat) (d : Nat → Nat), N ≤ 64 ∧
    (∀ v F, Pd v F p n m f A D → Calls Try.prog 12 #[.pointer (some ⟨p, 0, none⟩), .int .i64 z] v fun e w' => ∃ x c, e = .returned (.tuple #[.slice x N c, .int .i64 q]) ∧ Below v.heap.size v w' ∧ RowAt w' x N d) ∧
    (∀ v G, Rd v G r n m f A D → Calls Try.prog 13 #[.pointer (some ⟨r, 0, none⟩), .int .i64 z] v fun e w' => ∃ x c, e = .returned (.tuple #[.slice x N c, .int .i64 q]) ∧ Below v.heap.size v w' ∧ RowAt w' x N d) := by
  by_cases hc : 0 ≤ z ∧ z < (n : Int)
  · obtain ⟨a, rfl⟩ : ∃ a : Nat, z = (a : Int) := ⟨z.toNat, by omega⟩
    refine ⟨0, 64, now f A D a m, Nat.le_refl _, fun v F hv => ?_, fun v G hv => ?_⟩
    · exact (read_yes p n m a F f A D a rfl v hv (by omega)).mono fun e w' ⟨he, hb, hk⟩ => ⟨_, _, he, hb, hk.row⟩
    · exact (rread_yes r n m a G f A D v hv (by omega)).mono fun e w' ⟨c, he, hb, hk⟩ => ⟨_, c, he, hb, hk⟩
  · refine ⟨1, 0, fun _ => 0, by omega, fun v F hv => ?_, fun v G hv => ?_⟩
    · obtain ⟨gs, gn, R, s, q, hd⟩ := hv
      exact (read_no _ z v (has_any _ n z false v (size_any p n n _ v hd.c2) (fun h1 h2 => absurd ⟨h1, h2⟩ hc) (fun _ => rfl))).mono fun e w' ⟨he, hw⟩ => ⟨_, _, he, by rw [hw]; exact Below.refl _ _, .inl rfl⟩
    · obtain ⟨S, P, hd⟩ := hv
      obtain ⟨x0, c0', hS0, _⟩ := ownsRow_form2 hd.sec_
      have c0 := hd.c0
      rw [hS0] at c0
      exact (rread_no r n c0' x0 z v c0 hc).mono fun e w' ⟨he, hw⟩ => ⟨_, _, he, by rw [hw]; exact Below.refl _ _, .inl rfl⟩

theorem pd_pend {w : World} {F : Nat → Prop} {p n m : Nat} {f A : Nat → Nat} {D : Nat → Nat → Nat} (h : Pd w F p n m f A D) : ∃ x c, w.cell? ⟨p, 1, none⟩ = some (.slice x m c) := by
  obtain ⟨gs, gn, R, s, q, h⟩ := h
  obtain ⟨x, c, hR, _⟩ := ownsRow_form h.own
  exact ⟨x, c, by rw [← hR]; exact h.c1⟩

theorem pd_wide {w : World} {F : Nat → Prop} {p n m : Nat} {f A : Nat → Nat} {D : Nat → Nat → Nat} (h : Pd w F p n m f A D) : ∃ x c, w.cell? ⟨p, 2, none⟩ = some (.slice x n c) := by
  obtain ⟨gs, gn, R, s, q, h⟩ := h
  exact ⟨_, _, h.c2⟩

theorem rd_pend {w : World} {G : Nat → Prop} {r n m : Nat} {f A : Nat → Nat} {D : Nat → Nat → Nat} (h : Rd w G r n m f A D) : ∃ x c, w.cell? ⟨r, 1, none⟩ = some (.slice x m c) := by
  obtain ⟨S, P, h⟩ := h
  obtain ⟨x, c, hR, _⟩ := ownsRow_form2 h.pen
  exact ⟨x, c, by rw [← hR]; exact h.c1⟩

set_option maxHeartbeats 2000000 in
set_option maxRecDepth 100000 in
theorem walk_no (z : Int) (a : Option Addr) (len cap : Nat) (w : World) (hz : z < 1 ∨ 4096 < z) :
    Calls Try.prog 3 #[.int .i64 z, .slice a len cap] w fun e w' => e = .returned (.bool true) ∧ Below w.heap.size w w' := by
  have hN := new_no z w hz
  have hR := rnew_no z w hz
  clear hz
  go_enter Try.func3, Try.ntmps3
  go_wp2_with (first
    | (go_at_call 7; refine hN.mono ?_; rintro e w1 ⟨rfl, hw⟩; subst w1; clear hN)
    | (go_at_call 8; refine hR.mono ?_; rintro e w1 ⟨rfl, hw⟩; subst w1; clear hR)
    | (go_at_call 9; refine (awake_any _).mono ?_; rintro e w5 ⟨rfl, hb5⟩))
  go_ret
  exact ⟨rfl, hb5⟩

theorem news (n : Nat) (w : World) (h1 : 1 ≤ n) (h2 : n ≤ 4096) :
    Calls Try.prog 7 #[.int .i64 (n : Int)] w fun e w' => ∃ p, e = .returned (.tuple #[.pointer (some ⟨p, 0, none⟩), .int .i64 0]) ∧ Calls Try.prog 8 #[.int .i64 (n : Int)] w' fun e w2 => ∃ r, e = .returned (.tuple #[.pointer (some ⟨r, 0, none⟩), .int .i64 0]) ∧ Both w.heap.size w w2 p r n 0 :=
  (new_yes n n rfl (fun _ => 0) (fun _ _ => 0) (fun _ _ => by omega) w h1 h2).mono fun e w' ⟨p, he, hb, hd⟩ => ⟨p, he,
    (rnew_yes n (fun _ => 0) (fun _ _ => 0) (fun _ _ => by omega) w' h1 h2).mono fun e w2 ⟨r, he2, hb2, hr⟩ => ⟨r, he2, _, _, _, _, _, hb.trans (hb2.mono hb.size), Nat.le_trans hb.size hb2.size, fun k hk => hk.1, fun k hk => Nat.le_trans hb.size hk.1, fun k hk hg => by omega, hd.below hb2, hr⟩⟩

set_option maxHeartbeats 2000000 in
set_option maxRecDepth 100000 in
theorem walk_wide (n : Nat) (a : Option Addr) (len cap : Nat) (w : World) (h1 : 300 < n) (h2 : n ≤ 4096) :
    Calls Try.prog 3 #[.int .i64 (n : Int), .slice a len cap] w fun e w' => e = .returned (.bool true) ∧ Below w.heap.size w w' := by
  have hN := news n w (by omega) h2
  go_enter Try.func3, Try.ntmps3
  go_wp2_with (first
    | (go_at_call 7; refine hN.mono ?_; rintro e w1 ⟨p, rfl, hR⟩; clear hN)
    | (go_at_call 8; refine hR.mono ?_; rintro e w2 ⟨r, rfl, hB⟩; clear hR
       obtain ⟨_, _, _, _, _, hT⟩ := hB
       have HB := hid hT.bel
       clear hT)
    | (go_at_call 9; refine (awake_any _).mono ?_; rintro e w5 ⟨rfl, hb5⟩))
  go_ret
  exact ⟨rfl, HB.out.trans (hb5.mono HB.out.size)⟩

set_option maxHeartbeats 8000000 in
set_option maxRecDepth 100000 in
theorem walk_yes (n : Nat) (a : Option Addr) (len cap : Nat) (V : Nat → ActV) (w : World) (h1 : 1 ≤ n) (h2 : n ≤ 300) (hl : ActsIn w a len cap V) :
    Calls Try.prog 3 #[.int .i64 (n : Int), .slice a len cap] w fun e w' => e = .returned (.bool true) ∧ Below w.heap.size w w' := by
  have hN := news n w h1 (by omega)
  have hsm := hl.small
  have HL := hid hl
  clear hl
  go_enter Try.func3, Try.ntmps3
  go_wp2_with (first
    | (go_at_call 7; refine hN.mono ?_; rintro e w1 ⟨p, rfl, hR⟩; clear hN)
    | (go_at_call 8; refine hR.mono ?_; rintro e w2 ⟨r, rfl, hB⟩; clear hR
       have HB := hid hB
       clear hB))
  go_loopw [9] (fun i wr => ∃ k : Nat, k ≤ 400 ∧ k ≤ len ∧ i = .int .i64 k ∧ Hid (∃ m, m ≤ k ∧ Both w.heap.size w wr p r n m)) (fun i _ => 400 - (intOf i).toNat)
  case atStart => exact ⟨0, by omega, by omega, rfl, 0, Nat.le_refl _, HB.out⟩
  case round =>
    obtain ⟨k, hk4, hk, rfl, HR⟩ := hrel
    clear HB
    by_cases hlt : k < len ∧ k < 400
    · obtain ⟨hlt1, hlt2⟩ := hlt
      have hk1' : (k : Int) < (len : Int) := by omega
      have hk2' : (k : Int) < 400 := by omega
      obtain ⟨m, hm, hB⟩ := HR.out
      rcases HL.out.row with h0' | ⟨b, o, rfl, hbl, hcells⟩
      · omega
      obtain ⟨f0, f1, f2, f3, f4⟩ := hcells k hlt1
      have hcl : ∀ v, Below w.heap.size w v → v.cell? ⟨b, o + k * 5, none⟩ = some (.int .i64 (V k).do_) ∧ v.cell? ⟨b, o + k * 5 + 1, none⟩ = some (.int .i64 (V k).at_) ∧ v.cell? ⟨b, o + k * 5 + 2, none⟩ = some (.slice (V k).x (V k).n (V k).c) ∧ v.cell? ⟨b, o + k * 5 + 3, none⟩ = some (.int .u8 ((V k).y : Int)) ∧ v.cell? ⟨b, o + k * 5 + 4, none⟩ = some (.slice (V k).u (V k).l (V k).k) := fun v hv =>
        ⟨(hv.cell (p := ⟨b, o + k * 5, none⟩) hbl).trans f0, (hv.cell (p := ⟨b, o + k * 5 + 1, none⟩) hbl).trans f1, (hv.cell (p := ⟨b, o + k * 5 + 2, none⟩) hbl).trans f2, (hv.cell (p := ⟨b, o + k * 5 + 3, none⟩) hbl).trans f3, (hv.cell (p := ⟨b, o + k * 5 + 4, none⟩) hbl).trans f4⟩
      have HCL := hid hcl
      have hBd : Both w.heap.size w wr.drew p r n m := by
        obtain ⟨F, G, f, A, D, hT⟩ := hB
        exact ⟨F, G, f, A, D, hT.drew⟩
      have s1 := hcl wr.drew (by obtain ⟨_, _, _, _, _, hT⟩ := hBd; exact hT.bel)
      have hdo := does_any p r n m (V k) w wr.drew hBd (HL.out.act k hlt1) (by omega)
      have HM := hid hm
      clear HR hB hBd f0 f1 f2 f3 f4 hcells hcl hm
      generalize (V k).do_ = v0 at *
      generalize (V k).at_ = v1 at *
      generalize (V k).x = v2 at *
      generalize (V k).n = v3 at *
      generalize (V k).c = v4 at *
      generalize (V k).y = v5 at *
      generalize (V k).u = v6 at *
      generalize (V k).l = v7 at *
      generalize (V k).k = v8 at *
      go_wp2_with fail
      refine wp_region_held_drew (S := fun v => v.cell? ⟨b, o + k * 5, none⟩ = some (.int .i64 v0) ∧ v.cell? ⟨b, o + k * 5 + 1, none⟩ = some (.int .i64 v1) ∧ v.cell? ⟨b, o + k * 5 + 2, none⟩ = some (.slice v2 v3 v4) ∧ v.cell? ⟨b, o + k * 5 + 3, none⟩ = some (.int .u8 (v5 : Int)) ∧ v.cell? ⟨b, o + k * 5 + 4, none⟩ = some (.slice v6 v7 v8)) (by kernel_rfl) s1 (fun hHeld => ?_)
      refine wpAnyH_take (i := 0) (v := ?_) rfl (by kernel_rfl) (by kernel_rfl) (by kernel_rfl) (fun _ _ _ h => h) (Or.inl ⟨by rfl, ?_⟩) (by assumption) ?_
      case refine_2 => (intro w hSw; (try dsimp only at hSw); go_simp; (try with_reducible rfl))
      (try simp only [Act.put, List.getElem_toArray, List.getElem_cons_succ, List.getElem_cons_zero, List.setIfInBounds_toArray, List.set_cons_zero, List.set_cons_succ])
      refine wpAnyH_take (i := 1) (v := ?_) rfl (by kernel_rfl) (by kernel_rfl) (by kernel_rfl) (fun _ _ _ h => h) (Or.inl ⟨by rfl, ?_⟩) (by assumption) ?_
      case refine_2 => (intro w hSw; (try dsimp only at hSw); go_simp; (try with_reducible rfl))
      (try simp only [Act.put, List.getElem_toArray, List.getElem_cons_succ, List.getElem_cons_zero, List.setIfInBounds_toArray, List.set_cons_zero, List.set_cons_succ])
      refine wpAnyH_take (i := 2) (v := ?_) rfl (by kernel_rfl) (by kernel_rfl) (by kernel_rfl) (fun _ _ _ h => h) (Or.inl ⟨by rfl, ?_⟩) (by assumption) ?_
      case refine_2 => (intro w hSw; (try dsimp only at hSw); go_simp; (try with_reducible rfl))
      (try simp only [Act.put, List.getElem_toArray, List.getElem_cons_succ, List.getElem_cons_zero, List.setIfInBounds_toArray, List.set_cons_zero, List.set_cons_succ])
      refine wpAnyH_take (i := 3) (v := ?_) rfl (by kernel_rfl) (by kernel_rfl) (by kernel_rfl) (fun _ _ _ h => h) (Or.inl ⟨by rfl, ?_⟩) (by assumption) ?_
      case refine_2 => (intro w hSw; (try dsimp only at hSw); go_simp; (try with_reducible rfl))
      (try simp only [Act.put, List.getElem_toArray, List.getElem_cons_succ, List.getElem_cons_zero, List.setIfInBounds_toArray, List.set_cons_zero, List.set_cons_succ])
      refine wpAnyH_take (i := 4) (v := ?_) rfl (by kernel_rfl) (by kernel_rfl) (by kernel_rfl) (fun _ _ _ h => h) (Or.inl ⟨by rfl, ?_⟩) (by assumption) ?_
      case refine_2 => (intro w hSw; (try dsimp only at hSw); go_simp; (try with_reducible rfl))
      (try simp only [Act.put, List.getElem_toArray, List.getElem_cons_succ, List.getElem_cons_zero, List.setIfInBounds_toArray, List.set_cons_zero, List.set_cons_succ])
      refine wpAnyH_take (i := 5) (v := ?_) rfl (by kernel_rfl) (by kernel_rfl) (by kernel_rfl) (fun _ _ _ h => h) (Or.inl ⟨by rfl, ?_⟩) (by assumption) ?_
      case refine_2 => (intro w hSw; (try dsimp only at hSw); go_simp; (try with_reducible rfl))
      (try simp only [Act.put, List.getElem_toArray, List.getElem_cons_succ, List.getElem_cons_zero, List.setIfInBounds_toArray, List.set_cons_zero, List.set_cons_succ])
      refine wpAnyH_ready (rs := [6]) (by kernel_rfl) (by simp) ?_
      refine AllReadyH.cons rfl (fun K hK => ?_) AllReadyH.nil
      go_simp
      refine hdo.mono ?_
      rintro e w2 ⟨rfl, m', hm', hB2⟩
      obtain ⟨F, G, f, A, D, hT2⟩ := hB2
      have s2 := HCL.out w2 hT2.bel
      refine hK.out _ _ s2 (fun hHeld => ?_)
      clear hK K
      obtain ⟨xp, cp, kp⟩ := pd_pend hT2.pd
      obtain ⟨xr, cr, kr⟩ := rd_pend hT2.rd
      have hPe := pending_any p m' cp xp w2 kp
      obtain ⟨q, N, dd, hN64, hRp, hRr⟩ := read_both p r n m' v1 f A D
      have hR1 := hRp w2 F hT2.pd
      have HT2 := hid hT2
      have HRr := hid hRr
      have HM2 : Hid (m' ≤ k + 1) := by have := HM.out; show m' ≤ k + 1; omega
      have hm9 : m' ≤ 1000 := by have := hT2.pd.n1; omega
      clear hdo hm' hT2 hRp hRr kp HM
      obtain ⟨S, hS⟩ : ∃ S, S = strOfNums (nums dd N) := ⟨_, rfl⟩
      have HS := hid hS
      clear hS
      refine wpAnyH_take (i := 7) (v := ?_) rfl (by kernel_rfl) (by kernel_rfl) (by kernel_rfl) (fun _ _ _ h => h) (Or.inl ⟨by rfl, ?_⟩) (by assumption) ?_
      case refine_2 => (intro w hSw; (try dsimp only at hSw); go_simp; (try with_reducible rfl))
      (try simp only [Act.put, List.getElem_toArray, List.getElem_cons_succ, List.getElem_cons_zero, List.setIfInBounds_toArray, List.set_cons_zero, List.set_cons_succ])
      refine wpAnyH_take (i := 8) (v := ?_) rfl (by kernel_rfl) (by kernel_rfl) (by kernel_rfl) (fun _ _ _ h => h) (Or.inl ⟨by rfl, ?_⟩) (by assumption) ?_
      case refine_2 => (intro w hSw; (try dsimp only at hSw); go_simp; (try with_reducible rfl))
      (try simp only [Act.put, List.getElem_toArray, List.getElem_cons_succ, List.getElem_cons_zero, List.setIfInBounds_toArray, List.set_cons_zero, List.set_cons_succ])
      refine wpAnyH_take (i := 9) (v := ?_) rfl (by kernel_rfl) (by kernel_rfl) (by kernel_rfl) (fun _ _ _ h => h) (Or.inl ⟨by rfl, ?_⟩) (by assumption) ?_
      case refine_2 => (intro w hSw; (try dsimp only at hSw); go_simp; (try with_reducible rfl))
      (try simp only [Act.put, List.getElem_toArray, List.getElem_cons_succ, List.getElem_cons_zero, List.setIfInBounds_toArray, List.set_cons_zero, List.set_cons_succ])
      refine wpAnyH_take (i := 11) (v := ?_) rfl (by kernel_rfl) (by kernel_rfl) (by kernel_rfl) (fun _ _ _ h => h) (Or.inl ⟨by rfl, ?_⟩) (by assumption) ?_
      case refine_2 => (intro w hSw; (try dsimp only at hSw); go_simp; (try with_reducible rfl))
      (try simp only [Act.put, List.getElem_toArray, List.getElem_cons_succ, List.getElem_cons_zero, List.setIfInBounds_toArray, List.set_cons_zero, List.set_cons_succ])
      refine wpAnyH_take (i := 12) (v := ?_) rfl (by kernel_rfl) (by kernel_rfl) (by kernel_rfl) (fun _ _ _ h => h) (Or.inl ⟨by rfl, ?_⟩) (by assumption) ?_
      case refine_2 => (intro w hSw; (try dsimp only at hSw); go_simp; (try with_reducible rfl))
      (try simp only [Act.put, List.getElem_toArray, List.getElem_cons_succ, List.getElem_cons_zero, List.setIfInBounds_toArray, List.set_cons_zero, List.set_cons_succ])
      refine wpAnyH_take (i := 13) (v := ?_) rfl (by kernel_rfl) (by kernel_rfl) (by kernel_rfl) (fun _ _ _ h => h) (Or.inl ⟨by rfl, ?_⟩) (by assumption) ?_
      case refine_2 => (intro w hSw; (try dsimp only at hSw); go_simp; (try with_reducible rfl))
      (try simp only [Act.put, List.getElem_toArray, List.getElem_cons_succ, List.getElem_cons_zero, List.setIfInBounds_toArray, List.set_cons_zero, List.set_cons_succ])
      refine wpAnyH_ready (rs := [10, 14]) (by kernel_rfl) (by simp) ?_
      refine AllReadyH.cons rfl (fun K hK => ?_) (AllReadyH.cons rfl (fun K hK => ?_) AllReadyH.nil)
      · go_simp
        refine hPe.mono ?_
        rintro e w' ⟨rfl, hw⟩
        subst w'
        refine hK.out _ _ s2 (fun hHeld => ?_)
        clear hK K
        refine wpAnyH_ready (rs := [14]) (by kernel_rfl) (by simp) ?_
        refine AllReadyH.cons rfl (fun K hK => ?_) AllReadyH.nil
        go_simp
        refine hK.out _ _ s2 (fun hHeld => ?_)
        clear hK K
        refine wpAnyH_take (i := 15) (v := ?_) rfl (by kernel_rfl) (by kernel_rfl) (by kernel_rfl) (fun _ _ _ h => h) (Or.inl ⟨by rfl, ?_⟩) (by assumption) ?_
        case refine_2 => (intro w hSw; (try dsimp only at hSw); go_simp; (try with_reducible rfl))
        (try simp only [Act.put, List.getElem_toArray, List.getElem_cons_succ, List.getElem_cons_zero, List.setIfInBounds_toArray, List.set_cons_zero, List.set_cons_succ])
        refine wpAnyH_take (i := 16) (v := ?_) rfl (by kernel_rfl) (by kernel_rfl) (by kernel_rfl) (fun _ _ _ h => h) (Or.inl ⟨by rfl, ?_⟩) (by assumption) ?_
        case refine_2 => (intro w hSw; (try dsimp only at hSw); go_simp; (try with_reducible rfl))
        (try simp only [Act.put, List.getElem_toArray, List.getElem_cons_succ, List.getElem_cons_zero, List.setIfInBounds_toArray, List.set_cons_zero, List.set_cons_succ])
        refine wpAnyH_take (i := 17) (v := ?_) rfl (by kernel_rfl) (by kernel_rfl) (by kernel_rfl) (fun _ _ _ h => h) (Or.inl ⟨by rfl, ?_⟩) (by assumption) ?_
        case refine_2 => (intro w hSw; (try dsimp only at hSw); go_simp; (try with_reducible rfl))
        (try simp only [Act.put, List.getElem_toArray, List.getElem_cons_succ, List.getElem_cons_zero, List.setIfInBounds_toArray, List.set_cons_zero, List.set_cons_succ])
        refine wpAnyH_done (by kernel_rfl) ?_ _
        clear hPe
        go_wp2_with (first
          | (go_at_call 12; refine hR1.mono ?_; rintro e w3 ⟨x3, c3, rfl, b3, r3⟩; clear hR1
             have h3 := HT2.out.below b3
             have k3 := (HCL.out w3 h3.bel).2.1
             have hR2 := HRr.out w3 _ h3.rd
             have HT3 := hid h3
             have HR3 := hid r3
             clear h3 b3 r3 HT2 HRr)
          | (go_at_call 13; refine hR2.mono ?_; rintro e w4 ⟨x4, c4, rfl, b4, r4⟩; clear hR2
             have h4 := HT3.out.below b4
             have cv3 : (convert 32 9 (.slice x3 N c3)).run Try.prog w4 = .ok (.string S) w4 := by rw [conv_row w4 _ N c3 dd (HR3.out.below b4), HS.out]
             have cv4 : (convert 32 9 (.slice x4 N c4)).run Try.prog w4 = .ok (.string S) w4 := by rw [conv_row w4 _ N c4 dd r4, HS.out]
             have HT4 := hid h4
             clear h4 b4 r4 HT3 HR3))
        go_roundw
        case rel => exact ⟨k + 1, by omega, by omega, by go_num, m', HM2.out, _, _, _, _, _, HT4.out⟩
        case measure => simp [intOf]; omega
      · go_simp
        refine hK.out _ _ s2 (fun hHeld => ?_)
        clear hK K
        refine wpAnyH_take (i := 15) (v := ?_) rfl (by kernel_rfl) (by kernel_rfl) (by kernel_rfl) (fun _ _ _ h => h) (Or.inl ⟨by rfl, ?_⟩) (by assumption) ?_
        case refine_2 => (intro w hSw; (try dsimp only at hSw); go_simp; (try with_reducible rfl))
        (try simp only [Act.put, List.getElem_toArray, List.getElem_cons_succ, List.getElem_cons_zero, List.setIfInBounds_toArray, List.set_cons_zero, List.set_cons_succ])
        refine wpAnyH_ready (rs := [10]) (by kernel_rfl) (by simp) ?_
        refine AllReadyH.cons rfl (fun K hK => ?_) AllReadyH.nil
        go_simp
        refine hPe.mono ?_
        rintro e w' ⟨rfl, hw⟩
        subst w'
        refine hK.out _ _ s2 (fun hHeld => ?_)
        clear hK K
        refine wpAnyH_take (i := 16) (v := ?_) rfl (by kernel_rfl) (by kernel_rfl) (by kernel_rfl) (fun _ _ _ h => h) (Or.inl ⟨by rfl, ?_⟩) (by assumption) ?_
        case refine_2 => (intro w hSw; (try dsimp only at hSw); go_simp; (try with_reducible rfl))
        (try simp only [Act.put, List.getElem_toArray, List.getElem_cons_succ, List.getElem_cons_zero, List.setIfInBounds_toArray, List.set_cons_zero, List.set_cons_succ])
        refine wpAnyH_take (i := 17) (v := ?_) rfl (by kernel_rfl) (by kernel_rfl) (by kernel_rfl) (fun _ _ _ h => h) (Or.inl ⟨by rfl, ?_⟩) (by assumption) ?_
        case refine_2 => (intro w hSw; (try dsimp only at hSw); go_simp; (try with_reducible rfl))
        (try simp only [Act.put, List.getElem_toArray, List.getElem_cons_succ, List.getElem_cons_zero, List.setIfInBounds_toArray, List.set_cons_zero, List.set_cons_succ])
        refine wpAnyH_done (by kernel_rfl) ?_ _
        clear hPe
        go_wp2_with (first
          | (go_at_call 12; refine hR1.mono ?_; rintro e w3 ⟨x3, c3, rfl, b3, r3⟩; clear hR1
             have h3 := HT2.out.below b3
             have k3 := (HCL.out w3 h3.bel).2.1
             have hR2 := HRr.out w3 _ h3.rd
             have HT3 := hid h3
             have HR3 := hid r3
             clear h3 b3 r3 HT2 HRr)
          | (go_at_call 13; refine hR2.mono ?_; rintro e w4 ⟨x4, c4, rfl, b4, r4⟩; clear hR2
             have h4 := HT3.out.below b4
             have cv3 : (convert 32 9 (.slice x3 N c3)).run Try.prog w4 = .ok (.string S) w4 := by rw [conv_row w4 _ N c3 dd (HR3.out.below b4), HS.out]
             have cv4 : (convert 32 9 (.slice x4 N c4)).run Try.prog w4 = .ok (.string S) w4 := by rw [conv_row w4 _ N c4 dd r4, HS.out]
             have HT4 := hid h4
             clear h4 b4 r4 HT3 HR3))
        go_roundw
        case rel => exact ⟨k + 1, by omega, by omega, by go_num, m', HM2.out, _, _, _, _, _, HT4.out⟩
        case measure => simp [intOf]; omega
    · obtain ⟨m, hm, hB⟩ := HR.out
      obtain ⟨F, G, f, A, D, hT⟩ := hB
      have hd := hT.drew
      have hDu := dump_any p n m F f A D wr.drew hd.pd
      have hex : (len : Int) ≤ (k : Int) ∨ ((k : Int) < (len : Int) ∧ (400 : Int) ≤ (k : Int)) := by omega
      have HT := hid hd
      have hn1 := h1
      obtain ⟨sn, hsn⟩ : ∃ s, s = 64 * n := ⟨_, rfl⟩
      obtain ⟨S, hS⟩ : ∃ S, S = strOfNums (nums f sn) := ⟨_, rfl⟩
      have HS := hid hS
      have HSN := hid hsn
      clear HR hT hd hm hlt HL hS hsn
      rcases hex with hex | ⟨hex1, hex2⟩
      all_goals
        go_wp2_with fail
        refine wp_region_held_drew (S := fun _ => True) (by kernel_rfl) trivial (fun hHeld => ?_)
        refine wpAnyH_take (i := 0) (v := ?_) rfl (by kernel_rfl) (by kernel_rfl) (by kernel_rfl) (fun _ _ _ h => h) (Or.inl ⟨by rfl, ?_⟩) (by assumption) ?_
        case refine_2 => (intro w hSw; (try dsimp only at hSw); go_simp; (try with_reducible rfl))
        (try simp only [Act.put, List.getElem_toArray, List.getElem_cons_succ, List.getElem_cons_zero, List.setIfInBounds_toArray, List.set_cons_zero, List.set_cons_succ])
        refine wpAnyH_take (i := 3) (v := ?_) rfl (by kernel_rfl) (by kernel_rfl) (by kernel_rfl) (fun _ _ _ h => h) (Or.inl ⟨by rfl, ?_⟩) (by assumption) ?_
        case refine_2 => (intro w hSw; (try dsimp only at hSw); go_simp; (try with_reducible rfl))
        (try simp only [Act.put, List.getElem_toArray, List.getElem_cons_succ, List.getElem_cons_zero, List.setIfInBounds_toArray, List.set_cons_zero, List.set_cons_succ])
        refine wpAnyH_ready (rs := [1]) (by kernel_rfl) (by simp) ?_
        refine AllReadyH.cons rfl (fun K hK => ?_) AllReadyH.nil
        go_simp
        refine hDu.mono ?_
        rintro e w3 ⟨s1, hs1, rfl, b3, k3⟩
        have hs2 : s1 = sn := hs1.trans HSN.out.symm
        subst hs2
        have h3 := HT.out.below b3
        have cv1 : (convert 32 9 (.slice (some ⟨wr.drew.heap.size, 0, none⟩) s1 s1)).run Try.prog w3 = .ok (.string S) w3 := by rw [conv_row w3 _ s1 s1 f k3.row, HS.out]
        have hRd := rdump_any r n m G f A D w3 h3.rd hn1
        have cvA : ∀ v, Below w3.heap.size w3 v → (convert 32 9 (.slice (some ⟨wr.drew.heap.size, 0, none⟩) s1 s1)).run Try.prog v = .ok (.string S) v := fun v hv => by rw [conv_row v _ s1 s1 f (k3.row.below hv), HS.out]
        have HT3 := hid h3
        have HSN3 := hid hs1
        have HCV := hid cvA
        clear h3 b3 k3 hDu hs1 HT cvA HSN
        have hd9 : wr.drew.heap.size = wr.heap.size := rfl
        rw [hd9] at cv1 HCV
        refine hK.out _ _ trivial (fun hHeld => ?_)
        clear hK K
        refine wpAnyH_ready (rs := [2, 4]) (by kernel_rfl) (by simp) ?_
        refine AllReadyH.cons rfl (fun K hK => ?_) (AllReadyH.cons rfl (fun K hK => ?_) AllReadyH.nil)
        · go_simp
          refine hK.out _ _ trivial (fun hHeld => ?_)
          clear hK K
          refine wpAnyH_ready (rs := [4]) (by kernel_rfl) (by simp) ?_
          refine AllReadyH.cons rfl (fun K hK => ?_) AllReadyH.nil
          go_simp
          refine hRd.mono ?_
          rintro e w4 ⟨s2, x4, c4, hs2, rfl, b4, r4⟩
          have hs3 : s2 = s1 := hs2.trans HSN3.out.symm
          subst hs3
          have h4 := HT3.out.below b4
          have cv2 : (convert 32 9 (.slice x4 s2 c4)).run Try.prog w4 = .ok (.string S) w4 := by rw [conv_row w4 _ s2 c4 f r4, HS.out]
          obtain ⟨xw, cw, kw⟩ := pd_wide h4.pd
          have hSz := size_any p n cw xw w4 kw
          have hA := awake_any w4
          have HBel := hid h4.bel
          have HB4 := hid b4
          clear h4 b4 r4 hs2 HT3 hRd HSN3 kw
          refine hK.out _ _ trivial (fun hHeld => ?_)
          clear hK K
          refine wpAnyH_ready (rs := [5]) (by kernel_rfl) (by simp) ?_
          refine AllReadyH.cons rfl (fun K hK => ?_) AllReadyH.nil
          go_simp
          refine hK.out _ _ trivial (fun hHeld => ?_)
          clear hK K
          refine wpAnyH_take (i := 6) (v := ?_) rfl (by kernel_rfl) (by kernel_rfl) (by kernel_rfl) (fun _ _ _ h => h) (Or.inl ⟨by rfl, ?_⟩) (by assumption) ?_
          case refine_2 => (intro w hSw; (try dsimp only at hSw); go_simp; (try with_reducible rfl))
          (try simp only [Act.put, List.getElem_toArray, List.getElem_cons_succ, List.getElem_cons_zero, List.setIfInBounds_toArray, List.set_cons_zero, List.set_cons_succ])
          refine wpAnyH_take (i := 7) (v := ?_) rfl (by kernel_rfl) (by kernel_rfl) (by kernel_rfl) (fun _ _ _ h => h) (Or.inl ⟨by rfl, ?_⟩) (by assumption) ?_
          case refine_2 => (intro w hSw; (try dsimp only at hSw); go_simp; (try with_reducible rfl))
          (try simp only [Act.put, List.getElem_toArray, List.getElem_cons_succ, List.getElem_cons_zero, List.setIfInBounds_toArray, List.set_cons_zero, List.set_cons_succ])
          refine wpAnyH_take (i := 8) (v := ?_) rfl (by kernel_rfl) (by kernel_rfl) (by kernel_rfl) (fun _ _ _ h => h) (Or.inl ⟨by rfl, ?_⟩) (by assumption) ?_
          case refine_2 => (intro w hSw; (try dsimp only at hSw); go_simp; (try with_reducible rfl))
          (try simp only [Act.put, List.getElem_toArray, List.getElem_cons_succ, List.getElem_cons_zero, List.setIfInBounds_toArray, List.set_cons_zero, List.set_cons_succ])
          refine wpAnyH_take (i := 10) (v := ?_) rfl (by kernel_rfl) (by kernel_rfl) (by kernel_rfl) (fun _ _ _ h => h) (Or.inl ⟨by rfl, ?_⟩) (by assumption) ?_
          case refine_2 => (intro w hSw; (try dsimp only at hSw); go_simp; (try with_reducible rfl))
          (try simp only [Act.put, List.getElem_toArray, List.getElem_cons_succ, List.getElem_cons_zero, List.setIfInBounds_toArray, List.set_cons_zero, List.set_cons_succ])
          refine wpAnyH_ready (rs := [9]) (by kernel_rfl) (by simp) ?_
          refine AllReadyH.cons rfl (fun K hK => ?_) AllReadyH.nil
          go_simp
          refine hSz.mono ?_
          rintro e w' ⟨rfl, hw⟩
          subst w'
          refine hK.out _ _ trivial (fun hHeld => ?_)
          clear hK K
          refine wpAnyH_take (i := 11) (v := ?_) rfl (by kernel_rfl) (by kernel_rfl) (by kernel_rfl) (fun _ _ _ h => h) (Or.inl ⟨by rfl, ?_⟩) (by assumption) ?_
          case refine_2 => (intro w hSw; (try dsimp only at hSw); go_simp; (try with_reducible rfl))
          (try simp only [Act.put, List.getElem_toArray, List.getElem_cons_succ, List.getElem_cons_zero, List.setIfInBounds_toArray, List.set_cons_zero, List.set_cons_succ])
          refine wpAnyH_take (i := 12) (v := ?_) rfl (by kernel_rfl) (by kernel_rfl) (by kernel_rfl) (fun _ _ _ h => h) (Or.inl ⟨by rfl, ?_⟩) (by assumption) ?_
          case refine_2 => (intro w hSw; (try dsimp only at hSw); go_simp; (try with_reducible rfl))
          (try simp only [Act.put, List.getElem_toArray, List.getElem_cons_succ, List.getElem_cons_zero, List.setIfInBounds_toArray, List.set_cons_zero, List.set_cons_succ])
          refine wpAnyH_take (i := 13) (v := ?_) rfl (by kernel_rfl) (by kernel_rfl) (by kernel_rfl) (fun _ _ _ h => h) (Or.inl ⟨by rfl, ?_⟩) (by assumption) ?_
          case refine_2 => (intro w hSw; (try dsimp only at hSw); go_simp; (try with_reducible rfl))
          (try simp only [Act.put, List.getElem_toArray, List.getElem_cons_succ, List.getElem_cons_zero, List.setIfInBounds_toArray, List.set_cons_zero, List.set_cons_succ])
          refine wpAnyH_ready (rs := [14]) (by kernel_rfl) (by simp) ?_
          refine AllReadyH.cons rfl (fun K hK => ?_) AllReadyH.nil
          go_simp
          refine hA.mono ?_
          rintro e w5 ⟨rfl, hb5⟩
          refine hK.out _ _ trivial (fun hHeld => ?_)
          clear hK K
          refine wpAnyH_take (i := 15) (v := ?_) rfl (by kernel_rfl) (by kernel_rfl) (by kernel_rfl) (fun _ _ _ h => h) (Or.inl ⟨by rfl, ?_⟩) (by assumption) ?_
          case refine_2 => (intro w hSw; (try dsimp only at hSw); go_simp; (try with_reducible rfl))
          (try simp only [Act.put, List.getElem_toArray, List.getElem_cons_succ, List.getElem_cons_zero, List.setIfInBounds_toArray, List.set_cons_zero, List.set_cons_succ])
          refine wpAnyH_take (i := 16) (v := ?_) rfl (by kernel_rfl) (by kernel_rfl) (by kernel_rfl) (fun _ _ _ h => h) (Or.inl ⟨by rfl, ?_⟩) (by assumption) ?_
          case refine_2 => (intro w hSw; (try dsimp only at hSw); go_simp; (try with_reducible rfl))
          (try simp only [Act.put, List.getElem_toArray, List.getElem_cons_succ, List.getElem_cons_zero, List.setIfInBounds_toArray, List.set_cons_zero, List.set_cons_succ])
          refine wpAnyH_done (by kernel_rfl) ?_ _
          go_wp2_with fail
          go_ret
          exact ⟨rfl, HBel.out.trans (hb5.mono HBel.out.size)⟩
        · go_simp
          refine hRd.mono ?_
          rintro e w4 ⟨s2, x4, c4, hs2, rfl, b4, r4⟩
          have hs3 : s2 = s1 := hs2.trans HSN3.out.symm
          subst hs3
          have h4 := HT3.out.below b4
          have cv2 : (convert 32 9 (.slice x4 s2 c4)).run Try.prog w4 = .ok (.string S) w4 := by rw [conv_row w4 _ s2 c4 f r4, HS.out]
          obtain ⟨xw, cw, kw⟩ := pd_wide h4.pd
          have hSz := size_any p n cw xw w4 kw
          have hA := awake_any w4
          have HBel := hid h4.bel
          have HB4 := hid b4
          clear h4 b4 r4 hs2 HT3 hRd HSN3 kw
          refine hK.out _ _ trivial (fun hHeld => ?_)
          clear hK K
          have cvB := HCV.out w4 HB4.out
          refine wpAnyH_ready (rs := [2, 5]) (by kernel_rfl) (by simp) ?_
          refine AllReadyH.cons rfl (fun K hK => ?_) (AllReadyH.cons rfl (fun K hK => ?_) AllReadyH.nil)
          · go_simp
            refine hK.out _ _ trivial (fun hHeld => ?_)
            clear hK K
            refine wpAnyH_ready (rs := [5]) (by kernel_rfl) (by simp) ?_
            refine AllReadyH.cons rfl (fun K hK => ?_) AllReadyH.nil
            go_simp
            refine hK.out _ _ trivial (fun hHeld => ?_)
            clear hK K
            refine wpAnyH_take (i := 6) (v := ?_) rfl (by kernel_rfl) (by kernel_rfl) (by kernel_rfl) (fun _ _ _ h => h) (Or.inl ⟨by rfl, ?_⟩) (by assumption) ?_
            case refine_2 => (intro w hSw; (try dsimp only at hSw); go_simp; (try with_reducible rfl))
            (try simp only [Act.put, List.getElem_toArray, List.getElem_cons_succ, List.getElem_cons_zero, List.setIfInBounds_toArray, List.set_cons_zero, List.set_cons_succ])
            refine wpAnyH_take (i := 7) (v := ?_) rfl (by kernel_rfl) (by kernel_rfl) (by kernel_rfl) (fun _ _ _ h => h) (Or.inl ⟨by rfl, ?_⟩) (by assumption) ?_
            case refine_2 => (intro w hSw; (try dsimp only at hSw); go_simp; (try with_reducible rfl))
            (try simp only [Act.put, List.getElem_toArray, List.getElem_cons_succ, List.getElem_cons_zero, List.setIfInBounds_toArray, List.set_cons_zero, List.set_cons_succ])
            refine wpAnyH_take (i := 8) (v := ?_) rfl (by kernel_rfl) (by kernel_rfl) (by kernel_rfl) (fun _ _ _ h => h) (Or.inl ⟨by rfl, ?_⟩) (by assumption) ?_
            case refine_2 => (intro w hSw; (try dsimp only at hSw); go_simp; (try with_reducible rfl))
            (try simp only [Act.put, List.getElem_toArray, List.getElem_cons_succ, List.getElem_cons_zero, List.setIfInBounds_toArray, List.set_cons_zero, List.set_cons_succ])
            refine wpAnyH_take (i := 10) (v := ?_) rfl (by kernel_rfl) (by kernel_rfl) (by kernel_rfl) (fun _ _ _ h => h) (Or.inl ⟨by rfl, ?_⟩) (by assumption) ?_
            case refine_2 => (intro w hSw; (try dsimp only at hSw); go_simp; (try with_reducible rfl))
            (try simp only [Act.put, List.getElem_toArray, List.getElem_cons_succ, List.getElem_cons_zero, List.setIfInBounds_toArray, List.set_cons_zero, List.set_cons_succ])
            refine wpAnyH_ready (rs := [9]) (by kernel_rfl) (by simp) ?_
            refine AllReadyH.cons rfl (fun K hK => ?_) AllReadyH.nil
            go_simp
            refine hSz.mono ?_
            rintro e w' ⟨rfl, hw⟩
            subst w'
            refine hK.out _ _ trivial (fun hHeld => ?_)
            clear hK K
            refine wpAnyH_take (i := 11) (v := ?_) rfl (by kernel_rfl) (by kernel_rfl) (by kernel_rfl) (fun _ _ _ h => h) (Or.inl ⟨by rfl, ?_⟩) (by assumption) ?_
            case refine_2 => (intro w hSw; (try dsimp only at hSw); go_simp; (try with_reducible rfl))
            (try simp only [Act.put, List.getElem_toArray, List.getElem_cons_succ, List.getElem_cons_zero, List.setIfInBounds_toArray, List.set_cons_zero, List.set_cons_succ])
            refine wpAnyH_take (i := 12) (v := ?_) rfl (by kernel_rfl) (by kernel_rfl) (by kernel_rfl) (fun _ _ _ h => h) (Or.inl ⟨by rfl, ?_⟩) (by assumption) ?_
            case refine_2 => (intro w hSw; (try dsimp only at hSw); go_simp; (try with_reducible rfl))
            (try simp only [Act.put, List.getElem_toArray, List.getElem_cons_succ, List.getElem_cons_zero, List.setIfInBounds_toArray, List.set_cons_zero, List.set_cons_succ])
            refine wpAnyH_take (i := 13) (v := ?_) rfl (by kernel_rfl) (by kernel_rfl) (by kernel_rfl) (fun _ _ _ h => h) (Or.inl ⟨by rfl, ?_⟩) (by assumption) ?_
            case refine_2 => (intro w hSw; (try dsimp only at hSw); go_simp; (try with_reducible rfl))
            (try simp only [Act.put, List.getElem_toArray, List.getElem_cons_succ, List.getElem_cons_zero, List.setIfInBounds_toArray, List.set_cons_zero, List.set_cons_succ])
            refine wpAnyH_ready (rs := [14]) (by kernel_rfl) (by simp) ?_
            refine AllReadyH.cons rfl (fun K hK => ?_) AllReadyH.nil
            go_simp
            refine hA.mono ?_
            rintro e w5 ⟨rfl, hb5⟩
            refine hK.out _ _ trivial (fun hHeld => ?_)
            clear hK K
            refine wpAnyH_take (i := 15) (v := ?_) rfl (by kernel_rfl) (by kernel_rfl) (by kernel_rfl) (fun _ _ _ h => h) (Or.inl ⟨by rfl, ?_⟩) (by assumption) ?_
            case refine_2 => (intro w hSw; (try dsimp only at hSw); go_simp; (try with_reducible rfl))
            (try simp only [Act.put, List.getElem_toArray, List.getElem_cons_succ, List.getElem_cons_zero, List.setIfInBounds_toArray, List.set_cons_zero, List.set_cons_succ])
            refine wpAnyH_take (i := 16) (v := ?_) rfl (by kernel_rfl) (by kernel_rfl) (by kernel_rfl) (fun _ _ _ h => h) (Or.inl ⟨by rfl, ?_⟩) (by assumption) ?_
            case refine_2 => (intro w hSw; (try dsimp only at hSw); go_simp; (try with_reducible rfl))
            (try simp only [Act.put, List.getElem_toArray, List.getElem_cons_succ, List.getElem_cons_zero, List.setIfInBounds_toArray, List.set_cons_zero, List.set_cons_succ])
            refine wpAnyH_done (by kernel_rfl) ?_ _
            go_wp2_with fail
            go_ret
            exact ⟨rfl, HBel.out.trans (hb5.mono HBel.out.size)⟩
          · go_simp
            refine hK.out _ _ trivial (fun hHeld => ?_)
            clear hK K
            refine wpAnyH_ready (rs := [2]) (by kernel_rfl) (by simp) ?_
            refine AllReadyH.cons rfl (fun K hK => ?_) AllReadyH.nil
            go_simp
            refine hK.out _ _ trivial (fun hHeld => ?_)
            clear hK K
            refine wpAnyH_take (i := 6) (v := ?_) rfl (by kernel_rfl) (by kernel_rfl) (by kernel_rfl) (fun _ _ _ h => h) (Or.inl ⟨by rfl, ?_⟩) (by assumption) ?_
            case refine_2 => (intro w hSw; (try dsimp only at hSw); go_simp; (try with_reducible rfl))
            (try simp only [Act.put, List.getElem_toArray, List.getElem_cons_succ, List.getElem_cons_zero, List.setIfInBounds_toArray, List.set_cons_zero, List.set_cons_succ])
            refine wpAnyH_take (i := 7) (v := ?_) rfl (by kernel_rfl) (by kernel_rfl) (by kernel_rfl) (fun _ _ _ h => h) (Or.inl ⟨by rfl, ?_⟩) (by assumption) ?_
            case refine_2 => (intro w hSw; (try dsimp only at hSw); go_simp; (try with_reducible rfl))
            (try simp only [Act.put, List.getElem_toArray, List.getElem_cons_succ, List.getElem_cons_zero, List.setIfInBounds_toArray, List.set_cons_zero, List.set_cons_succ])
            refine wpAnyH_take (i := 8) (v := ?_) rfl (by kernel_rfl) (by kernel_rfl) (by kernel_rfl) (fun _ _ _ h => h) (Or.inl ⟨by rfl, ?_⟩) (by assumption) ?_
            case refine_2 => (intro w hSw; (try dsimp only at hSw); go_simp; (try with_reducible rfl))
            (try simp only [Act.put, List.getElem_toArray, List.getElem_cons_succ, List.getElem_cons_zero, List.setIfInBounds_toArray, List.set_cons_zero, List.set_cons_succ])
            refine wpAnyH_take (i := 10) (v := ?_) rfl (by kernel_rfl) (by kernel_rfl) (by kernel_rfl) (fun _ _ _ h => h) (Or.inl ⟨by rfl, ?_⟩) (by assumption) ?_
            case refine_2 => (intro w hSw; (try dsimp only at hSw); go_simp; (try with_reducible rfl))
            (try simp only [Act.put, List.getElem_toArray, List.getElem_cons_succ, List.getElem_cons_zero, List.setIfInBounds_toArray, List.set_cons_zero, List.set_cons_succ])
            refine wpAnyH_ready (rs := [9]) (by kernel_rfl) (by simp) ?_
            refine AllReadyH.cons rfl (fun K hK => ?_) AllReadyH.nil
            go_simp
            refine hSz.mono ?_
            rintro e w' ⟨rfl, hw⟩
            subst w'
            refine hK.out _ _ trivial (fun hHeld => ?_)
            clear hK K
            refine wpAnyH_take (i := 11) (v := ?_) rfl (by kernel_rfl) (by kernel_rfl) (by kernel_rfl) (fun _ _ _ h => h) (Or.inl ⟨by rfl, ?_⟩) (by assumption) ?_
            case refine_2 => (intro w hSw; (try dsimp only at hSw); go_simp; (try with_reducible rfl))
            (try simp only [Act.put, List.getElem_toArray, List.getElem_cons_succ, List.getElem_cons_zero, List.setIfInBounds_toArray, List.set_cons_zero, List.set_cons_succ])
            refine wpAnyH_take (i := 12) (v := ?_) rfl (by kernel_rfl) (by kernel_rfl) (by kernel_rfl) (fun _ _ _ h => h) (Or.inl ⟨by rfl, ?_⟩) (by assumption) ?_
            case refine_2 => (intro w hSw; (try dsimp only at hSw); go_simp; (try with_reducible rfl))
            (try simp only [Act.put, List.getElem_toArray, List.getElem_cons_succ, List.getElem_cons_zero, List.setIfInBounds_toArray, List.set_cons_zero, List.set_cons_succ])
            refine wpAnyH_take (i := 13) (v := ?_) rfl (by kernel_rfl) (by kernel_rfl) (by kernel_rfl) (fun _ _ _ h => h) (Or.inl ⟨by rfl, ?_⟩) (by assumption) ?_
            case refine_2 => (intro w hSw; (try dsimp only at hSw); go_simp; (try with_reducible rfl))
            (try simp only [Act.put, List.getElem_toArray, List.getElem_cons_succ, List.getElem_cons_zero, List.setIfInBounds_toArray, List.set_cons_zero, List.set_cons_succ])
            refine wpAnyH_ready (rs := [14]) (by kernel_rfl) (by simp) ?_
            refine AllReadyH.cons rfl (fun K hK => ?_) AllReadyH.nil
            go_simp
            refine hA.mono ?_
            rintro e w5 ⟨rfl, hb5⟩
            refine hK.out _ _ trivial (fun hHeld => ?_)
            clear hK K
            refine wpAnyH_take (i := 15) (v := ?_) rfl (by kernel_rfl) (by kernel_rfl) (by kernel_rfl) (fun _ _ _ h => h) (Or.inl ⟨by rfl, ?_⟩) (by assumption) ?_
            case refine_2 => (intro w hSw; (try dsimp only at hSw); go_simp; (try with_reducible rfl))
            (try simp only [Act.put, List.getElem_toArray, List.getElem_cons_succ, List.getElem_cons_zero, List.setIfInBounds_toArray, List.set_cons_zero, List.set_cons_succ])
            refine wpAnyH_take (i := 16) (v := ?_) rfl (by kernel_rfl) (by kernel_rfl) (by kernel_rfl) (fun _ _ _ h => h) (Or.inl ⟨by rfl, ?_⟩) (by assumption) ?_
            case refine_2 => (intro w hSw; (try dsimp only at hSw); go_simp; (try with_reducible rfl))
            (try simp only [Act.put, List.getElem_toArray, List.getElem_cons_succ, List.getElem_cons_zero, List.setIfInBounds_toArray, List.set_cons_zero, List.set_cons_succ])
            refine wpAnyH_done (by kernel_rfl) ?_ _
            go_wp2_with fail
            go_ret
            exact ⟨rfl, HBel.out.trans (hb5.mono HBel.out.size)⟩

theorem walk (z : Int) (a : Option Addr) (len cap : Nat) (V : Nat → ActV) (w : World) (hz : (Lit.int .i64 z).wf = true) (hl : ActsIn w a len cap V) :
    Calls Try.prog 3 #[.int .i64 z, .slice a len cap] w fun e w' => e = .returned (.bool true) ∧ Below w.heap.size w w' := by
  by_cases h0 : z < 1 ∨ 4096 < z
  · exact walk_no z a len cap w h0
  · obtain ⟨n, rfl⟩ : ∃ n : Nat, z = (n : Int) := ⟨z.toNat, by omega⟩
    by_cases h3 : n ≤ 300
    · exact walk_yes n a len cap V w (by omega) h3 hl
    · exact walk_wide n a len cap w (by omega) (by omega)

set_option maxRecDepth 100000 in
theorem lifted (os : Os) (started : os.Started) (H : Type) (enc : TypeId × Value → H) :
    ReturnsInHanded {} Try.checked os 3 .any (Rows.diskActsSpec.pre6 enc Try.prog Try.f3 Rows.diskActsRow.domain false) (Rows.diskActsSpec.post enc Try.prog Try.f3 false true false false) := by
  refine returnsInHanded_of_change_sized (C := Try.checked) own started (by kernel_rfl) Try.func3
    (ChangeSpec.witness6 (enc := enc) (C := Try.checked) false ⟨#[], #[.int .i64 0, .slice none 0 0], []⟩ 8 (by kernel_rfl) (by kernel_rfl) (by kernel_rfl) (by kernel_rfl)) ?_
  intro W base args ds gs before hval0 hW hcnd hsz0 _
  have hsz : (DataW.weightsEach Try.prog (Try.f3.params.toList ++ Rows.diskActsSpec.plain.varTypes Try.prog) (ds ++ gs)).all (· ≤ reachBytes) = true := hsz0
  have hval : ∀ (j : Nat) t v, Try.f3.params[j]? = some t → args[j]? = some v → Value.okWide Try.prog W .any base t v := hval0
  have hW' := hW
  obtain ⟨p, q, hA0, hV, rfl, hfz, hnd⟩ := hW
  have hA : DataW.TrodAll enc Try.prog W 0 (fun _ => true) true Try.f3.params.toList args.toList ds p := hA0
  rw [Try.params3] at hA hval hsz
  obtain ⟨v0, vs0, d0, ds0, p0, q0, hargs, rfl, rfl, h0, r0⟩ := trodAll_cons hA
  obtain ⟨v1, vs1, d1, ds1, p1, q1, rfl, rfl, rfl, h1, r1⟩ := trodAll_cons r0
  obtain ⟨rfl, rfl, rfl⟩ := trodAll_nil r1
  obtain rfl : args = #[v0, v1] := by cases args; simp_all
  obtain ⟨rfl, rfl⟩ := trodVars_none hV
  obtain ⟨a0, rfl, rfl, rfl, w0⟩ := open_int Try.underlying3 (hval 0 3 v0 rfl rfl) h0
  have k1 := h1
  have lt1 : ∀ x ∈ p1, x.block < W.heap.size := by obtain ⟨m, hm⟩ := k1; exact DataW.trod_lt m _ _ _ hm
  have s1 : ∀ x ∈ d1.weights Try.prog 22, x ≤ reachBytes := fun x hx => by
    have := List.all_eq_true.1 hsz x (DataW.weights_mem_each (j := 1) rfl rfl x hx)
    simpa using this
  obtain ⟨b1, nn1, cc1, rfl⟩ := okWide_slice Try.underlying22 (hval 1 22 v1 rfl rfl)
  obtain ⟨fu1, hf1⟩ := h1
  obtain ⟨a1, len1, cap1, V1, e1, w1⟩ := acts_in hf1 s1
  simp [Value.cells] at e1
  obtain ⟨rfl, rfl, rfl⟩ := e1
  clear hA0 hval0
  refine (walk a0 b1 nn1 cc1 V1 W w0 w1).mono fun e W' ⟨he, bel⟩ => ?_
  subst he
  exact ⟨_, rfl, _, _, _, [], _, [], hW', trodAll_mk1 (shut_bool Try.underlying4 _), (trodAll_cons_mk (shut_int Try.underlying3 w0) (trodAll_cons_mk (Below.trod laidOut (by kernel_rfl) (of_decide_eq_true (by kernel_rfl)) k1 bel lt1) trodAll_mk0)), rfl, bel.frame _, fun h => by cases h⟩

theorem over : Rows.diskActsRow.holds Try.pinned (OpenSpec.ofChange Rows.diskActsSpec) :=
  OpenClaim.holds_of_wide 3 Try.f3 rfl rfl rfl rfl rfl rfl rfl ⟨rfl, rfl, rfl, rfl, rfl⟩ rfl rfl rfl rfl rfl (by kernel_rfl) Try.func3 (by kernel_rfl)
    (of_decide_eq_true (by kernel_rfl)) (by unfold Func.isWrapper; first | (rw [if_pos (by decide +kernel)]; kernel_rfl) | (rw [if_neg (by decide +kernel)]; exact ⟨rfl, rfl⟩))
    (fun os started H enc _ => lifted os started H enc)

theorem proved : Rows.DiskActsSaid := over
#print axioms proved
end Go.Proofs.Ytaaeppbkbkfphaa.diskActs
