/-
  Who is to keep any placement group of any map, who does, with which lives and boots, and who is first, is what the document says (of a map that may be only where it has at most 24 OSDs and its pool asks for at most 12): 'mooringlaw18.PlaceActs' returns true and leaves its arguments as they were.
  Conditions: none.
-/
import Derived.Test.YtgfjmkjgagogpaaGreatRows
import Derived.WalkKit
import Derived.ProofKit
import Derived.OpenShut
import Derived.SizedLaws
import Derived.ShutString
import Derived.ChangeOld
import Derived.Below
import Derived.Test.YtgfjmkjgagogpaaGreatByRows
import Derived.Test.YtgfjmkjgagogpaaGreatAtItem
import Derived.Test.YtgfjmkjgagogpaaGreatPlRefAct
import Derived.Test.YtgfjmkjgagogpaaGreatJPlPrim
namespace Go.Proofs.YtgfjmkjgagogpaaGreat.placeActs
open Go.ChangeShapes Go.WideShapes Go.ChangeAt Go.RowKit By
open Fl At Cr Pl
set_option linter.unusedVariables false
set_option linter.unusedSimpArgs false
set_option maxRecDepth 100000

theorem own : ownKnob Tryz.prog.godebug = none := by kernel_rfl
theorem laidOut : laidOutB Tryz.prog = true := by kernel_rfl

theorem pool_facts {m : Mp} (hm : mayM m = true) : 1 ≤ m.pool.pgs := by
  unfold mayM poolB at hm
  simp only [Bool.and_eq_true, decide_eq_true_eq, wi_iff] at hm
  omega

set_option maxHeartbeats 1600000 in
theorem walk_big (m : Mp) (x : Option Addr) (n c : Nat) (pg : Int) (w : World) (hO : At.Os w x n c m.osds) (hm : mayM m = true) (hn : 24 < n) :
    Calls Tryz.prog 4 #[vM m.ep m.pool x n c, .int .i64 pg] w fun e w' => e = .returned (.bool true) ∧ Below w.heap.size w w' := by
  obtain ⟨w0, hw0⟩ : ∃ w0, w0 = w.alloc (.cells #[.int .i64 m.ep, .int .i64 m.pool.k, .int .i64 m.pool.m, .int .i64 m.pool.pgs, .int .i64 m.pool.dom, .slice x n c] 31) := ⟨_, rfl⟩
  have b0 : Below w.heap.size w w0 := by rw [hw0]; exact al _ _
  have q0 : w0.cell? ⟨w.heap.size, 0, none⟩ = some (.int .i64 m.ep) := by rw [hw0]; go_simp
  have q1 : w0.cell? ⟨w.heap.size, 1, none⟩ = some (.int .i64 m.pool.k) := by rw [hw0]; go_simp
  have q2 : w0.cell? ⟨w.heap.size, 2, none⟩ = some (.int .i64 m.pool.m) := by rw [hw0]; go_simp
  have q3 : w0.cell? ⟨w.heap.size, 3, none⟩ = some (.int .i64 m.pool.pgs) := by rw [hw0]; go_simp
  have q4 : w0.cell? ⟨w.heap.size, 4, none⟩ = some (.int .i64 m.pool.dom) := by rw [hw0]; go_simp
  have q5 : w0.cell? ⟨w.heap.size, 5, none⟩ = some (.slice x n c) := by rw [hw0]; go_simp
  have HQ : Hid (∀ W, Below w0.heap.size w0 W → W.cell? ⟨w.heap.size, 0, none⟩ = some (.int .i64 m.ep) ∧ W.cell? ⟨w.heap.size, 1, none⟩ = some (.int .i64 m.pool.k) ∧ W.cell? ⟨w.heap.size, 2, none⟩ = some (.int .i64 m.pool.m) ∧ W.cell? ⟨w.heap.size, 3, none⟩ = some (.int .i64 m.pool.pgs) ∧ W.cell? ⟨w.heap.size, 4, none⟩ = some (.int .i64 m.pool.dom) ∧ W.cell? ⟨w.heap.size, 5, none⟩ = some (.slice x n c)) := fun W hb => ⟨keep hb q0, keep hb q1, keep hb q2, keep hb q3, keep hb q4, keep hb q5⟩
  have cM := rmay_any m (hO.below b0)
  have HO := hid hO
  have cA := fun W => Pl.awake_any W
  have HB := hid b0
  have HW := hid hw0
  have e1 : 24 < (n : Int) := by omega
  rw [hw0, hm] at cM
  unfold vM at cM ⊢
  clear hO b0 hw0 hm q0 q1 q2 q3 q4 q5
  go_enter Tryz.func4, Tryz.ntmps4
  go_wp2_with (first
    | (go_at_call 10; refine cM.mono ?_; rintro e w1 ⟨rfl, hb1⟩; clear cM; rw [← HW.out] at hb1; obtain ⟨p0, p1, p2, p3, p4, p5⟩ := HQ.out _ hb1)
    | (go_at_call 9; refine (cA _).mono ?_; rintro e w6 ⟨rfl, hb6⟩; clear cA))
  go_ret
  exact ⟨rfl, on HB.out (on hb1 hb6)⟩

set_option maxHeartbeats 1600000 in
theorem walk_much (m : Mp) (x : Option Addr) (n c : Nat) (pg : Int) (w : World) (hO : At.Os w x n c m.osds) (hm : mayM m = true) (hn : ¬ 24 < n) (hs : 12 < m.pool.k + m.pool.m) (hs2 : m.pool.k + m.pool.m ≤ 32) :
    Calls Tryz.prog 4 #[vM m.ep m.pool x n c, .int .i64 pg] w fun e w' => e = .returned (.bool true) ∧ Below w.heap.size w w' := by
  obtain ⟨w0, hw0⟩ : ∃ w0, w0 = w.alloc (.cells #[.int .i64 m.ep, .int .i64 m.pool.k, .int .i64 m.pool.m, .int .i64 m.pool.pgs, .int .i64 m.pool.dom, .slice x n c] 31) := ⟨_, rfl⟩
  have b0 : Below w.heap.size w w0 := by rw [hw0]; exact al _ _
  have q0 : w0.cell? ⟨w.heap.size, 0, none⟩ = some (.int .i64 m.ep) := by rw [hw0]; go_simp
  have q1 : w0.cell? ⟨w.heap.size, 1, none⟩ = some (.int .i64 m.pool.k) := by rw [hw0]; go_simp
  have q2 : w0.cell? ⟨w.heap.size, 2, none⟩ = some (.int .i64 m.pool.m) := by rw [hw0]; go_simp
  have q3 : w0.cell? ⟨w.heap.size, 3, none⟩ = some (.int .i64 m.pool.pgs) := by rw [hw0]; go_simp
  have q4 : w0.cell? ⟨w.heap.size, 4, none⟩ = some (.int .i64 m.pool.dom) := by rw [hw0]; go_simp
  have q5 : w0.cell? ⟨w.heap.size, 5, none⟩ = some (.slice x n c) := by rw [hw0]; go_simp
  have HQ : Hid (∀ W, Below w0.heap.size w0 W → W.cell? ⟨w.heap.size, 0, none⟩ = some (.int .i64 m.ep) ∧ W.cell? ⟨w.heap.size, 1, none⟩ = some (.int .i64 m.pool.k) ∧ W.cell? ⟨w.heap.size, 2, none⟩ = some (.int .i64 m.pool.m) ∧ W.cell? ⟨w.heap.size, 3, none⟩ = some (.int .i64 m.pool.pgs) ∧ W.cell? ⟨w.heap.size, 4, none⟩ = some (.int .i64 m.pool.dom) ∧ W.cell? ⟨w.heap.size, 5, none⟩ = some (.slice x n c)) := fun W hb => ⟨keep hb q0, keep hb q1, keep hb q2, keep hb q3, keep hb q4, keep hb q5⟩
  have cM := rmay_any m (hO.below b0)
  have HO := hid hO
  have cA := fun W => Pl.awake_any W
  have HB := hid b0
  have HW := hid hw0
  have e1 : ¬ 24 < (n : Int) := by omega
  have e2 : IntKind.i64.wrap (m.pool.k + m.pool.m) = m.pool.k + m.pool.m := by rw [IntKind.wrap_i64]; omega
  rw [hw0, hm] at cM
  unfold vM at cM ⊢
  clear hO b0 hw0 hm q0 q1 q2 q3 q4 q5
  go_enter Tryz.func4, Tryz.ntmps4
  go_wp2_with (first
    | (go_at_call 10; refine cM.mono ?_; rintro e w1 ⟨rfl, hb1⟩; clear cM; rw [← HW.out] at hb1; obtain ⟨p0, p1, p2, p3, p4, p5⟩ := HQ.out _ hb1)
    | (go_at_call 9; refine (cA _).mono ?_; rintro e w6 ⟨rfl, hb6⟩; clear cA))
  go_ret
  exact ⟨rfl, on HB.out (on hb1 hb6)⟩

set_option maxHeartbeats 6400000 in
theorem walk_f (m : Mp) (x : Option Addr) (n c : Nat) (pg : Int) (w : World) (hO : At.Os w x n c m.osds) (hk : m.pool.k ≤ 9223372036854775807) (hm : mayM m = false) :
    Calls Tryz.prog 4 #[vM m.ep m.pool x n c, .int .i64 pg] w fun e w' => e = .returned (.bool true) ∧ Below w.heap.size w w' := by
  obtain ⟨w0, hw0⟩ : ∃ w0, w0 = w.alloc (.cells #[.int .i64 m.ep, .int .i64 m.pool.k, .int .i64 m.pool.m, .int .i64 m.pool.pgs, .int .i64 m.pool.dom, .slice x n c] 31) := ⟨_, rfl⟩
  have b0 : Below w.heap.size w w0 := by rw [hw0]; exact al _ _
  have q0 : w0.cell? ⟨w.heap.size, 0, none⟩ = some (.int .i64 m.ep) := by rw [hw0]; go_simp
  have q1 : w0.cell? ⟨w.heap.size, 1, none⟩ = some (.int .i64 m.pool.k) := by rw [hw0]; go_simp
  have q2 : w0.cell? ⟨w.heap.size, 2, none⟩ = some (.int .i64 m.pool.m) := by rw [hw0]; go_simp
  have q3 : w0.cell? ⟨w.heap.size, 3, none⟩ = some (.int .i64 m.pool.pgs) := by rw [hw0]; go_simp
  have q4 : w0.cell? ⟨w.heap.size, 4, none⟩ = some (.int .i64 m.pool.dom) := by rw [hw0]; go_simp
  have q5 : w0.cell? ⟨w.heap.size, 5, none⟩ = some (.slice x n c) := by rw [hw0]; go_simp
  have HQ : Hid (∀ W, Below w0.heap.size w0 W → W.cell? ⟨w.heap.size, 0, none⟩ = some (.int .i64 m.ep) ∧ W.cell? ⟨w.heap.size, 1, none⟩ = some (.int .i64 m.pool.k) ∧ W.cell? ⟨w.heap.size, 2, none⟩ = some (.int .i64 m.pool.m) ∧ W.cell? ⟨w.heap.size, 3, none⟩ = some (.int .i64 m.pool.pgs) ∧ W.cell? ⟨w.heap.size, 4, none⟩ = some (.int .i64 m.pool.dom) ∧ W.cell? ⟨w.heap.size, 5, none⟩ = some (.slice x n c)) := fun W hb => ⟨keep hb q0, keep hb q1, keep hb q2, keep hb q3, keep hb q4, keep hb q5⟩
  have cM := rmay_any m (hO.below b0)
  have HO := hid hO
  have cA := fun W => Pl.awake_any W
  have HB := hid b0
  have HW := hid hw0
  rw [hw0, hm] at cM
  have HU := hid (fun W (hb : Below w.heap.size w W) => up_any m (HO.out.below hb) hk pg)
  have HRU := hid (fun W (hb : Below w.heap.size w W) => rup_any m (HO.out.below hb) pg)
  have HAc := hid (fun W (hb : Below w.heap.size w W) => acting_any m (HO.out.below hb) hk pg)
  have HLv := hid (fun W (hb : Below w.heap.size w W) => lives_any m (HO.out.below hb) hk pg)
  have HRA := hid (fun W (hb : Below w.heap.size w W) => racting_any m (HO.out.below hb) pg)
  have HPr := hid (fun W (hb : Below w.heap.size w W) => primary_any m (HO.out.below hb) hk pg)
  have HWh := hid (fun W (hb : Below w.heap.size w W) => whole_any m (HO.out.below hb) hk pg)
  have l1 : (upL m pg).length ≤ 32 := upL_len m pg
  have l2 : (actL m pg).length ≤ 32 := by rw [actL_len]; exact l1
  have l3 : ((actL m pg).map (lf m.osds)).length ≤ 32 := by rw [List.length_map]; exact l2
  have l4 : ((actL m pg).map (bo m.osds)).length ≤ 32 := by rw [List.length_map]; exact l2
  have HI : Hid (∀ (W : World) (x1 : Option Addr) (n1 c1 : Nat) (x2 : Option Addr) (n2 c2 : Nat) (l : List Int), l.length ≤ 32 → Nu W x1 n1 c1 l → Nu W x2 n2 c2 l → Calls Tryz.prog 16 #[.slice x1 n1 c1, .slice x2 n2 c2] W fun e w' => e = .returned (.bool true) ∧ Below W.heap.size W w') := fun W x1 n1 c1 x2 n2 c2 l hl h1 h2 => by
    have := ints_any h1 h2 (by rw [← h1.len]; omega)
    rw [decide_eq_true rfl] at this
    exact this
  unfold UpSays at HU HRU HAc
  unfold LvSays at HLv
  unfold RaSays at HRA
  unfold whB at HWh
  unfold vM at cM HU HRU HAc HLv HRA HPr HWh ⊢
  clear hO hk hm b0 hw0 q0 q1 q2 q3 q4 q5
  generalize upE m pg = EE at *
  generalize upL m pg = UL at *
  generalize (actL m pg).map (lf m.osds) = LV at *
  generalize (actL m pg).map (bo m.osds) = BT at *
  generalize actL m pg = AL at *
  obtain ⟨PR, hPR⟩ : ∃ PR, PR = prm AL := ⟨_, rfl⟩
  rw [← hPR] at HRA HPr
  clear hPR
  have hE : (EE != EE) = false := by simp
  have hP : (PR != PR) = false := by simp
  go_enter Tryz.func4, Tryz.ntmps4
  go_wp2_with (first
    | (go_at_call 10; refine cM.mono ?_; rintro e w1 ⟨rfl, hb1⟩; clear cM; rw [← HW.out] at hb1; obtain ⟨p0, p1, p2, p3, p4, p5⟩ := HQ.out _ hb1; have cU := HU.out w1 (on HB.out hb1))
    | (
      go_at_call 11
      refine cU.mono ?_
      rintro e w2 ⟨x2, n2, c2, rfl, H2⟩
      clear cU p0 p1 p2 p3 p4 p5
      have B2 := on hb1 H2.out.1
      obtain ⟨p0, p1, p2, p3, p4, p5⟩ := HQ.out _ B2
      have cRU := HRU.out w2 (on HB.out B2))
    | (
      go_at_call 12
      refine cRU.mono ?_
      rintro e w3 ⟨x3, n3, c3, rfl, H3⟩
      clear cRU p0 p1 p2 p3 p4 p5
      have B3 := on B2 H3.out.1
      obtain ⟨p0, p1, p2, p3, p4, p5⟩ := HQ.out _ B3
      have cAc := HAc.out w3 (on HB.out B3))
    | (
      go_at_call 13
      refine cAc.mono ?_
      rintro e w4 ⟨x4, n4, c4, rfl, H4⟩
      clear cAc p0 p1 p2 p3 p4 p5
      have B4 := on B3 H4.out.1
      obtain ⟨p0, p1, p2, p3, p4, p5⟩ := HQ.out _ B4
      have cLv := HLv.out w4 (on HB.out B4))
    | (
      go_at_call 14
      refine cLv.mono ?_
      rintro e w5 ⟨x5, n5, c5, x6, n6, c6, rfl, H5⟩
      clear cLv p0 p1 p2 p3 p4 p5
      have B5 := on B4 H5.out.1
      obtain ⟨p0, p1, p2, p3, p4, p5⟩ := HQ.out _ B5
      have cRA := HRA.out w5 (on HB.out B5))
    | (
      go_at_call 15
      refine cRA.mono ?_
      rintro e w7 ⟨x7, n7, c7, x8, n8, c8, x9, n9, c9, rfl, H7⟩
      clear cRA p0 p1 p2 p3 p4 p5
      have B7 := on B5 H7.out.1
      have c1 := HI.out w7 x2 n2 c2 x3 n3 c3 UL l1 ((own_nu H2.out.2).below (on H3.out.1 (on H4.out.1 (on H5.out.1 H7.out.1)))) ((own_nu H3.out.2).below (on H4.out.1 (on H5.out.1 H7.out.1))))
    | (
      go_at_call 16
      refine c1.mono ?_
      rintro e wa ⟨rfl, ba⟩
      clear c1
      have c2' := HI.out wa x4 n4 c4 x7 n7 c7 AL l2 ((own_nu H4.out.2).below (on H5.out.1 (on H7.out.1 ba))) (H7.out.2.1.below ba))
    | (
      go_at_call 16
      refine c2'.mono ?_
      rintro e wb ⟨rfl, bb⟩
      clear c2'
      have c3' := HI.out wb x5 n5 c5 x8 n8 c8 LV l3 (H5.out.2.1.below (on H7.out.1 (on ba bb))) (H7.out.2.2.1.below (on ba bb)))
    | (
      go_at_call 16
      refine c3'.mono ?_
      rintro e wc ⟨rfl, bc⟩
      clear c3'
      have c4' := HI.out wc x6 n6 c6 x9 n9 c9 BT l4 (H5.out.2.2.below (on H7.out.1 (on ba (on bb bc)))) (H7.out.2.2.2.below (on ba (on bb bc))))
    | (
      go_at_call 16
      refine c4'.mono ?_
      rintro e wd ⟨rfl, bd⟩
      clear c4'
      have Bd := on B7 (on ba (on bb (on bc bd)))
      obtain ⟨p0, p1, p2, p3, p4, p5⟩ := HQ.out _ Bd
      have cPr := HPr.out wd (on HB.out Bd))
    | (
      go_at_call 17
      refine cPr.mono ?_
      rintro e we ⟨rfl, be⟩
      clear cPr p0 p1 p2 p3 p4 p5))
  have HN := hid (H7.out.2.1.below (on ba (on bb (on bc (on bd be)))))
  have HBe := hid (on Bd be)
  clear H2 H3 H4 H5 H7 hb1 B2 B3 B4 B5 B7 ba bb bc bd be Bd HU HRU HAc HLv HRA HPr HI
  have hn32 : n7 ≤ 32 := by rw [← HN.out.len]; exact l2
  clear l1 l2 l3 l4
  go_loop [20, 19] (fun i s => ∃ k : Nat, k ≤ n7 ∧ i = .int .i64 k ∧ s = .bool ((EE == 0) && !decide (-1 ∈ AL.take k))) (fun i _ => n7 - (intOf i).toNat)
  case atStart => exact ⟨0, by omega, rfl, by simp⟩
  case round =>
    obtain ⟨k, hk, rfl, rfl⟩ := hrel
    by_cases hlt : k < n7
    · have hkn : (k : Int) < (n7 : Int) := by omega
      obtain ⟨z, hz⟩ : ∃ z, AL[k]? = some z := ⟨AL[k]'(by have := HN.out.len; omega), List.getElem?_eq_getElem (by have := HN.out.len; omega)⟩
      rcases HN.out.row with q0 | ⟨lb, lo, rfl, hlb, hlc⟩
      · omega
      have d0 := hlc k z hz
      have hnx : ((EE == 0) && !decide (-1 ∈ AL.take (k + 1))) = (((EE == 0) && !decide (-1 ∈ AL.take k)) && (z != -1)) := by
        have e9 : decide (-1 ∈ AL.take (k + 1)) = (decide (-1 ∈ AL.take k) || decide (z = -1)) := by
          rw [List.take_add_one, hz, Bool.eq_iff_iff]
          simp only [Option.toList_some, List.mem_append, List.mem_singleton, decide_eq_true_eq, Bool.or_eq_true]
          constructor
          · rintro (q | q)
            · exact .inl q
            · exact .inr (Eq.symm q)
          · rintro (q | q)
            · exact .inl q
            · exact .inr (Eq.symm q)
        rw [e9, Bool.not_or, ← Bool.and_assoc]
        rfl
      have HX := hid hnx
      clear hnx hlc hz
      generalize ((EE == 0) && !decide (-1 ∈ AL.take k)) = WB at *
      cases WB with
      | false =>
        go_wp2_with fail
        go_round
        case rel => exact ⟨k + 1, by omega, by go_num, by rw [HX.out]; rfl⟩
        case measure => simp [intOf]; omega
      | true =>
        go_wp2_with fail
        go_round
        case rel => exact ⟨k + 1, by omega, by go_num, by rw [HX.out]; rfl⟩
        case measure => simp [intOf]; omega
    · have hk2 : k = n7 := by omega
      subst hk2
      have ht : AL.take k = AL := List.take_of_length_le (by rw [HN.out.len]; exact Nat.le_refl _)
      rw [ht]
      have cW := HWh.out we (on HB.out HBe.out)
      have hwe : (decide (EE = 0) && !decide (-1 ∈ AL)) = ((EE == 0) && !decide (-1 ∈ AL)) := rfl
      rw [hwe] at cW
      generalize ((EE == 0) && !decide (-1 ∈ AL)) = WB at *
      have hWW : (WB == WB) = true := by simp
      obtain ⟨p0, p1, p2, p3, p4, p5⟩ := HQ.out _ HBe.out
      clear hwe HWh
      go_wp2_with (first
        | (go_at_call 18; refine cW.mono ?_; rintro e wf ⟨rfl, bf⟩; clear cW)
        | (go_at_call 9; refine (cA _).mono ?_; rintro e wg ⟨rfl, bg⟩; clear cA))
      go_ret
      exact ⟨rfl, on HB.out (on HBe.out (on bf bg))⟩

set_option maxHeartbeats 6400000 in
theorem walk_t (m : Mp) (x : Option Addr) (n c : Nat) (pg : Int) (w : World) (hO : At.Os w x n c m.osds) (hk : m.pool.k ≤ 9223372036854775807) (hm : mayM m = true) (hn : ¬ 24 < n) (hs : ¬ 12 < m.pool.k + m.pool.m) (hk1 : 1 ≤ m.pool.k) (hm1 : 1 ≤ m.pool.m) :
    Calls Tryz.prog 4 #[vM m.ep m.pool x n c, .int .i64 pg] w fun e w' => e = .returned (.bool true) ∧ Below w.heap.size w w' := by
  obtain ⟨w0, hw0⟩ : ∃ w0, w0 = w.alloc (.cells #[.int .i64 m.ep, .int .i64 m.pool.k, .int .i64 m.pool.m, .int .i64 m.pool.pgs, .int .i64 m.pool.dom, .slice x n c] 31) := ⟨_, rfl⟩
  have b0 : Below w.heap.size w w0 := by rw [hw0]; exact al _ _
  have q0 : w0.cell? ⟨w.heap.size, 0, none⟩ = some (.int .i64 m.ep) := by rw [hw0]; go_simp
  have q1 : w0.cell? ⟨w.heap.size, 1, none⟩ = some (.int .i64 m.pool.k) := by rw [hw0]; go_simp
  have q2 : w0.cell? ⟨w.heap.size, 2, none⟩ = some (.int .i64 m.pool.m) := by rw [hw0]; go_simp
  have q3 : w0.cell? ⟨w.heap.size, 3, none⟩ = some (.int .i64 m.pool.pgs) := by rw [hw0]; go_simp
  have q4 : w0.cell? ⟨w.heap.size, 4, none⟩ = some (.int .i64 m.pool.dom) := by rw [hw0]; go_simp
  have q5 : w0.cell? ⟨w.heap.size, 5, none⟩ = some (.slice x n c) := by rw [hw0]; go_simp
  have HQ : Hid (∀ W, Below w0.heap.size w0 W → W.cell? ⟨w.heap.size, 0, none⟩ = some (.int .i64 m.ep) ∧ W.cell? ⟨w.heap.size, 1, none⟩ = some (.int .i64 m.pool.k) ∧ W.cell? ⟨w.heap.size, 2, none⟩ = some (.int .i64 m.pool.m) ∧ W.cell? ⟨w.heap.size, 3, none⟩ = some (.int .i64 m.pool.pgs) ∧ W.cell? ⟨w.heap.size, 4, none⟩ = some (.int .i64 m.pool.dom) ∧ W.cell? ⟨w.heap.size, 5, none⟩ = some (.slice x n c)) := fun W hb => ⟨keep hb q0, keep hb q1, keep hb q2, keep hb q3, keep hb q4, keep hb q5⟩
  have cM := rmay_any m (hO.below b0)
  have HO := hid hO
  have cA := fun W => Pl.awake_any W
  have HB := hid b0
  have HW := hid hw0
  have e1 : ¬ 24 < (n : Int) := by omega
  have e2 : IntKind.i64.wrap (m.pool.k + m.pool.m) = m.pool.k + m.pool.m := by rw [IntKind.wrap_i64]; omega
  rw [hw0, hm] at cM
  have HU := hid (fun W (hb : Below w.heap.size w W) => up_any m (HO.out.below hb) hk pg)
  have HRU := hid (fun W (hb : Below w.heap.size w W) => rup_any m (HO.out.below hb) pg)
  have HAc := hid (fun W (hb : Below w.heap.size w W) => acting_any m (HO.out.below hb) hk pg)
  have HLv := hid (fun W (hb : Below w.heap.size w W) => lives_any m (HO.out.below hb) hk pg)
  have HRA := hid (fun W (hb : Below w.heap.size w W) => racting_any m (HO.out.below hb) pg)
  have HPr := hid (fun W (hb : Below w.heap.size w W) => primary_any m (HO.out.below hb) hk pg)
  have HWh := hid (fun W (hb : Below w.heap.size w W) => whole_any m (HO.out.below hb) hk pg)
  have l1 : (upL m pg).length ≤ 32 := upL_len m pg
  have l2 : (actL m pg).length ≤ 32 := by rw [actL_len]; exact l1
  have l3 : ((actL m pg).map (lf m.osds)).length ≤ 32 := by rw [List.length_map]; exact l2
  have l4 : ((actL m pg).map (bo m.osds)).length ≤ 32 := by rw [List.length_map]; exact l2
  have HI : Hid (∀ (W : World) (x1 : Option Addr) (n1 c1 : Nat) (x2 : Option Addr) (n2 c2 : Nat) (l : List Int), l.length ≤ 32 → Nu W x1 n1 c1 l → Nu W x2 n2 c2 l → Calls Tryz.prog 16 #[.slice x1 n1 c1, .slice x2 n2 c2] W fun e w' => e = .returned (.bool true) ∧ Below W.heap.size W w') := fun W x1 n1 c1 x2 n2 c2 l hl h1 h2 => by
    have := ints_any h1 h2 (by rw [← h1.len]; omega)
    rw [decide_eq_true rfl] at this
    exact this
  unfold UpSays at HU HRU HAc
  unfold LvSays at HLv
  unfold RaSays at HRA
  unfold whB at HWh
  unfold vM at cM HU HRU HAc HLv HRA HPr HWh ⊢
  clear hO hk hm b0 hw0 q0 q1 q2 q3 q4 q5
  generalize upE m pg = EE at *
  generalize upL m pg = UL at *
  generalize (actL m pg).map (lf m.osds) = LV at *
  generalize (actL m pg).map (bo m.osds) = BT at *
  generalize actL m pg = AL at *
  obtain ⟨PR, hPR⟩ : ∃ PR, PR = prm AL := ⟨_, rfl⟩
  rw [← hPR] at HRA HPr
  clear hPR
  have hE : (EE != EE) = false := by simp
  have hP : (PR != PR) = false := by simp
  go_enter Tryz.func4, Tryz.ntmps4
  go_wp2_with (first
    | (go_at_call 10; refine cM.mono ?_; rintro e w1 ⟨rfl, hb1⟩; clear cM; rw [← HW.out] at hb1; obtain ⟨p0, p1, p2, p3, p4, p5⟩ := HQ.out _ hb1; have cU := HU.out w1 (on HB.out hb1))
    | (
      go_at_call 11
      refine cU.mono ?_
      rintro e w2 ⟨x2, n2, c2, rfl, H2⟩
      clear cU p0 p1 p2 p3 p4 p5
      have B2 := on hb1 H2.out.1
      obtain ⟨p0, p1, p2, p3, p4, p5⟩ := HQ.out _ B2
      have cRU := HRU.out w2 (on HB.out B2))
    | (
      go_at_call 12
      refine cRU.mono ?_
      rintro e w3 ⟨x3, n3, c3, rfl, H3⟩
      clear cRU p0 p1 p2 p3 p4 p5
      have B3 := on B2 H3.out.1
      obtain ⟨p0, p1, p2, p3, p4, p5⟩ := HQ.out _ B3
      have cAc := HAc.out w3 (on HB.out B3))
    | (
      go_at_call 13
      refine cAc.mono ?_
      rintro e w4 ⟨x4, n4, c4, rfl, H4⟩
      clear cAc p0 p1 p2 p3 p4 p5
      have B4 := on B3 H4.out.1
      obtain ⟨p0, p1, p2, p3, p4, p5⟩ := HQ.out _ B4
      have cLv := HLv.out w4 (on HB.out B4))
    | (
      go_at_call 14
      refine cLv.mono ?_
      rintro e w5 ⟨x5, n5, c5, x6, n6, c6, rfl, H5⟩
      clear cLv p0 p1 p2 p3 p4 p5
      have B5 := on B4 H5.out.1
      obtain ⟨p0, p1, p2, p3, p4, p5⟩ := HQ.out _ B5
      have cRA := HRA.out w5 (on HB.out B5))
    | (
      go_at_call 15
      refine cRA.mono ?_
      rintro e w7 ⟨x7, n7, c7, x8, n8, c8, x9, n9, c9, rfl, H7⟩
      clear cRA p0 p1 p2 p3 p4 p5
      have B7 := on B5 H7.out.1
      have c1 := HI.out w7 x2 n2 c2 x3 n3 c3 UL l1 ((own_nu H2.out.2).below (on H3.out.1 (on H4.out.1 (on H5.out.1 H7.out.1)))) ((own_nu H3.out.2).below (on H4.out.1 (on H5.out.1 H7.out.1))))
    | (
      go_at_call 16
      refine c1.mono ?_
      rintro e wa ⟨rfl, ba⟩
      clear c1
      have c2' := HI.out wa x4 n4 c4 x7 n7 c7 AL l2 ((own_nu H4.out.2).below (on H5.out.1 (on H7.out.1 ba))) (H7.out.2.1.below ba))
    | (
      go_at_call 16
      refine c2'.mono ?_
      rintro e wb ⟨rfl, bb⟩
      clear c2'
      have c3' := HI.out wb x5 n5 c5 x8 n8 c8 LV l3 (H5.out.2.1.below (on H7.out.1 (on ba bb))) (H7.out.2.2.1.below (on ba bb)))
    | (
      go_at_call 16
      refine c3'.mono ?_
      rintro e wc ⟨rfl, bc⟩
      clear c3'
      have c4' := HI.out wc x6 n6 c6 x9 n9 c9 BT l4 (H5.out.2.2.below (on H7.out.1 (on ba (on bb bc)))) (H7.out.2.2.2.below (on ba (on bb bc))))
    | (
      go_at_call 16
      refine c4'.mono ?_
      rintro e wd ⟨rfl, bd⟩
      clear c4'
      have Bd := on B7 (on ba (on bb (on bc bd)))
      obtain ⟨p0, p1, p2, p3, p4, p5⟩ := HQ.out _ Bd
      have cPr := HPr.out wd (on HB.out Bd))
    | (
      go_at_call 17
      refine cPr.mono ?_
      rintro e we ⟨rfl, be⟩
      clear cPr p0 p1 p2 p3 p4 p5))
  have HN := hid (H7.out.2.1.below (on ba (on bb (on bc (on bd be)))))
  have HBe := hid (on Bd be)
  clear H2 H3 H4 H5 H7 hb1 B2 B3 B4 B5 B7 ba bb bc bd be Bd HU HRU HAc HLv HRA HPr HI
  have hn32 : n7 ≤ 32 := by rw [← HN.out.len]; exact l2
  clear l1 l2 l3 l4
  go_loop [20, 19] (fun i s => ∃ k : Nat, k ≤ n7 ∧ i = .int .i64 k ∧ s = .bool ((EE == 0) && !decide (-1 ∈ AL.take k))) (fun i _ => n7 - (intOf i).toNat)
  case atStart => exact ⟨0, by omega, rfl, by simp⟩
  case round =>
    obtain ⟨k, hk, rfl, rfl⟩ := hrel
    by_cases hlt : k < n7
    · have hkn : (k : Int) < (n7 : Int) := by omega
      obtain ⟨z, hz⟩ : ∃ z, AL[k]? = some z := ⟨AL[k]'(by have := HN.out.len; omega), List.getElem?_eq_getElem (by have := HN.out.len; omega)⟩
      rcases HN.out.row with q0 | ⟨lb, lo, rfl, hlb, hlc⟩
      · omega
      have d0 := hlc k z hz
      have hnx : ((EE == 0) && !decide (-1 ∈ AL.take (k + 1))) = (((EE == 0) && !decide (-1 ∈ AL.take k)) && (z != -1)) := by
        have e9 : decide (-1 ∈ AL.take (k + 1)) = (decide (-1 ∈ AL.take k) || decide (z = -1)) := by
          rw [List.take_add_one, hz, Bool.eq_iff_iff]
          simp only [Option.toList_some, List.mem_append, List.mem_singleton, decide_eq_true_eq, Bool.or_eq_true]
          constructor
          · rintro (q | q)
            · exact .inl q
            · exact .inr (Eq.symm q)
          · rintro (q | q)
            · exact .inl q
            · exact .inr (Eq.symm q)
        rw [e9, Bool.not_or, ← Bool.and_assoc]
        rfl
      have HX := hid hnx
      clear hnx hlc hz
      generalize ((EE == 0) && !decide (-1 ∈ AL.take k)) = WB at *
      cases WB with
      | false =>
        go_wp2_with fail
        go_round
        case rel => exact ⟨k + 1, by omega, by go_num, by rw [HX.out]; rfl⟩
        case measure => simp [intOf]; omega
      | true =>
        go_wp2_with fail
        go_round
        case rel => exact ⟨k + 1, by omega, by go_num, by rw [HX.out]; rfl⟩
        case measure => simp [intOf]; omega
    · have hk2 : k = n7 := by omega
      subst hk2
      have ht : AL.take k = AL := List.take_of_length_le (by rw [HN.out.len]; exact Nat.le_refl _)
      rw [ht]
      have cW := HWh.out we (on HB.out HBe.out)
      have hwe : (decide (EE = 0) && !decide (-1 ∈ AL)) = ((EE == 0) && !decide (-1 ∈ AL)) := rfl
      rw [hwe] at cW
      generalize ((EE == 0) && !decide (-1 ∈ AL)) = WB at *
      have hWW : (WB == WB) = true := by simp
      obtain ⟨p0, p1, p2, p3, p4, p5⟩ := HQ.out _ HBe.out
      clear hwe HWh
      go_wp2_with (first
        | (go_at_call 18; refine cW.mono ?_; rintro e wf ⟨rfl, bf⟩; clear cW)
        | (go_at_call 9; refine (cA _).mono ?_; rintro e wg ⟨rfl, bg⟩; clear cA))
      go_ret
      exact ⟨rfl, on HB.out (on HBe.out (on bf bg))⟩

theorem walk (V0 : MpV) (a1 : Int) (w : World) (h0 : MapIn w V0) (w1 : (Lit.int .i64 a1).wf = true) :
    Calls Tryz.prog 4 #[vM V0.m.ep V0.m.pool V0.x V0.n V0.c, .int .i64 a1] w fun e w' => e = .returned (.bool true) ∧ Below w.heap.size w w' := by
  obtain ⟨m, x, n, c⟩ := V0
  have hO := h0.os
  have hk := h0.k
  dsimp only at hO hk ⊢
  cases hm : mayM m with
  | false => exact walk_f m x n c a1 w hO hk hm
  | true =>
    have hf := fine_of hm (pg := 0) (by omega) (by have := pool_facts hm; omega)
    by_cases hn : 24 < n
    · exact walk_big m x n c a1 w hO hm hn
    · by_cases hs : 12 < m.pool.k + m.pool.m
      · exact walk_much m x n c a1 w hO hm hn hs hf.km
      · exact walk_t m x n c a1 w hO hk hm hn hs hf.k1 hf.m1

set_option maxRecDepth 100000 in
theorem lifted (os : Os) (started : os.Started) (H : Type) (enc : TypeId × Value → H) :
    ReturnsInHanded {} Tryz.checked os 4 .any (Rows.placeActsSpec.pre6 enc Tryz.prog Tryz.f4 Rows.placeActsRow.domain false) (Rows.placeActsSpec.post enc Tryz.prog Tryz.f4 false true false false) := by
  refine returnsInHanded_of_change_sized (C := Tryz.checked) own started (by kernel_rfl) Tryz.func4
    (ChangeSpec.witness6 (enc := enc) (C := Tryz.checked) false ⟨#[], #[.agg #[.int .i64 0, .int .i64 0, .int .i64 0, .int .i64 0, .int .i64 0, .slice none 0 0], .int .i64 0], []⟩ 8 (by kernel_rfl) (by kernel_rfl) (by kernel_rfl) (by kernel_rfl)) ?_
  intro W base args ds gs before hval0 hW hcnd hsz0 _
  have hsz : (DataW.weightsEach Tryz.prog (Tryz.f4.params.toList ++ Rows.placeActsSpec.plain.varTypes Tryz.prog) (ds ++ gs)).all (· ≤ reachBytes) = true := hsz0
  have hval : ∀ (j : Nat) t v, Tryz.f4.params[j]? = some t → args[j]? = some v → Value.okWide Tryz.prog W .any base t v := hval0
  have hW' := hW
  obtain ⟨p, q, hA0, hV, rfl, hfz, hnd⟩ := hW
  have hA : DataW.TrodAll enc Tryz.prog W 0 (fun _ => true) true Tryz.f4.params.toList args.toList ds p := hA0
  rw [Tryz.params4] at hA hval hsz
  obtain ⟨v0, vs0, d0, ds0, p0, q0, hargs, rfl, rfl, h0, r0⟩ := trodAll_cons hA
  obtain ⟨v1, vs1, d1, ds1, p1, q1, rfl, rfl, rfl, h1, r1⟩ := trodAll_cons r0
  obtain ⟨rfl, rfl, rfl⟩ := trodAll_nil r1
  obtain rfl : args = #[v0, v1] := by cases args; simp_all
  obtain ⟨rfl, rfl⟩ := trodVars_none hV
  have k0 := h0
  have lt0 : ∀ x ∈ p0, x.block < W.heap.size := by obtain ⟨m, hm⟩ := k0; exact DataW.trod_lt m _ _ _ hm
  have s0 : ∀ x ∈ d0.weights Tryz.prog 31, x ≤ reachBytes := fun x hx => by
    have := List.all_eq_true.1 hsz x (DataW.weights_mem_each (j := 0) rfl rfl x hx)
    simpa using this
  obtain ⟨V0, rfl, w0⟩ := At.map_in (okWide_struct Tryz.underlying31 (hval 0 31 v0 rfl rfl)) h0 s0
  obtain ⟨a1, rfl, rfl, rfl, w1⟩ := open_int Tryz.underlying3 (hval 1 3 v1 rfl rfl) h1
  clear hA0 hval0
  refine (walk V0 a1 W w0 w1).mono fun e W' ⟨he, bel⟩ => ?_
  subst he
  exact ⟨_, rfl, _, _, _, [], _, [], hW', trodAll_mk1 (shut_bool Tryz.underlying4 _), (trodAll_cons_mk (Below.trod laidOut (by kernel_rfl) (of_decide_eq_true (by kernel_rfl)) k0 bel lt0) (trodAll_cons_mk (shut_int Tryz.underlying3 w1) trodAll_mk0)), rfl, bel.frame _, fun h => by cases h⟩

theorem over : Rows.placeActsRow.holds Tryz.pinned (OpenSpec.ofChange Rows.placeActsSpec) :=
  OpenClaim.holds_of_wide 4 Tryz.f4 rfl rfl rfl rfl rfl rfl rfl ⟨rfl, rfl, rfl, rfl, rfl⟩ rfl rfl rfl rfl rfl (by kernel_rfl) Tryz.func4 (by kernel_rfl)
    (of_decide_eq_true (by kernel_rfl)) (by unfold Func.isWrapper; first | (rw [if_pos (by decide +kernel)]; kernel_rfl) | (rw [if_neg (by decide +kernel)]; exact ⟨rfl, rfl⟩))
    (fun os started H enc _ => lifted os started H enc)

theorem proved : Rows.PlaceActsSaid := over
#print axioms proved
end Go.Proofs.YtgfjmkjgagogpaaGreat.placeActs
