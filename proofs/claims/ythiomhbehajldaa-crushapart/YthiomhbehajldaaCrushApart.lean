/-
  Of whoever is chosen in any map by any rule each one is in, with a weight, no two are in one failure domain, and no more are chosen than there is room (of a map that may be only where it has at most 24 OSDs and the rule asks for at most 12): 'mooringlaw17.CrushApart' returns true and leaves its arguments as they were.
  Conditions: none.
-/
import Derived.Test.YthiomhbehajldaaByHk
import Derived.Test.YthiomhbehajldaaRows
import Derived.WalkKit
import Derived.ProofKit
import Derived.OpenShut
import Derived.SizedLaws
import Derived.ShutString
import Derived.ChangeOld
import Derived.Below
import Derived.Test.YthiomhbehajldaaByRows
import Derived.Test.YthiomhbehajldaaCrItem
import Derived.Deep.DeepCutAuto
import Derived.Test.YthiomhbehajldaaJ02
namespace Go.Proofs.Ythiomhbehajldaa.crushApart
open Go.ChangeShapes Go.WideShapes Go.ChangeAt Go.RowKit By
open Fl At Cr
set_option linter.unusedVariables false
set_option linter.unusedSimpArgs false
set_option maxRecDepth 100000

theorem own : ownKnob Try.prog.godebug = none := by kernel_rfl
theorem laidOut : laidOutB Try.prog = true := by kernel_rfl

theorem put8_heap {w : World} {g : Nat} {v0 v1 v2 v3 v4 v5 v6 v7 : Value} (h : w.heap[g]? = some (.cells #[v0, v1, v2, v3, v4, v5, v6, v7] 44 (0, 0))) (a : Osd) : (put8 w g 0 a).heap[g]? = some (.cells #[.int .i64 a.id, .bool a.up, .bool a.inn, .int .i64 a.wt, .int .i64 a.life, .int .i64 a.boot, .int .i64 a.host, .int .i64 a.rack] 44 (0, 0)) := by
  unfold put8
  refine (heap_set (heap_set (heap_set (heap_set (heap_set (heap_set (heap_set (heap_set h _) _) _) _) _) _) _) _).trans ?_
  simp

set_option maxHeartbeats 12800000 in
theorem walk_yes (m : Mp) (x : Option Addr) (n c : Nat) (dom : Int) (want : Nat) (y : Nat) (w : World) (hy : y < 4294967296) (hO : At.Os w x n c m.osds) (hk : m.pool.k ≤ 9223372036854775807) (hm : mayM m = true) (hl : litB n want = true) (hok : okC m dom (want : Int) = true) :
    Calls Try.prog 5 #[vM m.ep m.pool x n c, .agg #[.int .i64 dom, .int .i64 (want : Nat)], .int .u32 (y : Nat)] w fun e w' => e = .returned (.bool true) ∧ Below w.heap.size w w' := by
  obtain ⟨w0, hw0⟩ : ∃ w0, w0 = (w.alloc (.cells #[.int .i64 m.ep, .int .i64 m.pool.k, .int .i64 m.pool.m, .int .i64 m.pool.pgs, .int .i64 m.pool.dom, .slice x n c] 26)).alloc (.cells #[.int .i64 dom, .int .i64 (want : Nat)] 34) := ⟨_, rfl⟩
  have b0 : Below w.heap.size w w0 := by rw [hw0]; exact on (al _ _) (al _ _)
  have cM := rmay_any m (hO.below b0)
  have HO := hid hO
  have cL := fun W => light_any m x n c dom (want : Int) W
  have cA := fun W => awake_any W
  have eE : chE m dom (want : Int) = 0 := by unfold chE; rw [if_pos hok]
  have eL : chL m dom (want : Int) y = chs m.osds (dom + 1).toNat want y := by unfold chL; rw [if_pos hok]; rfl
  have HC : Hid (∀ W, Below w.heap.size w W → Calls Try.prog 14 #[vM m.ep m.pool x n c, .agg #[.int .i64 dom, .int .i64 (want : Nat)], .int .u32 (y : Nat)] W fun e w' => ∃ (x' : Option Addr) (n' c' : Nat), e = .returned (.tuple #[.slice x' n' c', .int .i64 0]) ∧ Hid (Below W.heap.size W w' ∧ Nu w' x' n' c' (chs m.osds (dom + 1).toNat want y))) := fun W hb => by
    have := cchoose_any m (HO.out.below hb) hk dom (want : Int) y hy
    rw [eE, eL] at this
    exact this
  have HRm : Hid (∀ W, Below w.heap.size w W → Calls Try.prog 10 #[vM m.ep m.pool x n c, .int .i64 dom] W fun e w' => e = .returned (.int .i64 (rm (dom + 1).toNat m.osds : Nat)) ∧ Below W.heap.size W w') := fun W hb => by
    have := rroom_any m (HO.out.below hb) dom
    have e2 : roomP m dom = (rm (dom + 1).toNat m.osds : Nat) := by
      unfold roomP
      rw [if_pos ⟨hm, by unfold okC at hok; simp at hok; exact hok.1.1.2⟩]
    rw [e2] at this
    exact this
  have HF : Hid (∀ (id : Int) (W : World), Below w.heap.size w W → Calls Try.prog 17 #[vM m.ep m.pool x n c, .int .i64 id] W fun e w' => e = .returned (.tuple #[vO (findP m.osds id).1, .bool (findP m.osds id).2]) ∧ Below W.heap.size W w') := fun id W hb => rfind_any m id (HO.out.below hb)
  obtain ⟨f1, f2, f3⟩ := may_facts hm
  have hw1 : 1 ≤ want := by unfold okC at hok; simp at hok; omega
  have hw32 : want ≤ 32 := by unfold okC at hok; simp at hok; omega
  have HA := hid (ap_of f2 (dom + 1).toNat want y)
  have HCn := hid (And.intro (cnt_le f2 f3 (dom + 1).toNat want y) (fun hr => cnt_pos f2 f3 f1 (dom + 1).toNat want y hw1 hr))
  have HLen := hid (chs_len m.osds (dom + 1).toNat want y)
  have HKh : Hid (∀ a b : Osd, kO (dom + 1).toNat a ≠ kO (dom + 1).toNat b → (dom = 1 → a.host ≠ b.host) ∧ (dom = 2 → a.rack ≠ b.rack)) := fun a b h => ⟨fun e => by subst e; exact h, fun e => by subst e; exact h⟩
  have q0 : w0.cell? ⟨w.heap.size, 0, none⟩ = some (.int .i64 m.ep) := by rw [hw0]; go_simp
  have q1 : w0.cell? ⟨w.heap.size, 1, none⟩ = some (.int .i64 m.pool.k) := by rw [hw0]; go_simp
  have q2 : w0.cell? ⟨w.heap.size, 2, none⟩ = some (.int .i64 m.pool.m) := by rw [hw0]; go_simp
  have q3 : w0.cell? ⟨w.heap.size, 3, none⟩ = some (.int .i64 m.pool.pgs) := by rw [hw0]; go_simp
  have q4 : w0.cell? ⟨w.heap.size, 4, none⟩ = some (.int .i64 m.pool.dom) := by rw [hw0]; go_simp
  have q5 : w0.cell? ⟨w.heap.size, 5, none⟩ = some (.slice x n c) := by rw [hw0]; go_simp
  have q6 : w0.cell? ⟨w.heap.size + 1, 0, none⟩ = some (.int .i64 dom) := by rw [hw0]; go_simp
  have q7 : w0.cell? ⟨w.heap.size + 1, 1, none⟩ = some (.int .i64 (want : Nat)) := by rw [hw0]; go_simp
  have HQ : Hid (∀ W, Below w0.heap.size w0 W → W.cell? ⟨w.heap.size, 0, none⟩ = some (.int .i64 m.ep) ∧ W.cell? ⟨w.heap.size, 1, none⟩ = some (.int .i64 m.pool.k) ∧ W.cell? ⟨w.heap.size, 2, none⟩ = some (.int .i64 m.pool.m) ∧ W.cell? ⟨w.heap.size, 3, none⟩ = some (.int .i64 m.pool.pgs) ∧ W.cell? ⟨w.heap.size, 4, none⟩ = some (.int .i64 m.pool.dom) ∧ W.cell? ⟨w.heap.size, 5, none⟩ = some (.slice x n c) ∧ W.cell? ⟨w.heap.size + 1, 0, none⟩ = some (.int .i64 dom) ∧ W.cell? ⟨w.heap.size + 1, 1, none⟩ = some (.int .i64 (want : Nat))) := fun W hb => ⟨keep hb q0, keep hb q1, keep hb q2, keep hb q3, keep hb q4, keep hb q5, keep hb q6, keep hb q7⟩
  have HB := hid b0
  have HW := hid hw0
  rw [hw0, hm] at cM
  rw [hl] at cL
  unfold vM at cM cL HC HRm HF ⊢
  clear hO hk hm hl hok b0 hw0 q0 q1 q2 q3 q4 q5 q6 q7 eE eL f1 f2 f3
  generalize chs m.osds (dom + 1).toNat want y = LL at *
  generalize rm (dom + 1).toNat m.osds = RM at *
  go_enter Try.func5, Try.ntmps5
  go_wp2_with (first
    | (go_at_call 12; refine cM.mono ?_; rintro e w1 ⟨rfl, hb1⟩; clear cM; rw [← HW.out] at hb1; obtain ⟨p0, p1, p2, p3, p4, p5, p6, p7⟩ := HQ.out _ hb1)
    | (go_at_call 13; refine (cL _).mono ?_; rintro e w2 ⟨rfl, hb2⟩; clear cL p0 p1 p2 p3 p4 p5 p6 p7; obtain ⟨p0, p1, p2, p3, p4, p5, p6, p7⟩ := HQ.out _ (on hb1 hb2); have cC := HC.out _ (on HB.out (on hb1 hb2)))
    | (go_at_call 14; refine cC.mono ?_; rintro e w3 ⟨x3, n3, c3, rfl, H3⟩; clear cC p0 p1 p2 p3 p4 p5 p6 p7))
  have HB3 := hid (on hb1 (on hb2 H3.out.1))
  have HN := hid H3.out.2
  have hn3 : n3 = want := by rw [← HN.out.len]; exact HLen.out
  subst hn3
  clear hb1 hb2 H3 HC HW
  go_loopw [10, 9] (fun i s wr => ∃ k C : Nat, k ≤ n3 ∧ i = .int .i64 k ∧ s = .int .i64 (C : Nat) ∧ C ≤ k ∧ Hid (Below w3.heap.size w3 wr ∧ ((LL.take k).filter some1).length = C)) (fun i _ _ => n3 - (intOf i).toNat)
  case atStart => exact ⟨0, 0, by omega, rfl, rfl, by omega, Below.refl _ _, rfl⟩
  case round =>
    obtain ⟨k, C, hk, rfl, rfl, hC, HR⟩ := hrel
    by_cases hlt : k < n3
    · have hkn : (k : Int) < (n3 : Int) := by omega
      obtain ⟨z, hz⟩ : ∃ z, LL[k]? = some z := ⟨LL[k]'(by have := HLen.out; omega), List.getElem?_eq_getElem (by have := HLen.out; omega)⟩
      rcases (HN.out.below HR.out.1).row with q0 | ⟨lb, lo, rfl, hlb, hlc⟩
      · omega
      have gl := hlc k z hz
      by_cases hh : z = -1
      · have e1 : ((LL.take (k + 1)).filter some1).length = C := by
          rw [List.take_add_one, hz, List.filter_append, List.length_append, HR.out.2]
          simp [some1, hh]
        have hze : (z == -1) = true := by simpa using hh
        have HE := hid e1
        clear e1 hz hlc hh
        go_wp2_with fail
        go_roundw
        case rel => exact ⟨k + 1, C, by omega, by go_num, rfl, by omega, HR.out.1, HE.out⟩
        case measure => simp [intOf]; omega
      · have e1 : ((LL.take (k + 1)).filter some1).length = C + 1 := by
          rw [List.take_add_one, hz, List.filter_append, List.length_append, HR.out.2]
          simp [some1, hh]
        obtain ⟨ob, hob1, hob2, hob3, hob4, hob5⟩ := HA.out.each k z hz hh
        have hze : (z == -1) = false := by simpa using hh
        have HE := hid (And.intro e1 (And.intro hz (And.intro hh hob3)))
        have CF : ∀ W, Below wr.heap.size wr W → ∀ V, Below W.heap.size W V → Calls Try.prog 17 #[.agg #[.int .i64 m.ep, .int .i64 m.pool.k, .int .i64 m.pool.m, .int .i64 m.pool.pgs, .int .i64 m.pool.dom, .slice x n c], .int .i64 z] V fun e w' => e = .returned (.tuple #[vO ob, .bool true]) ∧ Below V.heap.size V w' := fun W hb V hb2 => by
          have := HF.out z V (on HB.out (on HB3.out (on HR.out.1 (on hb hb2))))
          rw [hob3] at this
          exact this
        obtain ⟨g0, g1, g2, g3, g4, g5, g6, g7⟩ := HQ.out _ (on HB3.out HR.out.1)
        clear e1 hz hh hob1 hob2 hob3 hlc
        obtain ⟨o0, o1, o2, o3, o4, o5, o6, o7⟩ := ob
        dsimp only at hob4 hob5
        subst hob4
        have ho3 : (o3 == 0) = false := by simpa using hob5
        clear hob5
        unfold vO at CF
        dsimp only at CF
        go_wp2_with fail
        go_cut [11, 12] (fun s11 s12 wc => ∃ gb : Nat, s11 = .pointer (some ⟨gb, 0, none⟩) ∧ s12 = .bool true ∧ Hid (Below wr.heap.size wr wc ∧ wc.cell? ⟨gb, 0, none⟩ = some (.int .i64 o0) ∧ wc.cell? ⟨gb, 1, none⟩ = some (.bool o1) ∧ wc.cell? ⟨gb, 2, none⟩ = some (.bool true) ∧ wc.cell? ⟨gb, 3, none⟩ = some (.int .i64 o3) ∧ wc.cell? ⟨gb, 4, none⟩ = some (.int .i64 o4) ∧ wc.cell? ⟨gb, 5, none⟩ = some (.int .i64 o5) ∧ wc.cell? ⟨gb, 6, none⟩ = some (.int .i64 o6) ∧ wc.cell? ⟨gb, 7, none⟩ = some (.int .i64 o7)))
        case first =>
          have bD : Below wr.heap.size wr wr.drew := (Below.refl _ _).drew
          have HV : Hid (∀ V, Below wr.drew.heap.size wr.drew V → V.cell? ⟨w.heap.size, 0, none⟩ = some (.int .i64 m.ep) ∧ V.cell? ⟨w.heap.size, 1, none⟩ = some (.int .i64 m.pool.k) ∧ V.cell? ⟨w.heap.size, 2, none⟩ = some (.int .i64 m.pool.m) ∧ V.cell? ⟨w.heap.size, 3, none⟩ = some (.int .i64 m.pool.pgs) ∧ V.cell? ⟨w.heap.size, 4, none⟩ = some (.int .i64 m.pool.dom) ∧ V.cell? ⟨w.heap.size, 5, none⟩ = some (.slice x n c) ∧ V.cell? ⟨lb, lo + k, none⟩ = some (.int .i64 z)) := fun V hb => ⟨keep (on bD hb) g0, keep (on bD hb) g1, keep (on bD hb) g2, keep (on bD hb) g3, keep (on bD hb) g4, keep (on bD hb) g5, keep (on bD hb) gl⟩
          have v0 := HV.out _ (Below.refl _ _)
          have cF2 := CF _ bD
          have HBD := hid bD
          clear bD
          refine wp_region_held_drew (S := fun v => v.cell? ⟨w.heap.size, 0, none⟩ = some (.int .i64 m.ep) ∧ v.cell? ⟨w.heap.size, 1, none⟩ = some (.int .i64 m.pool.k) ∧ v.cell? ⟨w.heap.size, 2, none⟩ = some (.int .i64 m.pool.m) ∧ v.cell? ⟨w.heap.size, 3, none⟩ = some (.int .i64 m.pool.pgs) ∧ v.cell? ⟨w.heap.size, 4, none⟩ = some (.int .i64 m.pool.dom) ∧ v.cell? ⟨w.heap.size, 5, none⟩ = some (.slice x n c) ∧ v.cell? ⟨lb, lo + k, none⟩ = some (.int .i64 z)) (by kernel_rfl) v0 (fun hHeld => ?_)
          generalize wr.drew = wD at *
          refine By.hk 0 ?_
          refine By.hk 1 ?_
          refine By.hk 2 ?_
          refine By.hk 3 ?_
          refine By.hk 4 ?_
          refine wpAnyH_ready (rs := [5, 9]) (by kernel_rfl) (by simp) ?_
          refine AllReadyH.cons rfl (fun K hK => ?_) (AllReadyH.cons rfl (fun K hK => ?_) AllReadyH.nil)
          · go_simp
            refine (cF2 wD (Below.refl _ _)).mono ?_
            rintro e w5 ⟨rfl, hb5⟩
            refine hK.out _ _ (HV.out _ hb5) (fun hHeld => ?_)
            clear hK K
            refine By.hk 6 ?_
            refine By.hk 7 ?_
            refine By.hk 8 ?_
            refine wpAnyH_ready (rs := [9]) (by kernel_rfl) (by simp) ?_
            refine AllReadyH.cons rfl (fun K hK => ?_) AllReadyH.nil
            go_simp
            refine hK.out _ _ (HV.out _ (on hb5 (al _ _))) (fun hHeld => ?_)
            clear hK K
            refine wpAnyH_ready (rs := [10]) (by kernel_rfl) (by simp) ?_
            refine AllReadyH.cons rfl (fun K hK => ?_) AllReadyH.nil
            go_simp
            have b6 := on hb5 (al w5 (.cells #[.int .i64 o0, .bool o1, .bool true, .int .i64 o3, .int .i64 o4, .int .i64 o5, .int .i64 o6, .int .i64 o7] 44))
            refine hK.out _ _ (HV.out _ b6) (fun hHeld => ?_)
            clear hK K
            refine By.hk 11 ?_
            refine wpAnyH_done (by kernel_rfl) ?_ _
            go_wp2_with fail
            go_meet
            case rel => exact ⟨w5.heap.size, rfl, rfl, on HBD.out b6, by go_simp, by go_simp, by go_simp, by go_simp, by go_simp, by go_simp, by go_simp, by go_simp⟩
          · go_simp
            have bA := al wD (.cells #[.int .i64 0, .bool false, .bool false, .int .i64 0, .int .i64 0, .int .i64 0, .int .i64 0, .int .i64 0] 44)
            have lA : (wD.alloc (.cells #[.int .i64 0, .bool false, .bool false, .int .i64 0, .int .i64 0, .int .i64 0, .int .i64 0, .int .i64 0] 44)).heap[wD.heap.size]? = some (.cells #[.int .i64 0, .bool false, .bool false, .int .i64 0, .int .i64 0, .int .i64 0, .int .i64 0, .int .i64 0] 44 (0, 0)) := heap_alloc_new wD _
            have hsA : (wD.alloc (.cells #[.int .i64 0, .bool false, .bool false, .int .i64 0, .int .i64 0, .int .i64 0, .int .i64 0, .int .i64 0] 44)).heap.size = wD.heap.size + 1 := by simp
            have cF3 := cF2 _ bA
            refine hK.out _ _ (HV.out _ bA) (fun hHeld => ?_)
            clear hK K
            refine wpAnyH_ready (rs := [5]) (by kernel_rfl) (by simp) ?_
            refine AllReadyH.cons rfl (fun K hK => ?_) AllReadyH.nil
            go_simp
            refine cF3.mono ?_
            rintro e w5 ⟨rfl, hb5⟩
            have l5 := (hb5.block _ (by omega)).trans lA
            have s0 := cell_heap (j := 0) l5 rfl
            have f0 := fr_heap l5 0
            have s1 := cell_heap (j := 1) l5 rfl
            have f1 := fr_heap l5 1
            have s2 := cell_heap (j := 2) l5 rfl
            have f2 := fr_heap l5 2
            have s3 := cell_heap (j := 3) l5 rfl
            have f3 := fr_heap l5 3
            have s4 := cell_heap (j := 4) l5 rfl
            have f4 := fr_heap l5 4
            have s5 := cell_heap (j := 5) l5 rfl
            have f5 := fr_heap l5 5
            have s6 := cell_heap (j := 6) l5 rfl
            have f6 := fr_heap l5 6
            have s7 := cell_heap (j := 7) l5 rfl
            have f7 := fr_heap l5 7
            have z5 := hb5.size
            have b5 := on bA hb5
            have t6 : Turns (fun j => j = wD.heap.size) w5 (put8 w5 wD.heap.size 0 ⟨o0, o1, true, o3, o4, o5, o6, o7⟩) := turns_put8
            have b6 := b5.trans (t6.below (B := wD.heap.size) (fun j e => by omega) (by omega))
            have l6 := put8_heap l5 ⟨o0, o1, true, o3, o4, o5, o6, o7⟩
            have H6 := hid (And.intro b6 l6)
            have v6 := HV.out _ b6
            clear l5 lA t6 b6 l6
            unfold put8 at H6 v6
            dsimp only at H6 v6
            refine hK.out _ _ (HV.out _ b5) (fun hHeld => ?_)
            clear hK K
            refine By.hk 6 ?_
            refine By.hk 7 ?_
            refine By.hk 8 ?_
            refine wpAnyH_ready (rs := [10]) (by kernel_rfl) (by simp) ?_
            refine AllReadyH.cons rfl (fun K hK => ?_) AllReadyH.nil
            go_simp
            refine hK.out _ _ v6 (fun hHeld => ?_)
            clear hK K
            refine By.hk 11 ?_
            refine wpAnyH_done (by kernel_rfl) ?_ _
            go_wp2_with fail
            go_meet
            case rel => exact ⟨wD.heap.size, rfl, rfl, on HBD.out H6.out.1, cell_heap H6.out.2 rfl, cell_heap H6.out.2 rfl, cell_heap H6.out.2 rfl, cell_heap H6.out.2 rfl, cell_heap H6.out.2 rfl, cell_heap H6.out.2 rfl, cell_heap H6.out.2 rfl, cell_heap H6.out.2 rfl⟩
        case rest =>
          obtain ⟨gb, rfl, rfl, HC1⟩ := hcut
          obtain ⟨bc, ux0, ux1, ux2, ux3, ux4, ux5, ux6, ux7⟩ := HC1.out
          have HX := hid (And.intro ux0 (And.intro ux6 ux7))
          have HBc := hid bc
          clear gl g0 g1 g2 g3 g4 g5 g6 g7 CF HC1 bc
          go_wp2_with fail
          obtain ⟨w4, hw4⟩ : ∃ w4, w4 = wc := ⟨_, rfl⟩
          subst hw4
          go_loopw [13] (fun a wr => ∃ j : Nat, j ≤ k ∧ a = .int .i64 j ∧ Hid (Below w4.heap.size w4 wr)) (fun a _ => k - (intOf a).toNat)
          case atStart => exact ⟨0, by omega, rfl, Below.refl _ _⟩
          case round =>
            clear ux0 ux1 ux2 ux3 ux4 ux5 ux6 ux7
            obtain ⟨j, hj, rfl, HJ⟩ := hrel
            have BJ := on HR.out.1 (on HBc.out HJ.out)
            by_cases hjk : j < k
            · have hjk2 : (j : Int) < (k : Int) := by omega
              have hjn : (j : Int) < (n3 : Int) := by omega
              obtain ⟨zy, hzy⟩ : ∃ zy, LL[j]? = some zy := ⟨LL[j]'(by have := HLen.out; omega), List.getElem?_eq_getElem (by have := HLen.out; omega)⟩
              rcases (HN.out.below BJ).row with q0 | ⟨lb2, lo2, hlx, hlb2, hlc⟩
              · omega
              cases hlx
              have gl := hlc j zy hzy
              obtain ⟨pb, fb, hfp⟩ : ∃ pb fb, findP m.osds zy = (pb, fb) := ⟨_, _, rfl⟩
              have CF : ∀ W, Below wr.heap.size wr W → ∀ V, Below W.heap.size W V → Calls Try.prog 17 #[.agg #[.int .i64 m.ep, .int .i64 m.pool.k, .int .i64 m.pool.m, .int .i64 m.pool.pgs, .int .i64 m.pool.dom, .slice x n c], .int .i64 zy] V fun e w' => e = .returned (.tuple #[vO pb, .bool fb]) ∧ Below V.heap.size V w' := fun W hb V hb2 => by
                have := HF.out zy V (on HB.out (on HB3.out (on BJ (on hb hb2))))
                rw [hfp] at this
                exact this
              obtain ⟨g0, g1, g2, g3, g4, g5, g6, g7⟩ := HQ.out _ (on HB3.out BJ)
              have HP := hid (And.intro hzy hfp)
              have HBJ := hid BJ
              clear hzy hfp hlc BJ
              obtain ⟨p0, p1, p2, p3, p4, p5, p6, p7⟩ := pb
              unfold vO at CF
              dsimp only at CF
              go_wp2_with fail
              go_cut [14, 15] (fun s14 s15 wc => ∃ gb : Nat, s14 = .pointer (some ⟨gb, 0, none⟩) ∧ s15 = .bool fb ∧ Hid (Below wr.heap.size wr wc ∧ wc.cell? ⟨gb, 0, none⟩ = some (.int .i64 p0) ∧ wc.cell? ⟨gb, 1, none⟩ = some (.bool p1) ∧ wc.cell? ⟨gb, 2, none⟩ = some (.bool p2) ∧ wc.cell? ⟨gb, 3, none⟩ = some (.int .i64 p3) ∧ wc.cell? ⟨gb, 4, none⟩ = some (.int .i64 p4) ∧ wc.cell? ⟨gb, 5, none⟩ = some (.int .i64 p5) ∧ wc.cell? ⟨gb, 6, none⟩ = some (.int .i64 p6) ∧ wc.cell? ⟨gb, 7, none⟩ = some (.int .i64 p7)))
              case first =>
                have bD : Below wr.heap.size wr wr.drew := (Below.refl _ _).drew
                have HV : Hid (∀ V, Below wr.drew.heap.size wr.drew V → V.cell? ⟨w.heap.size, 0, none⟩ = some (.int .i64 m.ep) ∧ V.cell? ⟨w.heap.size, 1, none⟩ = some (.int .i64 m.pool.k) ∧ V.cell? ⟨w.heap.size, 2, none⟩ = some (.int .i64 m.pool.m) ∧ V.cell? ⟨w.heap.size, 3, none⟩ = some (.int .i64 m.pool.pgs) ∧ V.cell? ⟨w.heap.size, 4, none⟩ = some (.int .i64 m.pool.dom) ∧ V.cell? ⟨w.heap.size, 5, none⟩ = some (.slice x n c) ∧ V.cell? ⟨lb, lo + j, none⟩ = some (.int .i64 zy)) := fun V hb => ⟨keep (on bD hb) g0, keep (on bD hb) g1, keep (on bD hb) g2, keep (on bD hb) g3, keep (on bD hb) g4, keep (on bD hb) g5, keep (on bD hb) gl⟩
                have v0 := HV.out _ (Below.refl _ _)
                have cF2 := CF _ bD
                have HBD := hid bD
                clear bD
                refine wp_region_held_drew (S := fun v => v.cell? ⟨w.heap.size, 0, none⟩ = some (.int .i64 m.ep) ∧ v.cell? ⟨w.heap.size, 1, none⟩ = some (.int .i64 m.pool.k) ∧ v.cell? ⟨w.heap.size, 2, none⟩ = some (.int .i64 m.pool.m) ∧ v.cell? ⟨w.heap.size, 3, none⟩ = some (.int .i64 m.pool.pgs) ∧ v.cell? ⟨w.heap.size, 4, none⟩ = some (.int .i64 m.pool.dom) ∧ v.cell? ⟨w.heap.size, 5, none⟩ = some (.slice x n c) ∧ v.cell? ⟨lb, lo + j, none⟩ = some (.int .i64 zy)) (by kernel_rfl) v0 (fun hHeld => ?_)
                generalize wr.drew = wD at *
                refine By.hk 0 ?_
                refine By.hk 1 ?_
                refine By.hk 2 ?_
                refine By.hk 3 ?_
                refine By.hk 4 ?_
                refine wpAnyH_ready (rs := [5, 9]) (by kernel_rfl) (by simp) ?_
                refine AllReadyH.cons rfl (fun K hK => ?_) (AllReadyH.cons rfl (fun K hK => ?_) AllReadyH.nil)
                · go_simp
                  refine (cF2 wD (Below.refl _ _)).mono ?_
                  rintro e w5 ⟨rfl, hb5⟩
                  refine hK.out _ _ (HV.out _ hb5) (fun hHeld => ?_)
                  clear hK K
                  refine By.hk 6 ?_
                  refine By.hk 7 ?_
                  refine By.hk 8 ?_
                  refine wpAnyH_ready (rs := [9]) (by kernel_rfl) (by simp) ?_
                  refine AllReadyH.cons rfl (fun K hK => ?_) AllReadyH.nil
                  go_simp
                  refine hK.out _ _ (HV.out _ (on hb5 (al _ _))) (fun hHeld => ?_)
                  clear hK K
                  refine wpAnyH_ready (rs := [10]) (by kernel_rfl) (by simp) ?_
                  refine AllReadyH.cons rfl (fun K hK => ?_) AllReadyH.nil
                  go_simp
                  have b6 := on hb5 (al w5 (.cells #[.int .i64 p0, .bool p1, .bool p2, .int .i64 p3, .int .i64 p4, .int .i64 p5, .int .i64 p6, .int .i64 p7] 44))
                  refine hK.out _ _ (HV.out _ b6) (fun hHeld => ?_)
                  clear hK K
                  refine By.hk 11 ?_
                  refine wpAnyH_done (by kernel_rfl) ?_ _
                  go_wp2_with fail
                  go_meet
                  case rel => exact ⟨w5.heap.size, rfl, rfl, on HBD.out b6, by go_simp, by go_simp, by go_simp, by go_simp, by go_simp, by go_simp, by go_simp, by go_simp⟩
                · go_simp
                  have bA := al wD (.cells #[.int .i64 0, .bool false, .bool false, .int .i64 0, .int .i64 0, .int .i64 0, .int .i64 0, .int .i64 0] 44)
                  have lA : (wD.alloc (.cells #[.int .i64 0, .bool false, .bool false, .int .i64 0, .int .i64 0, .int .i64 0, .int .i64 0, .int .i64 0] 44)).heap[wD.heap.size]? = some (.cells #[.int .i64 0, .bool false, .bool false, .int .i64 0, .int .i64 0, .int .i64 0, .int .i64 0, .int .i64 0] 44 (0, 0)) := heap_alloc_new wD _
                  have hsA : (wD.alloc (.cells #[.int .i64 0, .bool false, .bool false, .int .i64 0, .int .i64 0, .int .i64 0, .int .i64 0, .int .i64 0] 44)).heap.size = wD.heap.size + 1 := by simp
                  have cF3 := cF2 _ bA
                  refine hK.out _ _ (HV.out _ bA) (fun hHeld => ?_)
                  clear hK K
                  refine wpAnyH_ready (rs := [5]) (by kernel_rfl) (by simp) ?_
                  refine AllReadyH.cons rfl (fun K hK => ?_) AllReadyH.nil
                  go_simp
                  refine cF3.mono ?_
                  rintro e w5 ⟨rfl, hb5⟩
                  have l5 := (hb5.block _ (by omega)).trans lA
                  have s0 := cell_heap (j := 0) l5 rfl
                  have f0 := fr_heap l5 0
                  have s1 := cell_heap (j := 1) l5 rfl
                  have f1 := fr_heap l5 1
                  have s2 := cell_heap (j := 2) l5 rfl
                  have f2 := fr_heap l5 2
                  have s3 := cell_heap (j := 3) l5 rfl
                  have f3 := fr_heap l5 3
                  have s4 := cell_heap (j := 4) l5 rfl
                  have f4 := fr_heap l5 4
                  have s5 := cell_heap (j := 5) l5 rfl
                  have f5 := fr_heap l5 5
                  have s6 := cell_heap (j := 6) l5 rfl
                  have f6 := fr_heap l5 6
                  have s7 := cell_heap (j := 7) l5 rfl
                  have f7 := fr_heap l5 7
                  have z5 := hb5.size
                  have b5 := on bA hb5
                  have t6 : Turns (fun j => j = wD.heap.size) w5 (put8 w5 wD.heap.size 0 ⟨p0, p1, p2, p3, p4, p5, p6, p7⟩) := turns_put8
                  have b6 := b5.trans (t6.below (B := wD.heap.size) (fun j e => by omega) (by omega))
                  have l6 := put8_heap l5 ⟨p0, p1, p2, p3, p4, p5, p6, p7⟩
                  have H6 := hid (And.intro b6 l6)
                  have v6 := HV.out _ b6
                  clear l5 lA t6 b6 l6
                  unfold put8 at H6 v6
                  dsimp only at H6 v6
                  refine hK.out _ _ (HV.out _ b5) (fun hHeld => ?_)
                  clear hK K
                  refine By.hk 6 ?_
                  refine By.hk 7 ?_
                  refine By.hk 8 ?_
                  refine wpAnyH_ready (rs := [10]) (by kernel_rfl) (by simp) ?_
                  refine AllReadyH.cons rfl (fun K hK => ?_) AllReadyH.nil
                  go_simp
                  refine hK.out _ _ v6 (fun hHeld => ?_)
                  clear hK K
                  refine By.hk 11 ?_
                  refine wpAnyH_done (by kernel_rfl) ?_ _
                  go_wp2_with fail
                  go_meet
                  case rel => exact ⟨wD.heap.size, rfl, rfl, on HBD.out H6.out.1, cell_heap H6.out.2 rfl, cell_heap H6.out.2 rfl, cell_heap H6.out.2 rfl, cell_heap H6.out.2 rfl, cell_heap H6.out.2 rfl, cell_heap H6.out.2 rfl, cell_heap H6.out.2 rfl, cell_heap H6.out.2 rfl⟩
              case rest =>
                obtain ⟨gb2, rfl, rfl, HC2⟩ := hcut
                obtain ⟨bc2, y0, y1, y2, y3, y4, y5, y6, y7⟩ := HC2.out
                have BX := on HJ.out bc2
                have x0 := keep BX HX.out.1
                have x6 := keep BX HX.out.2.1
                have x7 := keep BX HX.out.2.2
                have r0 := keep bc2 g6
                clear gl g0 g1 g2 g3 g4 g5 g6 g7 CF bc2 BX
                cases fb with
                | false =>
                  go_wp2_with fail
                  go_roundw
                  case rel => exact ⟨j + 1, by omega, by go_num, on HJ.out HC2.out.1⟩
                  case measure => simp [intOf]; omega
                | true =>
                  obtain ⟨hne, hkk⟩ := HA.out.apart k j z zy _ _ hjk HE.out.2.1 HP.out.1 HE.out.2.2.1 HE.out.2.2.2 HP.out.2
                  have HKK := hid (HKh.out _ _ hkk)
                  have hh0 : (p0 == o0) = false := by simpa using hne
                  clear hne hkk
                  dsimp only at HKK
                  by_cases hd1 : dom = 1
                  · have d1 : (dom == 1) = true := by simpa using hd1
                    have hh6 : (p6 == o6) = false := by simpa using (HKK.out.1 hd1)
                    have d2 : (dom == 2) = false := by simp; omega
                    clear hd1
                    go_wp2_with fail
                    go_roundw
                    case rel => exact ⟨j + 1, by omega, by go_num, on HJ.out HC2.out.1⟩
                    case measure => simp [intOf]; omega
                  · by_cases hd2 : dom = 2
                    · have d1 : (dom == 1) = false := by simp; omega
                      have d2 : (dom == 2) = true := by simpa using hd2
                      have hh7 : (p7 == o7) = false := by simpa using (HKK.out.2 hd2)
                      clear hd1 hd2
                      go_wp2_with fail
                      go_roundw
                      case rel => exact ⟨j + 1, by omega, by go_num, on HJ.out HC2.out.1⟩
                      case measure => simp [intOf]; omega
                    · have d1 : (dom == 1) = false := by simpa using hd1
                      have d2 : (dom == 2) = false := by simpa using hd2
                      clear hd1 hd2
                      go_wp2_with fail
                      go_roundw
                      case rel => exact ⟨j + 1, by omega, by go_num, on HJ.out HC2.out.1⟩
                      case measure => simp [intOf]; omega
            · have hj2 : j = k := by omega
              subst hj2
              go_wp2_with fail
              go_roundw
              case rel => exact ⟨j + 1, C + 1, by omega, by go_num, by go_num, by omega, BJ, HE.out.1⟩
              case measure => simp [intOf]; omega
    · have hk2 : k = n3 := by omega
      subst hk2
      have cR := HRm.out _ (on HB.out (on HB3.out HR.out.1))
      obtain ⟨g0, g1, g2, g3, g4, g5, g6, g7⟩ := HQ.out _ (on HB3.out HR.out.1)
      have hcl := HR.out.2
      rw [← HLen.out, List.take_length] at hcl
      have hC1 : C ≤ RM := by rw [← hcl]; exact HCn.out.1
      have hC2 : RM ≠ 0 → 0 < C := fun h => by rw [← hcl]; exact HCn.out.2 h
      have hCI : (C : Int) ≤ (RM : Int) := by omega
      have hBR := HR.out.1
      clear hcl HCn
      by_cases hr0 : RM = 0
      · have e0 : ((RM : Int) == 0) = true := by simp; omega
        go_wp2_with (first
          | (go_at_call 10; refine cR.mono ?_; rintro e w7 ⟨rfl, hb7⟩; clear cR; have i7 := keep hb7 g7)
          | (go_at_call 11; refine (cA _).mono ?_; rintro e w8 ⟨rfl, hb8⟩; clear cA))
        go_ret
        exact ⟨rfl, on HB.out (on HB3.out (on hBR (on hb7 hb8)))⟩
      · have e0 : ((RM : Int) == 0) = false := by simp; omega
        have e1 : (0 : Int) < (C : Int) := by have := hC2 hr0; omega
        go_wp2_with (first
          | (go_at_call 10; refine cR.mono ?_; rintro e w7 ⟨rfl, hb7⟩; clear cR; have i7 := keep hb7 g7)
          | (go_at_call 11; refine (cA _).mono ?_; rintro e w8 ⟨rfl, hb8⟩; clear cA))
        go_ret
        exact ⟨rfl, on HB.out (on HB3.out (on hBR (on hb7 hb8)))⟩

set_option maxHeartbeats 3200000 in
theorem walk_lit (m : Mp) (x : Option Addr) (n c : Nat) (dom want : Int) (y : Nat) (w : World) (hO : At.Os w x n c m.osds) (hm : mayM m = true) (hl : litB n want = false) :
    Calls Try.prog 5 #[vM m.ep m.pool x n c, .agg #[.int .i64 dom, .int .i64 want], .int .u32 (y : Nat)] w fun e w' => e = .returned (.bool true) ∧ Below w.heap.size w w' := by
  obtain ⟨w0, hw0⟩ : ∃ w0, w0 = (w.alloc (.cells #[.int .i64 m.ep, .int .i64 m.pool.k, .int .i64 m.pool.m, .int .i64 m.pool.pgs, .int .i64 m.pool.dom, .slice x n c] 26)).alloc (.cells #[.int .i64 dom, .int .i64 want] 34) := ⟨_, rfl⟩
  have b0 : Below w.heap.size w w0 := by rw [hw0]; exact on (al _ _) (al _ _)
  have cM := rmay_any m (hO.below b0)
  have HO := hid hO
  have cL := fun W => light_any m x n c dom want W
  have cA := fun W => awake_any W
  have q0 : w0.cell? ⟨w.heap.size, 0, none⟩ = some (.int .i64 m.ep) := by rw [hw0]; go_simp
  have q1 : w0.cell? ⟨w.heap.size, 1, none⟩ = some (.int .i64 m.pool.k) := by rw [hw0]; go_simp
  have q2 : w0.cell? ⟨w.heap.size, 2, none⟩ = some (.int .i64 m.pool.m) := by rw [hw0]; go_simp
  have q3 : w0.cell? ⟨w.heap.size, 3, none⟩ = some (.int .i64 m.pool.pgs) := by rw [hw0]; go_simp
  have q4 : w0.cell? ⟨w.heap.size, 4, none⟩ = some (.int .i64 m.pool.dom) := by rw [hw0]; go_simp
  have q5 : w0.cell? ⟨w.heap.size, 5, none⟩ = some (.slice x n c) := by rw [hw0]; go_simp
  have q6 : w0.cell? ⟨w.heap.size + 1, 0, none⟩ = some (.int .i64 dom) := by rw [hw0]; go_simp
  have q7 : w0.cell? ⟨w.heap.size + 1, 1, none⟩ = some (.int .i64 want) := by rw [hw0]; go_simp
  have HQ : Hid (∀ W, Below w0.heap.size w0 W → W.cell? ⟨w.heap.size, 0, none⟩ = some (.int .i64 m.ep) ∧ W.cell? ⟨w.heap.size, 1, none⟩ = some (.int .i64 m.pool.k) ∧ W.cell? ⟨w.heap.size, 2, none⟩ = some (.int .i64 m.pool.m) ∧ W.cell? ⟨w.heap.size, 3, none⟩ = some (.int .i64 m.pool.pgs) ∧ W.cell? ⟨w.heap.size, 4, none⟩ = some (.int .i64 m.pool.dom) ∧ W.cell? ⟨w.heap.size, 5, none⟩ = some (.slice x n c) ∧ W.cell? ⟨w.heap.size + 1, 0, none⟩ = some (.int .i64 dom) ∧ W.cell? ⟨w.heap.size + 1, 1, none⟩ = some (.int .i64 want)) := fun W hb => ⟨keep hb q0, keep hb q1, keep hb q2, keep hb q3, keep hb q4, keep hb q5, keep hb q6, keep hb q7⟩
  have HB := hid b0
  have HW := hid hw0
  rw [hw0, hm] at cM
  rw [hl] at cL
  unfold vM at cM cL ⊢
  clear hO hm hl b0 hw0 q0 q1 q2 q3 q4 q5 q6 q7
  go_enter Try.func5, Try.ntmps5
  go_wp2_with (first
    | (go_at_call 12; refine cM.mono ?_; rintro e w1 ⟨rfl, hb1⟩; clear cM; rw [← HW.out] at hb1; obtain ⟨p0, p1, p2, p3, p4, p5, p6, p7⟩ := HQ.out _ hb1)
    | (go_at_call 13; refine (cL _).mono ?_; rintro e w2 ⟨rfl, hb2⟩; clear cL)
    | (go_at_call 11; refine (cA _).mono ?_; rintro e w6 ⟨rfl, hb6⟩; clear cA))
  go_ret
  exact ⟨rfl, on HB.out (on hb1 (on hb2 hb6))⟩

set_option maxHeartbeats 3200000 in
theorem walk_no (m : Mp) (x : Option Addr) (n c : Nat) (dom want : Int) (y : Nat) (w : World) (hy : y < 4294967296) (hO : At.Os w x n c m.osds) (hk : m.pool.k ≤ 9223372036854775807) (hl : mayM m = true → litB n want = true) (hok : okC m dom want = false) :
    Calls Try.prog 5 #[vM m.ep m.pool x n c, .agg #[.int .i64 dom, .int .i64 want], .int .u32 (y : Nat)] w fun e w' => e = .returned (.bool true) ∧ Below w.heap.size w w' := by
  obtain ⟨w0, hw0⟩ : ∃ w0, w0 = (w.alloc (.cells #[.int .i64 m.ep, .int .i64 m.pool.k, .int .i64 m.pool.m, .int .i64 m.pool.pgs, .int .i64 m.pool.dom, .slice x n c] 26)).alloc (.cells #[.int .i64 dom, .int .i64 want] 34) := ⟨_, rfl⟩
  have b0 : Below w.heap.size w w0 := by rw [hw0]; exact on (al _ _) (al _ _)
  have cM := rmay_any m (hO.below b0)
  have HO := hid hO
  have cL := fun W => light_any m x n c dom want W
  have cA := fun W => awake_any W
  have q0 : w0.cell? ⟨w.heap.size, 0, none⟩ = some (.int .i64 m.ep) := by rw [hw0]; go_simp
  have q1 : w0.cell? ⟨w.heap.size, 1, none⟩ = some (.int .i64 m.pool.k) := by rw [hw0]; go_simp
  have q2 : w0.cell? ⟨w.heap.size, 2, none⟩ = some (.int .i64 m.pool.m) := by rw [hw0]; go_simp
  have q3 : w0.cell? ⟨w.heap.size, 3, none⟩ = some (.int .i64 m.pool.pgs) := by rw [hw0]; go_simp
  have q4 : w0.cell? ⟨w.heap.size, 4, none⟩ = some (.int .i64 m.pool.dom) := by rw [hw0]; go_simp
  have q5 : w0.cell? ⟨w.heap.size, 5, none⟩ = some (.slice x n c) := by rw [hw0]; go_simp
  have q6 : w0.cell? ⟨w.heap.size + 1, 0, none⟩ = some (.int .i64 dom) := by rw [hw0]; go_simp
  have q7 : w0.cell? ⟨w.heap.size + 1, 1, none⟩ = some (.int .i64 want) := by rw [hw0]; go_simp
  have HQ : Hid (∀ W, Below w0.heap.size w0 W → W.cell? ⟨w.heap.size, 0, none⟩ = some (.int .i64 m.ep) ∧ W.cell? ⟨w.heap.size, 1, none⟩ = some (.int .i64 m.pool.k) ∧ W.cell? ⟨w.heap.size, 2, none⟩ = some (.int .i64 m.pool.m) ∧ W.cell? ⟨w.heap.size, 3, none⟩ = some (.int .i64 m.pool.pgs) ∧ W.cell? ⟨w.heap.size, 4, none⟩ = some (.int .i64 m.pool.dom) ∧ W.cell? ⟨w.heap.size, 5, none⟩ = some (.slice x n c) ∧ W.cell? ⟨w.heap.size + 1, 0, none⟩ = some (.int .i64 dom) ∧ W.cell? ⟨w.heap.size + 1, 1, none⟩ = some (.int .i64 want)) := fun W hb => ⟨keep hb q0, keep hb q1, keep hb q2, keep hb q3, keep hb q4, keep hb q5, keep hb q6, keep hb q7⟩
  have HB := hid b0
  have HW := hid hw0
  have HC : Hid (∀ W, Below w.heap.size w W → Calls Try.prog 14 #[vM m.ep m.pool x n c, .agg #[.int .i64 dom, .int .i64 want], .int .u32 (y : Nat)] W fun e w' => ∃ (x' : Option Addr) (c' : Nat), e = .returned (.tuple #[.slice x' 0 c', .int .i64 1]) ∧ Below W.heap.size W w') := fun W hb => by
    have := cchoose_any m (HO.out.below hb) hk dom want y hy
    have eE : chE m dom want = 1 := by unfold chE; rw [hok]; rfl
    have eL : chL m dom want y = [] := by unfold chL; rw [hok]; rfl
    rw [eE, eL] at this
    refine this.mono fun e w' ⟨x', n', c', he, H⟩ => ⟨x', c', ?_, H.out.1⟩
    have hn : n' = 0 := H.out.2.len.symm
    rw [hn] at he
    exact he
  rw [hw0] at cM
  unfold vM at cM cL HC ⊢
  clear hO hk b0 hw0 hok q0 q1 q2 q3 q4 q5 q6 q7
  cases hm : mayM m with
  | false =>
    rw [hm] at cM
    clear hm cL hl
    go_enter Try.func5, Try.ntmps5
    go_wp2_with (first
      | (go_at_call 12; refine cM.mono ?_; rintro e w1 ⟨rfl, hb1⟩; clear cM; rw [← HW.out] at hb1; obtain ⟨p0, p1, p2, p3, p4, p5, p6, p7⟩ := HQ.out _ hb1; have cC := HC.out _ (on HB.out hb1))
      | (go_at_call 14; refine cC.mono ?_; rintro e w3 ⟨x3, c3, rfl, hb3⟩; clear cC)
      | (go_at_call 11; refine (cA _).mono ?_; rintro e w6 ⟨rfl, hb6⟩; clear cA))
    go_ret
    exact ⟨rfl, on HB.out (on hb1 (on hb3 hb6))⟩
  | true =>
    rw [hm] at cM
    rw [hl hm] at cL
    clear hm hl
    go_enter Try.func5, Try.ntmps5
    go_wp2_with (first
      | (go_at_call 12; refine cM.mono ?_; rintro e w1 ⟨rfl, hb1⟩; clear cM; rw [← HW.out] at hb1; obtain ⟨p0, p1, p2, p3, p4, p5, p6, p7⟩ := HQ.out _ hb1)
      | (go_at_call 13; refine (cL _).mono ?_; rintro e w2 ⟨rfl, hb2⟩; clear cL p0 p1 p2 p3 p4 p5 p6 p7; obtain ⟨p0, p1, p2, p3, p4, p5, p6, p7⟩ := HQ.out _ (on hb1 hb2); have cC := HC.out _ (on HB.out (on hb1 hb2)))
      | (go_at_call 14; refine cC.mono ?_; rintro e w3 ⟨x3, c3, rfl, hb3⟩; clear cC)
      | (go_at_call 11; refine (cA _).mono ?_; rintro e w6 ⟨rfl, hb6⟩; clear cA))
    go_ret
    exact ⟨rfl, on HB.out (on hb1 (on hb2 (on hb3 hb6)))⟩

theorem walk (V0 : MpV) (dom want : Int) (a2 : Int) (w : World) (h0 : MapIn w V0) (w2 : (Lit.int .u32 a2).wf = true) :
    Calls Try.prog 5 #[vM V0.m.ep V0.m.pool V0.x V0.n V0.c, .agg #[.int .i64 dom, .int .i64 want], .int .u32 a2] w fun e w' => e = .returned (.bool true) ∧ Below w.heap.size w w' := by
  have b1 := bounds_u32 w2
  obtain ⟨y, rfl⟩ := Int.eq_ofNat_of_zero_le b1.1
  have hy : y < 4294967296 := by omega
  obtain ⟨m, x, n, c⟩ := V0
  have hO := h0.os
  have hk := h0.k
  dsimp only at hO hk ⊢
  cases hok : okC m dom want with
  | false =>
    by_cases hl : mayM m = true → litB n want = true
    · exact walk_no m x n c dom want y w hy hO hk hl hok
    · have hm : mayM m = true := Decidable.byContradiction fun e => hl fun h => absurd h e
      have hl2 : litB n want = false := by
        cases hb : litB n want with
        | false => rfl
        | true => exact absurd (fun _ => hb) hl
      exact walk_lit m x n c dom want y w hO hm hl2
  | true =>
    have hm : mayM m = true := by unfold okC at hok; simp at hok; exact hok.1.1.1
    have hw : 0 ≤ want := by unfold okC at hok; simp at hok; omega
    obtain ⟨wn, rfl⟩ := Int.eq_ofNat_of_zero_le hw
    cases hl : litB n (wn : Int) with
    | false => exact walk_lit m x n c dom (wn : Int) y w hO hm hl
    | true => exact walk_yes m x n c dom wn y w hy hO hk hm hl hok

set_option maxRecDepth 100000 in
theorem lifted (os : Os) (started : os.Started) (H : Type) (enc : TypeId × Value → H) :
    ReturnsInHanded {} Try.checked os 5 .any (Rows.crushApartSpec.pre6 enc Try.prog Try.f5 Rows.crushApartRow.domain false) (Rows.crushApartSpec.post enc Try.prog Try.f5 false true false false) := by
  refine returnsInHanded_of_change_sized (C := Try.checked) own started (by kernel_rfl) Try.func5
    (ChangeSpec.witness6 (enc := enc) (C := Try.checked) false ⟨#[], #[.agg #[.int .i64 0, .int .i64 0, .int .i64 0, .int .i64 0, .int .i64 0, .slice none 0 0], .agg #[.int .i64 0, .int .i64 0], .int .u32 0], []⟩ 8 (by kernel_rfl) (by kernel_rfl) (by kernel_rfl) (by kernel_rfl)) ?_
  intro W base args ds gs before hval0 hW hcnd hsz0 _
  have hsz : (DataW.weightsEach Try.prog (Try.f5.params.toList ++ Rows.crushApartSpec.plain.varTypes Try.prog) (ds ++ gs)).all (· ≤ reachBytes) = true := hsz0
  have hval : ∀ (j : Nat) t v, Try.f5.params[j]? = some t → args[j]? = some v → Value.okWide Try.prog W .any base t v := hval0
  have hW' := hW
  obtain ⟨p, q, hA0, hV, rfl, hfz, hnd⟩ := hW
  have hA : DataW.TrodAll enc Try.prog W 0 (fun _ => true) true Try.f5.params.toList args.toList ds p := hA0
  rw [Try.params5] at hA hval hsz
  obtain ⟨v0, vs0, d0, ds0, p0, q0, hargs, rfl, rfl, h0, r0⟩ := trodAll_cons hA
  obtain ⟨v1, vs1, d1, ds1, p1, q1, rfl, rfl, rfl, h1, r1⟩ := trodAll_cons r0
  obtain ⟨v2, vs2, d2, ds2, p2, q2, rfl, rfl, rfl, h2, r2⟩ := trodAll_cons r1
  obtain ⟨rfl, rfl, rfl⟩ := trodAll_nil r2
  obtain rfl : args = #[v0, v1, v2] := by cases args; simp_all
  obtain ⟨rfl, rfl⟩ := trodVars_none hV
  have k0 := h0
  have lt0 : ∀ x ∈ p0, x.block < W.heap.size := by obtain ⟨m, hm⟩ := k0; exact DataW.trod_lt m _ _ _ hm
  have s0 : ∀ x ∈ d0.weights Try.prog 26, x ≤ reachBytes := fun x hx => by
    have := List.all_eq_true.1 hsz x (DataW.weights_mem_each (j := 0) rfl rfl x hx)
    simpa using this
  obtain ⟨V0, rfl, w0⟩ := At.map_in (okWide_struct Try.underlying26 (hval 0 26 v0 rfl rfl)) h0 s0
  have k1 := h1
  have lt1 : ∀ x ∈ p1, x.block < W.heap.size := by obtain ⟨m, hm⟩ := k1; exact DataW.trod_lt m _ _ _ hm
  have s1 : ∀ x ∈ d1.weights Try.prog 34, x ≤ reachBytes := fun x hx => by
    have := List.all_eq_true.1 hsz x (DataW.weights_mem_each (j := 1) rfl rfl x hx)
    simpa using this
  obtain ⟨V1, U1, rfl⟩ := Cr.rule_in (okWide_struct Try.underlying34 (hval 1 34 v1 rfl rfl)) h1
  obtain ⟨a2, rfl, rfl, rfl, w2⟩ := open_int Try.underlying27 (hval 2 27 v2 rfl rfl) h2
  clear hA0 hval0
  refine (walk V0 V1 U1 a2 W w0 w2).mono fun e W' ⟨he, bel⟩ => ?_
  subst he
  exact ⟨_, rfl, _, _, _, [], _, [], hW', trodAll_mk1 (shut_bool Try.underlying4 _), (trodAll_cons_mk (Below.trod laidOut (by kernel_rfl) (of_decide_eq_true (by kernel_rfl)) k0 bel lt0) (trodAll_cons_mk (Below.trod laidOut (by kernel_rfl) (of_decide_eq_true (by kernel_rfl)) k1 bel lt1) (trodAll_cons_mk (shut_int Try.underlying27 w2) trodAll_mk0))), rfl, bel.frame _, fun h => by cases h⟩

theorem over : Rows.crushApartRow.holds Try.pinned (OpenSpec.ofChange Rows.crushApartSpec) :=
  OpenClaim.holds_of_wide 5 Try.f5 rfl rfl rfl rfl rfl rfl rfl ⟨rfl, rfl, rfl, rfl, rfl⟩ rfl rfl rfl rfl rfl (by kernel_rfl) Try.func5 (by kernel_rfl)
    (of_decide_eq_true (by kernel_rfl)) (by unfold Func.isWrapper; first | (rw [if_pos (by decide +kernel)]; kernel_rfl) | (rw [if_neg (by decide +kernel)]; exact ⟨rfl, rfl⟩))
    (fun os started H enc _ => lifted os started H enc)

theorem proved : Rows.CrushApartSaid := over
#print axioms proved
end Go.Proofs.Ythiomhbehajldaa.crushApart
