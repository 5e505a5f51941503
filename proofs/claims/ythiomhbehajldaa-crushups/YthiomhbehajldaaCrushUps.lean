/-
  Who is up, and which epoch it is, turns no choice (of a map that may be, where it has at most 24 OSDs and the rule asks for at most 12): 'mooringlaw17.CrushUps' returns true and leaves its arguments as they were.
  Conditions: none.
-/
import Derived.Test.YthiomhbehajldaaRows
import Derived.WalkKit
import Derived.ProofKit
import Derived.OpenShut
import Derived.SizedLaws
import Derived.ShutString
import Derived.ChangeOld
import Derived.Below
import Derived.Test.YthiomhbehajldaaByRows
import Derived.Test.YthiomhbehajldaaCrItem
import Derived.Test.YthiomhbehajldaaJ02
import Derived.Test.YthiomhbehajldaaCrUpP
namespace Go.Proofs.Ythiomhbehajldaa.crushUps
open Go.ChangeShapes Go.WideShapes Go.ChangeAt Go.RowKit By
open Fl At Cr
set_option linter.unusedVariables false
set_option linter.unusedSimpArgs false
set_option maxRecDepth 100000

theorem own : ownKnob Try.prog.godebug = none := by kernel_rfl
theorem laidOut : laidOutB Try.prog = true := by kernel_rfl

set_option maxHeartbeats 3200000 in
theorem walk_no (m : Mp) (x : Option Addr) (n c : Nat) (dom want : Int) (y : Nat) (w : World) (hO : At.Os w x n c m.osds) (hl : mayM m = true → litB n want = false) :
    Calls Try.prog 6 #[vM m.ep m.pool x n c, .agg #[.int .i64 dom, .int .i64 want], .int .u32 (y : Nat)] w fun e w' => e = .returned (.bool true) ∧ Below w.heap.size w w' := by
  obtain ⟨w0, hw0⟩ : ∃ w0, w0 = (w.alloc (.cells #[.int .i64 m.ep, .int .i64 m.pool.k, .int .i64 m.pool.m, .int .i64 m.pool.pgs, .int .i64 m.pool.dom, .slice x n c] 26)).alloc (.cells #[.int .i64 dom, .int .i64 want] 34) := ⟨_, rfl⟩
  have b0 : Below w.heap.size w w0 := by rw [hw0]; exact on (al _ _) (al _ _)
  have cM := rmay_any m (hO.below b0)
  have HO := hid hO
  have cL := fun W => light_any m x n c dom want W
  have cA := fun W => awake_any W
  have q0 : w0.cell? ⟨w.heap.size, 0, none⟩ = some (.int .i64 m.ep) := by rw [hw0]; go_simp
  have q1 : w0.cell? ⟨w.heap.size, 1, none⟩ = some (.int .i64 m.pool.k) := by rw [hw0]; go_simp
  have q2 : w0.cell? ⟨w.heap.size, 2, none⟩ = some (.int .i64 m.pool.m) := by rw [hw0]; go_simp
  have q3 : w0.cell? ⟨w.heap.size, 3, none⟩ = some (.int .i64 m.pool.pgs) := by rw [hw0]; go_simp
  have q4 : w0.cell? ⟨w.heap.size, 4, none⟩ = some (.int .i64 m.pool.dom) := by rw [hw0]; go_simp
  have q5 : w0.cell? ⟨w.heap.size, 5, none⟩ = some (.slice x n c) := by rw [hw0]; go_simp
  have q6 : w0.cell? ⟨w.heap.size + 1, 0, none⟩ = some (.int .i64 dom) := by rw [hw0]; go_simp
  have q7 : w0.cell? ⟨w.heap.size + 1, 1, none⟩ = some (.int .i64 want) := by rw [hw0]; go_simp
  have HQ : Hid (∀ W, Below w0.heap.size w0 W → W.cell? ⟨w.heap.size, 0, none⟩ = some (.int .i64 m.ep) ∧ W.cell? ⟨w.heap.size, 1, none⟩ = some (.int .i64 m.pool.k) ∧ W.cell? ⟨w.heap.size, 2, none⟩ = some (.int .i64 m.pool.m) ∧ W.cell? ⟨w.heap.size, 3, none⟩ = some (.int .i64 m.pool.pgs) ∧ W.cell? ⟨w.heap.size, 4, none⟩ = some (.int .i64 m.pool.dom) ∧ W.cell? ⟨w.heap.size, 5, none⟩ = some (.slice x n c) ∧ W.cell? ⟨w.heap.size + 1, 0, none⟩ = some (.int .i64 dom) ∧ W.cell? ⟨w.heap.size + 1, 1, none⟩ = some (.int .i64 want)) := fun W hb => ⟨keep hb q0, keep hb q1, keep hb q2, keep hb q3, keep hb q4, keep hb q5, keep hb q6, keep hb q7⟩
  have HB := hid b0
  have HW := hid hw0
  rw [hw0] at cM
  unfold vM at cM cL ⊢
  clear hO b0 hw0 q0 q1 q2 q3 q4 q5 q6 q7
  cases hm : mayM m with
  | false =>
    rw [hm] at cM
    clear hm cL hl
    go_enter Try.func6, Try.ntmps6
    go_wp2_with (first
      | (go_at_call 12; refine cM.mono ?_; rintro e w1 ⟨rfl, hb1⟩; clear cM; rw [← HW.out] at hb1; obtain ⟨p0, p1, p2, p3, p4, p5, p6, p7⟩ := HQ.out _ hb1)
      | (go_at_call 11; refine (cA _).mono ?_; rintro e w6 ⟨rfl, hb6⟩; clear cA))
    go_ret
    exact ⟨rfl, on HB.out (on hb1 hb6)⟩
  | true =>
    rw [hm] at cM
    rw [hl hm] at cL
    clear hm hl
    go_enter Try.func6, Try.ntmps6
    go_wp2_with (first
      | (go_at_call 12; refine cM.mono ?_; rintro e w1 ⟨rfl, hb1⟩; clear cM; rw [← HW.out] at hb1; obtain ⟨p0, p1, p2, p3, p4, p5, p6, p7⟩ := HQ.out _ hb1)
      | (go_at_call 13; refine (cL _).mono ?_; rintro e w2 ⟨rfl, hb2⟩; clear cL)
      | (go_at_call 11; refine (cA _).mono ?_; rintro e w6 ⟨rfl, hb6⟩; clear cA))
    go_ret
    exact ⟨rfl, on HB.out (on hb1 (on hb2 hb6))⟩

set_option maxHeartbeats 6400000 in
theorem walk_yes (m : Mp) (x : Option Addr) (n c : Nat) (dom want : Int) (y : Nat) (w : World) (hy : y < 4294967296) (hO : At.Os w x n c m.osds) (hk : m.pool.k ≤ 9223372036854775807) (hm : mayM m = true) (hl : litB n want = true) :
    Calls Try.prog 6 #[vM m.ep m.pool x n c, .agg #[.int .i64 dom, .int .i64 want], .int .u32 (y : Nat)] w fun e w' => e = .returned (.bool true) ∧ Below w.heap.size w w' := by
  obtain ⟨w0, hw0⟩ : ∃ w0, w0 = (w.alloc (.cells #[.int .i64 m.ep, .int .i64 m.pool.k, .int .i64 m.pool.m, .int .i64 m.pool.pgs, .int .i64 m.pool.dom, .slice x n c] 26)).alloc (.cells #[.int .i64 dom, .int .i64 want] 34) := ⟨_, rfl⟩
  have b0 : Below w.heap.size w w0 := by rw [hw0]; exact on (al _ _) (al _ _)
  have cM := rmay_any m (hO.below b0)
  have HO := hid hO
  have cL := fun W => light_any m x n c dom want W
  have cA := fun W => awake_any W
  have q0 : w0.cell? ⟨w.heap.size, 0, none⟩ = some (.int .i64 m.ep) := by rw [hw0]; go_simp
  have q1 : w0.cell? ⟨w.heap.size, 1, none⟩ = some (.int .i64 m.pool.k) := by rw [hw0]; go_simp
  have q2 : w0.cell? ⟨w.heap.size, 2, none⟩ = some (.int .i64 m.pool.m) := by rw [hw0]; go_simp
  have q3 : w0.cell? ⟨w.heap.size, 3, none⟩ = some (.int .i64 m.pool.pgs) := by rw [hw0]; go_simp
  have q4 : w0.cell? ⟨w.heap.size, 4, none⟩ = some (.int .i64 m.pool.dom) := by rw [hw0]; go_simp
  have q5 : w0.cell? ⟨w.heap.size, 5, none⟩ = some (.slice x n c) := by rw [hw0]; go_simp
  have q6 : w0.cell? ⟨w.heap.size + 1, 0, none⟩ = some (.int .i64 dom) := by rw [hw0]; go_simp
  have q7 : w0.cell? ⟨w.heap.size + 1, 1, none⟩ = some (.int .i64 want) := by rw [hw0]; go_simp
  have HQ : Hid (∀ W, Below w0.heap.size w0 W → W.cell? ⟨w.heap.size, 0, none⟩ = some (.int .i64 m.ep) ∧ W.cell? ⟨w.heap.size, 1, none⟩ = some (.int .i64 m.pool.k) ∧ W.cell? ⟨w.heap.size, 2, none⟩ = some (.int .i64 m.pool.m) ∧ W.cell? ⟨w.heap.size, 3, none⟩ = some (.int .i64 m.pool.pgs) ∧ W.cell? ⟨w.heap.size, 4, none⟩ = some (.int .i64 m.pool.dom) ∧ W.cell? ⟨w.heap.size, 5, none⟩ = some (.slice x n c) ∧ W.cell? ⟨w.heap.size + 1, 0, none⟩ = some (.int .i64 dom) ∧ W.cell? ⟨w.heap.size + 1, 1, none⟩ = some (.int .i64 want)) := fun W hb => ⟨keep hb q0, keep hb q1, keep hb q2, keep hb q3, keep hb q4, keep hb q5, keep hb q6, keep hb q7⟩
  have HB := hid b0
  have HW := hid hw0
  have HC : Hid (∀ W, Below w.heap.size w W → Calls Try.prog 14 #[vM m.ep m.pool x n c, .agg #[.int .i64 dom, .int .i64 want], .int .u32 (y : Nat)] W fun e w' => ∃ (x' : Option Addr) (n' c' : Nat), e = .returned (.tuple #[.slice x' n' c', .int .i64 (chE m dom want)]) ∧ Hid (Below W.heap.size W w' ∧ Nu w' x' n' c' (chL m dom want y))) := fun W hb => cchoose_any m (HO.out.below hb) hk dom want y hy
  have HD : Hid (∀ (W : World) (x5 : Option Addr) (c5 : Nat), At.Os W x5 n c5 (ups m.osds n) → Calls Try.prog 14 #[.agg #[.int .i64 7, .int .i64 m.pool.k, .int .i64 m.pool.m, .int .i64 m.pool.pgs, .int .i64 m.pool.dom, .slice x5 n c5], .agg #[.int .i64 dom, .int .i64 want], .int .u32 (y : Nat)] W fun e w' => ∃ (x' : Option Addr) (n' c' : Nat), e = .returned (.tuple #[.slice x' n' c', .int .i64 (chE m dom want)]) ∧ Hid (Below W.heap.size W w' ∧ Nu w' x' n' c' (chL m dom want y))) := fun W x5 c5 h5 => by
    have hln : m.osds.length = n := HO.out.len
    have e2 := ups_choose hm dom want y
    rw [hln] at e2
    have := cchoose_any ⟨7, m.pool, ups m.osds n⟩ h5 hk dom want y hy
    rw [e2.1, e2.2] at this
    exact this
  have HI : Hid (∀ (W : World) (x1 : Option Addr) (n1 c1 : Nat) (x2 : Option Addr) (n2 c2 : Nat), Nu W x1 n1 c1 (chL m dom want y) → Nu W x2 n2 c2 (chL m dom want y) → Calls Try.prog 16 #[.slice x1 n1 c1, .slice x2 n2 c2] W fun e w' => e = .returned (.bool true) ∧ Below W.heap.size W w') := fun W x1 n1 c1 x2 n2 c2 h1 h2 => by
    have := ints_any h1 h2 (by rw [← h1.len]; have := chL_len m dom want y; omega)
    rw [decide_eq_true rfl] at this
    exact this
  have hn24 : n ≤ 24 := by unfold litB at hl; simp at hl; omega
  have HCp : Hid (∀ W, Below w.heap.size w W → ∃ x' c' w', (Builtin.append_ #[24, 24] 24 #[.slice (some ⟨W.heap.size, 0, none⟩) 0 0, .slice x n c]).run Try.prog (W.alloc (.cells #[] 44)) = .ok (.slice x' n c') w' ∧ Hid (Own w' W.heap.size 44 8 enO (.slice x' n c') m.osds ∧ Below W.heap.size W w')) := fun W hb => copy_os (HO.out.below hb) (by omega)
  have HLn := hid HO.out.len
  rw [hw0, hm] at cM
  rw [hl] at cL
  unfold vM at cM cL HC ⊢
  clear hO hk hm hl b0 hw0 q0 q1 q2 q3 q4 q5 q6 q7
  generalize chL m dom want y = LL at *
  generalize chE m dom want = EE at *
  have hEE : (EE == EE) = true := by simp
  go_enter Try.func6, Try.ntmps6
  go_wp2_with (first
    | (go_at_call 12; refine cM.mono ?_; rintro e w1 ⟨rfl, hb1⟩; clear cM; rw [← HW.out] at hb1; obtain ⟨p0, p1, p2, p3, p4, p5, p6, p7⟩ := HQ.out _ hb1)
    | (
      go_at_call 13
      refine (cL _).mono ?_
      rintro e w2 ⟨rfl, hb2⟩
      clear cL p0 p1 p2 p3 p4 p5 p6 p7
      obtain ⟨p0, p1, p2, p3, p4, p5, p6, p7⟩ := HQ.out _ (on hb1 hb2)
      have l0 : w.heap.size < w2.heap.size := cell_lt' p0
      have l1 : w.heap.size + 1 < w2.heap.size := cell_lt' p6
      have bA := al w2 (.cells #[.int .i64 7, .int .i64 m.pool.k, .int .i64 m.pool.m, .int .i64 m.pool.pgs, .int .i64 m.pool.dom, .slice x n c] 26)
      have lA : (w2.alloc (.cells #[.int .i64 7, .int .i64 m.pool.k, .int .i64 m.pool.m, .int .i64 m.pool.pgs, .int .i64 m.pool.dom, .slice x n c] 26)).heap[w2.heap.size]? = some (.cells #[.int .i64 7, .int .i64 m.pool.k, .int .i64 m.pool.m, .int .i64 m.pool.pgs, .int .i64 m.pool.dom, .slice x n c] 26 (0, 0)) := heap_alloc_new w2 _
      have hsA : (w2.alloc (.cells #[.int .i64 7, .int .i64 m.pool.k, .int .i64 m.pool.m, .int .i64 m.pool.pgs, .int .i64 m.pool.dom, .slice x n c] 26)).heap.size = w2.heap.size + 1 := by simp
      obtain ⟨x5, c5, w5, hap, H5⟩ := HCp.out _ (on HB.out (on hb1 (on hb2 bA)))
      rw [hsA] at hap H5
      have l5 := (H5.out.2.block w2.heap.size (by omega)).trans lA
      have s5 := cell_heap (j := 5) l5 rfl
      have f5 := fr_heap l5 5
      have HL5 := hid l5
      have HB5 := hid (And.intro bA hsA)
      clear lA l5 bA hsA)
    | (at_builtin; refine Lib.wpList_append_run _ rfl _ _ _ _ rfl _ _ rfl rfl _ _ hap ?_))
  clear hap s5 f5
  have hb5 := H5.out.2
  have hz5 : w2.heap.size + 1 ≤ w5.heap.size := by have := hb5.size; have := HB5.out.2; omega
  have HS : Hid (Below w2.heap.size w2 (w5.setCell ⟨w2.heap.size, 5, none⟩ (.slice x5 n c5)) ∧ (w5.setCell ⟨w2.heap.size, 5, none⟩ (.slice x5 n c5)).heap[w2.heap.size]? = some (.cells #[.int .i64 7, .int .i64 m.pool.k, .int .i64 m.pool.m, .int .i64 m.pool.pgs, .int .i64 m.pool.dom, .slice x5 n c5] 26 (0, 0)) ∧ Own (w5.setCell ⟨w2.heap.size, 5, none⟩ (.slice x5 n c5)) (w2.heap.size + 1) 44 8 enO (.slice x5 n c5) (ups m.osds 0)) := by
    have t5 : Turns (fun j => j = w2.heap.size) w5 (w5.setCell ⟨w2.heap.size, 5, none⟩ (.slice x5 n c5)) := turns_put (Turns.refl _ w5) 5 _
    have b5 : Below w2.heap.size w2 w5 := HB5.out.1.trans (hb5.mono (by omega))
    exact ⟨b5.trans (t5.below (fun j e => by omega) (by omega)), heap_set HL5.out _, H5.out.1.turns t5 (fun g hg e => by have := (H5.out.1.tb hg).1; omega)⟩
  have HQ2 := hid (on hb1 hb2)
  clear p0 p1 p2 p3 p4 p5 p6 p7 hb5 hz5 HL5 H5 HB5 hb1 hb2
  go_loopw [8] (fun i wr => ∃ k : Nat, k ≤ n ∧ i = .int .i64 k ∧ Hid (Below w2.heap.size w2 wr ∧ wr.heap[w2.heap.size]? = some (.cells #[.int .i64 7, .int .i64 m.pool.k, .int .i64 m.pool.m, .int .i64 m.pool.pgs, .int .i64 m.pool.dom, .slice x5 n c5] 26 (0, 0)) ∧ Own wr (w2.heap.size + 1) 44 8 enO (.slice x5 n c5) (ups m.osds k))) (fun i _ => n - (intOf i).toNat)
  case atStart => exact ⟨0, by omega, rfl, HS.out⟩
  case round =>
    clear HS
    obtain ⟨k, hk, rfl, HR⟩ := hrel
    obtain ⟨i1, i2, i3⟩ := HR.out
    have s5 := cell_heap (j := 5) i2 rfl
    by_cases hlt : k < n
    · have hkn : (k : Int) < (n : Int) := by omega
      obtain ⟨o, ho⟩ : ∃ o, m.osds[k]? = some o := ⟨m.osds[k]'(by have := HLn.out; omega), List.getElem?_eq_getElem (by have := HLn.out; omega)⟩
      have hg : (ups m.osds k)[k]? = some o := by rw [ups_get, if_neg (by omega)]; exact ho
      obtain ⟨g, c6, e6, _, _, hg1, hg2⟩ := i3.there (fun e => by rw [e] at hg; simp at hg)
      injection e6 with e61 e62 e63
      subst e61
      have d1 : wr.cell? ⟨g, k * 8 + 1, none⟩ = some (.bool o.up) := i3.cell orow.len hg (j := 1) rfl
      have d4 : wr.cell? ⟨g, k * 8 + 4, none⟩ = some (.int .i64 o.life) := i3.cell orow.len hg (j := 4) rfl
      have f1 := i3.frozen (k := k * 8 + 1)
      have f4 := i3.frozen (k := k * 8 + 4)
      have hgn : w2.heap.size ≠ g := by omega
      have t6 : Turns (fun j => j = g) wr ((wr.setCell ⟨g, k * 8 + 1, none⟩ (.bool false)).setCell ⟨g, k * 8 + 4, none⟩ (.int .i64 (k : Nat))) := turns_put (turns_put (Turns.refl _ wr) _ _) _ _
      have hzr := (Array.getElem?_eq_some_iff.1 i2).1
      have HN : Hid (Below w2.heap.size w2 ((wr.setCell ⟨g, k * 8 + 1, none⟩ (.bool false)).setCell ⟨g, k * 8 + 4, none⟩ (.int .i64 (k : Nat))) ∧ ((wr.setCell ⟨g, k * 8 + 1, none⟩ (.bool false)).setCell ⟨g, k * 8 + 4, none⟩ (.int .i64 (k : Nat))).heap[w2.heap.size]? = some (.cells #[.int .i64 7, .int .i64 m.pool.k, .int .i64 m.pool.m, .int .i64 m.pool.pgs, .int .i64 m.pool.dom, .slice (some ⟨g, 0, none⟩) n c5] 26 (0, 0)) ∧ Own ((wr.setCell ⟨g, k * 8 + 1, none⟩ (.bool false)).setCell ⟨g, k * 8 + 4, none⟩ (.int .i64 (k : Nat))) (w2.heap.size + 1) 44 8 enO (.slice (some ⟨g, 0, none⟩) n c5) (ups m.osds (k + 1))) := by
        refine ⟨i1.trans (t6.below (fun j e => by omega) i1.size), (t6.block _ hzr hgn).trans i2, ?_⟩
        have := own_up i3 hg k
        simp only [ups, ho]
        exact this
      clear i1 i2 i3 hg ho e62 e63 t6 HR
      go_wp2_with fail
      go_roundw
      case rel => exact ⟨k + 1, by omega, by go_num, HN.out⟩
      case measure => simp [intOf]; omega
    · have hk2 : k = n := by omega
      subst hk2
      have s0 := cell_heap (j := 0) i2 rfl
      have s1 := cell_heap (j := 1) i2 rfl
      have s2 := cell_heap (j := 2) i2 rfl
      have s3 := cell_heap (j := 3) i2 rfl
      have s4 := cell_heap (j := 4) i2 rfl
      obtain ⟨p0, p1, p2, p3, p4, p5, p6, p7⟩ := HQ.out _ (on HQ2.out i1)
      have cC := HC.out wr (on HB.out (on HQ2.out i1))
      have hOs := own_os i3 (by rw [form_slice i3]; omega)
      have HD2 : Hid (∀ W, Below wr.heap.size wr W → Calls Try.prog 14 #[.agg #[.int .i64 7, .int .i64 m.pool.k, .int .i64 m.pool.m, .int .i64 m.pool.pgs, .int .i64 m.pool.dom, .slice x5 k c5], .agg #[.int .i64 dom, .int .i64 want], .int .u32 (y : Nat)] W fun e w' => ∃ (x' : Option Addr) (n' c' : Nat), e = .returned (.tuple #[.slice x' n' c', .int .i64 EE]) ∧ Hid (Below W.heap.size W w' ∧ Nu w' x' n' c' LL)) := fun W hb => HD.out W x5 c5 (hOs.below hb)
      have Hi1 := hid i1
      clear i1 i2 i3 hOs HR HC HD
      go_wp2_with (first
        | (
          go_at_call 14
          with_reducible refine cC.mono ?_
          rintro e w7 ⟨x7, n7, c7, rfl, H7⟩
          clear cC
          have hb7 := H7.out.1
          have y0 := keep hb7 s0
          have y1 := keep hb7 s1
          have y2 := keep hb7 s2
          have y3 := keep hb7 s3
          have y4 := keep hb7 s4
          have y5 := keep hb7 s5
          have z6 := keep hb7 p6
          have z7 := keep hb7 p7
          have cD := HD2.out w7 hb7
          clear s0 s1 s2 s3 s4 s5 p0 p1 p2 p3 p4 p5 p6 p7 HD2)
        | (go_at_call 14; with_reducible refine cD.mono ?_; rintro e w8 ⟨x8, n8, c8, rfl, H8⟩; clear cD; have cI := HI.out _ _ _ _ _ _ _ (H7.out.2.below H8.out.1) H8.out.2)
        | (go_at_call 16; refine cI.mono ?_; rintro e w9 ⟨rfl, hb9⟩; clear cI)
        | (go_at_call 11; refine (cA _).mono ?_; rintro e w10 ⟨rfl, hb10⟩; clear cA))
      go_ret
      exact ⟨rfl, on HB.out (on HQ2.out (on Hi1.out (on hb7 (on H8.out.1 (on hb9 hb10)))))⟩

theorem walk (V0 : MpV) (dom want : Int) (a2 : Int) (w : World) (h0 : MapIn w V0) (w2 : (Lit.int .u32 a2).wf = true) :
    Calls Try.prog 6 #[vM V0.m.ep V0.m.pool V0.x V0.n V0.c, .agg #[.int .i64 dom, .int .i64 want], .int .u32 a2] w fun e w' => e = .returned (.bool true) ∧ Below w.heap.size w w' := by
  have b1 := bounds_u32 w2
  obtain ⟨y, rfl⟩ := Int.eq_ofNat_of_zero_le b1.1
  have hy : y < 4294967296 := by omega
  obtain ⟨m, x, n, c⟩ := V0
  have hO := h0.os
  have hk := h0.k
  dsimp only at hO hk ⊢
  cases hm : mayM m with
  | false => exact walk_no m x n c dom want y w hO (fun h => by rw [hm] at h; cases h)
  | true =>
    cases hl : litB n want with
    | false => exact walk_no m x n c dom want y w hO (fun _ => hl)
    | true => exact walk_yes m x n c dom want y w hy hO hk hm hl

set_option maxRecDepth 100000 in
theorem lifted (os : Os) (started : os.Started) (H : Type) (enc : TypeId × Value → H) :
    ReturnsInHanded {} Try.checked os 6 .any (Rows.crushUpsSpec.pre6 enc Try.prog Try.f6 Rows.crushUpsRow.domain false) (Rows.crushUpsSpec.post enc Try.prog Try.f6 false true false false) := by
  refine returnsInHanded_of_change_sized (C := Try.checked) own started (by kernel_rfl) Try.func6
    (ChangeSpec.witness6 (enc := enc) (C := Try.checked) false ⟨#[], #[.agg #[.int .i64 0, .int .i64 0, .int .i64 0, .int .i64 0, .int .i64 0, .slice none 0 0], .agg #[.int .i64 0, .int .i64 0], .int .u32 0], []⟩ 8 (by kernel_rfl) (by kernel_rfl) (by kernel_rfl) (by kernel_rfl)) ?_
  intro W base args ds gs before hval0 hW hcnd hsz0 _
  have hsz : (DataW.weightsEach Try.prog (Try.f6.params.toList ++ Rows.crushUpsSpec.plain.varTypes Try.prog) (ds ++ gs)).all (· ≤ reachBytes) = true := hsz0
  have hval : ∀ (j : Nat) t v, Try.f6.params[j]? = some t → args[j]? = some v → Value.okWide Try.prog W .any base t v := hval0
  have hW' := hW
  obtain ⟨p, q, hA0, hV, rfl, hfz, hnd⟩ := hW
  have hA : DataW.TrodAll enc Try.prog W 0 (fun _ => true) true Try.f6.params.toList args.toList ds p := hA0
  rw [Try.params6] at hA hval hsz
  obtain ⟨v0, vs0, d0, ds0, p0, q0, hargs, rfl, rfl, h0, r0⟩ := trodAll_cons hA
  obtain ⟨v1, vs1, d1, ds1, p1, q1, rfl, rfl, rfl, h1, r1⟩ := trodAll_cons r0
  obtain ⟨v2, vs2, d2, ds2, p2, q2, rfl, rfl, rfl, h2, r2⟩ := trodAll_cons r1
  obtain ⟨rfl, rfl, rfl⟩ := trodAll_nil r2
  obtain rfl : args = #[v0, v1, v2] := by cases args; simp_all
  obtain ⟨rfl, rfl⟩ := trodVars_none hV
  have k0 := h0
  have lt0 : ∀ x ∈ p0, x.block < W.heap.size := by obtain ⟨m, hm⟩ := k0; exact DataW.trod_lt m _ _ _ hm
  have s0 : ∀ x ∈ d0.weights Try.prog 26, x ≤ reachBytes := fun x hx => by
    have := List.all_eq_true.1 hsz x (DataW.weights_mem_each (j := 0) rfl rfl x hx)
    simpa using this
  obtain ⟨V0, rfl, w0⟩ := At.map_in (okWide_struct Try.underlying26 (hval 0 26 v0 rfl rfl)) h0 s0
  have k1 := h1
  have lt1 : ∀ x ∈ p1, x.block < W.heap.size := by obtain ⟨m, hm⟩ := k1; exact DataW.trod_lt m _ _ _ hm
  have s1 : ∀ x ∈ d1.weights Try.prog 34, x ≤ reachBytes := fun x hx => by
    have := List.all_eq_true.1 hsz x (DataW.weights_mem_each (j := 1) rfl rfl x hx)
    simpa using this
  obtain ⟨V1, U1, rfl⟩ := Cr.rule_in (okWide_struct Try.underlying34 (hval 1 34 v1 rfl rfl)) h1
  obtain ⟨a2, rfl, rfl, rfl, w2⟩ := open_int Try.underlying27 (hval 2 27 v2 rfl rfl) h2
  clear hA0 hval0
  refine (walk V0 V1 U1 a2 W w0 w2).mono fun e W' ⟨he, bel⟩ => ?_
  subst he
  exact ⟨_, rfl, _, _, _, [], _, [], hW', trodAll_mk1 (shut_bool Try.underlying4 _), (trodAll_cons_mk (Below.trod laidOut (by kernel_rfl) (of_decide_eq_true (by kernel_rfl)) k0 bel lt0) (trodAll_cons_mk (Below.trod laidOut (by kernel_rfl) (of_decide_eq_true (by kernel_rfl)) k1 bel lt1) (trodAll_cons_mk (shut_int Try.underlying27 w2) trodAll_mk0))), rfl, bel.frame _, fun h => by cases h⟩

theorem over : Rows.crushUpsRow.holds Try.pinned (OpenSpec.ofChange Rows.crushUpsSpec) :=
  OpenClaim.holds_of_wide 6 Try.f6 rfl rfl rfl rfl rfl rfl rfl ⟨rfl, rfl, rfl, rfl, rfl⟩ rfl rfl rfl rfl rfl (by kernel_rfl) Try.func6 (by kernel_rfl)
    (of_decide_eq_true (by kernel_rfl)) (by unfold Func.isWrapper; first | (rw [if_pos (by decide +kernel)]; kernel_rfl) | (rw [if_neg (by decide +kernel)]; exact ⟨rfl, rfl⟩))
    (fun os started H enc _ => lifted os started H enc)

theorem proved : Rows.CrushUpsSaid := over
#print axioms proved
end Go.Proofs.Ythiomhbehajldaa.crushUps
