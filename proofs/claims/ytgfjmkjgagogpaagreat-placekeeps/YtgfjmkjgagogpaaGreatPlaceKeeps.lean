/-
  Who keeps a placement group is to keep it, and is up (of a map that may be only where it has at most 24 OSDs and its pool asks for at most 12): 'mooringlaw18.PlaceKeeps' returns true and leaves its arguments as they were.
  Conditions: none.
-/
import Derived.Test.YtgfjmkjgagogpaaGreatByHk
import Derived.Test.YtgfjmkjgagogpaaGreatRows
import Derived.WalkKit
import Derived.ProofKit
import Derived.OpenShut
import Derived.SizedLaws
import Derived.ShutString
import Derived.ChangeOld
import Derived.Below
import Derived.Test.YtgfjmkjgagogpaaGreatByRows
import Derived.Test.YtgfjmkjgagogpaaGreatAtItem
import Derived.Deep.DeepCutAuto
import Derived.Test.YtgfjmkjgagogpaaGreatJPlPrim
import Derived.Test.YtgfjmkjgagogpaaGreatAtQuiet
namespace Go.Proofs.YtgfjmkjgagogpaaGreat.placeKeeps
open Go.ChangeShapes Go.WideShapes Go.ChangeAt Go.RowKit By
open Fl At Cr Pl
set_option linter.unusedVariables false
set_option linter.unusedSimpArgs false
set_option maxRecDepth 100000

theorem own : ownKnob Tryz.prog.godebug = none := by kernel_rfl
theorem laidOut : laidOutB Tryz.prog = true := by kernel_rfl

theorem pool_facts {m : Mp} (hm : mayM m = true) : 1 ≤ m.pool.pgs := by
  unfold mayM poolB at hm
  simp only [Bool.and_eq_true, decide_eq_true_eq, wi_iff] at hm
  omega

set_option maxHeartbeats 1600000 in
theorem walk_big (m : Mp) (x : Option Addr) (n c : Nat) (pg : Int) (w : World) (hO : At.Os w x n c m.osds) (hm : mayM m = true) (hn : 24 < n) :
    Calls Tryz.prog 5 #[vM m.ep m.pool x n c, .int .i64 pg] w fun e w' => e = .returned (.bool true) ∧ Below w.heap.size w w' := by
  obtain ⟨w0, hw0⟩ : ∃ w0, w0 = w.alloc (.cells #[.int .i64 m.ep, .int .i64 m.pool.k, .int .i64 m.pool.m, .int .i64 m.pool.pgs, .int .i64 m.pool.dom, .slice x n c] 31) := ⟨_, rfl⟩
  have b0 : Below w.heap.size w w0 := by rw [hw0]; exact al _ _
  have q0 : w0.cell? ⟨w.heap.size, 0, none⟩ = some (.int .i64 m.ep) := by rw [hw0]; go_simp
  have q1 : w0.cell? ⟨w.heap.size, 1, none⟩ = some (.int .i64 m.pool.k) := by rw [hw0]; go_simp
  have q2 : w0.cell? ⟨w.heap.size, 2, none⟩ = some (.int .i64 m.pool.m) := by rw [hw0]; go_simp
  have q3 : w0.cell? ⟨w.heap.size, 3, none⟩ = some (.int .i64 m.pool.pgs) := by rw [hw0]; go_simp
  have q4 : w0.cell? ⟨w.heap.size, 4, none⟩ = some (.int .i64 m.pool.dom) := by rw [hw0]; go_simp
  have q5 : w0.cell? ⟨w.heap.size, 5, none⟩ = some (.slice x n c) := by rw [hw0]; go_simp
  have HQ : Hid (∀ W, Below w0.heap.size w0 W → W.cell? ⟨w.heap.size, 0, none⟩ = some (.int .i64 m.ep) ∧ W.cell? ⟨w.heap.size, 1, none⟩ = some (.int .i64 m.pool.k) ∧ W.cell? ⟨w.heap.size, 2, none⟩ = some (.int .i64 m.pool.m) ∧ W.cell? ⟨w.heap.size, 3, none⟩ = some (.int .i64 m.pool.pgs) ∧ W.cell? ⟨w.heap.size, 4, none⟩ = some (.int .i64 m.pool.dom) ∧ W.cell? ⟨w.heap.size, 5, none⟩ = some (.slice x n c)) := fun W hb => ⟨keep hb q0, keep hb q1, keep hb q2, keep hb q3, keep hb q4, keep hb q5⟩
  have cM := rmay_any m (hO.below b0)
  have HO := hid hO
  have cA := fun W => Pl.awake_any W
  have HB := hid b0
  have HW := hid hw0
  have e1 : 24 < (n : Int) := by omega
  rw [hw0, hm] at cM
  unfold vM at cM ⊢
  clear hO b0 hw0 hm q0 q1 q2 q3 q4 q5
  go_enter Tryz.func5, Tryz.ntmps5
  go_wp2_with (first
    | (go_at_call 10; refine cM.mono ?_; rintro e w1 ⟨rfl, hb1⟩; clear cM; rw [← HW.out] at hb1; obtain ⟨p0, p1, p2, p3, p4, p5⟩ := HQ.out _ hb1)
    | (go_at_call 9; refine (cA _).mono ?_; rintro e w6 ⟨rfl, hb6⟩; clear cA))
  go_ret
  exact ⟨rfl, on HB.out (on hb1 hb6)⟩

set_option maxHeartbeats 1600000 in
theorem walk_much (m : Mp) (x : Option Addr) (n c : Nat) (pg : Int) (w : World) (hO : At.Os w x n c m.osds) (hm : mayM m = true) (hn : ¬ 24 < n) (hs : 12 < m.pool.k + m.pool.m) (hs2 : m.pool.k + m.pool.m ≤ 32) :
    Calls Tryz.prog 5 #[vM m.ep m.pool x n c, .int .i64 pg] w fun e w' => e = .returned (.bool true) ∧ Below w.heap.size w w' := by
  obtain ⟨w0, hw0⟩ : ∃ w0, w0 = w.alloc (.cells #[.int .i64 m.ep, .int .i64 m.pool.k, .int .i64 m.pool.m, .int .i64 m.pool.pgs, .int .i64 m.pool.dom, .slice x n c] 31) := ⟨_, rfl⟩
  have b0 : Below w.heap.size w w0 := by rw [hw0]; exact al _ _
  have q0 : w0.cell? ⟨w.heap.size, 0, none⟩ = some (.int .i64 m.ep) := by rw [hw0]; go_simp
  have q1 : w0.cell? ⟨w.heap.size, 1, none⟩ = some (.int .i64 m.pool.k) := by rw [hw0]; go_simp
  have q2 : w0.cell? ⟨w.heap.size, 2, none⟩ = some (.int .i64 m.pool.m) := by rw [hw0]; go_simp
  have q3 : w0.cell? ⟨w.heap.size, 3, none⟩ = some (.int .i64 m.pool.pgs) := by rw [hw0]; go_simp
  have q4 : w0.cell? ⟨w.heap.size, 4, none⟩ = some (.int .i64 m.pool.dom) := by rw [hw0]; go_simp
  have q5 : w0.cell? ⟨w.heap.size, 5, none⟩ = some (.slice x n c) := by rw [hw0]; go_simp
  have HQ : Hid (∀ W, Below w0.heap.size w0 W → W.cell? ⟨w.heap.size, 0, none⟩ = some (.int .i64 m.ep) ∧ W.cell? ⟨w.heap.size, 1, none⟩ = some (.int .i64 m.pool.k) ∧ W.cell? ⟨w.heap.size, 2, none⟩ = some (.int .i64 m.pool.m) ∧ W.cell? ⟨w.heap.size, 3, none⟩ = some (.int .i64 m.pool.pgs) ∧ W.cell? ⟨w.heap.size, 4, none⟩ = some (.int .i64 m.pool.dom) ∧ W.cell? ⟨w.heap.size, 5, none⟩ = some (.slice x n c)) := fun W hb => ⟨keep hb q0, keep hb q1, keep hb q2, keep hb q3, keep hb q4, keep hb q5⟩
  have cM := rmay_any m (hO.below b0)
  have HO := hid hO
  have cA := fun W => Pl.awake_any W
  have HB := hid b0
  have HW := hid hw0
  have e1 : ¬ 24 < (n : Int) := by omega
  have e2 : IntKind.i64.wrap (m.pool.k + m.pool.m) = m.pool.k + m.pool.m := by rw [IntKind.wrap_i64]; omega
  rw [hw0, hm] at cM
  unfold vM at cM ⊢
  clear hO b0 hw0 hm q0 q1 q2 q3 q4 q5
  go_enter Tryz.func5, Tryz.ntmps5
  go_wp2_with (first
    | (go_at_call 10; refine cM.mono ?_; rintro e w1 ⟨rfl, hb1⟩; clear cM; rw [← HW.out] at hb1; obtain ⟨p0, p1, p2, p3, p4, p5⟩ := HQ.out _ hb1)
    | (go_at_call 9; refine (cA _).mono ?_; rintro e w6 ⟨rfl, hb6⟩; clear cA))
  go_ret
  exact ⟨rfl, on HB.out (on hb1 hb6)⟩

set_option maxHeartbeats 12800000 in
theorem walk_fe (m : Mp) (x : Option Addr) (n c : Nat) (pg : Int) (w : World) (hO : At.Os w x n c m.osds) (hk : m.pool.k ≤ 9223372036854775807) (hm : mayM m = false) (he : upE m pg = 1) (hl : upL m pg = []) :
    Calls Tryz.prog 5 #[vM m.ep m.pool x n c, .int .i64 pg] w fun e w' => e = .returned (.bool true) ∧ Below w.heap.size w w' := by
  obtain ⟨w0, hw0⟩ : ∃ w0, w0 = w.alloc (.cells #[.int .i64 m.ep, .int .i64 m.pool.k, .int .i64 m.pool.m, .int .i64 m.pool.pgs, .int .i64 m.pool.dom, .slice x n c] 31) := ⟨_, rfl⟩
  have b0 : Below w.heap.size w w0 := by rw [hw0]; exact al _ _
  have q0 : w0.cell? ⟨w.heap.size, 0, none⟩ = some (.int .i64 m.ep) := by rw [hw0]; go_simp
  have q1 : w0.cell? ⟨w.heap.size, 1, none⟩ = some (.int .i64 m.pool.k) := by rw [hw0]; go_simp
  have q2 : w0.cell? ⟨w.heap.size, 2, none⟩ = some (.int .i64 m.pool.m) := by rw [hw0]; go_simp
  have q3 : w0.cell? ⟨w.heap.size, 3, none⟩ = some (.int .i64 m.pool.pgs) := by rw [hw0]; go_simp
  have q4 : w0.cell? ⟨w.heap.size, 4, none⟩ = some (.int .i64 m.pool.dom) := by rw [hw0]; go_simp
  have q5 : w0.cell? ⟨w.heap.size, 5, none⟩ = some (.slice x n c) := by rw [hw0]; go_simp
  have HQ : Hid (∀ W, Below w0.heap.size w0 W → W.cell? ⟨w.heap.size, 0, none⟩ = some (.int .i64 m.ep) ∧ W.cell? ⟨w.heap.size, 1, none⟩ = some (.int .i64 m.pool.k) ∧ W.cell? ⟨w.heap.size, 2, none⟩ = some (.int .i64 m.pool.m) ∧ W.cell? ⟨w.heap.size, 3, none⟩ = some (.int .i64 m.pool.pgs) ∧ W.cell? ⟨w.heap.size, 4, none⟩ = some (.int .i64 m.pool.dom) ∧ W.cell? ⟨w.heap.size, 5, none⟩ = some (.slice x n c)) := fun W hb => ⟨keep hb q0, keep hb q1, keep hb q2, keep hb q3, keep hb q4, keep hb q5⟩
  have cM := rmay_any m (hO.below b0)
  have HO := hid hO
  have cA := fun W => Pl.awake_any W
  have HB := hid b0
  have HW := hid hw0
  rw [hw0, hm] at cM
  have HU := hid (fun W (hb : Below w.heap.size w W) => up_any m (HO.out.below hb) hk pg)
  have HAc := hid (fun W (hb : Below w.heap.size w W) => acting_any m (HO.out.below hb) hk pg)
  unfold UpSays at HU HAc
  have ha : actL m pg = [] := by unfold actL; rw [hl]; rfl
  rw [he, hl] at HU
  rw [he, ha] at HAc
  unfold vM at cM HU HAc ⊢
  clear hO hk hm b0 hw0 q0 q1 q2 q3 q4 q5 he hl ha
  go_enter Tryz.func5, Tryz.ntmps5
  go_wp2_with (first
    | (go_at_call 10; refine cM.mono ?_; rintro e w1 ⟨rfl, hb1⟩; clear cM; rw [← HW.out] at hb1; obtain ⟨p0, p1, p2, p3, p4, p5⟩ := HQ.out _ hb1; have cU := HU.out w1 (on HB.out hb1))
    | (
      go_at_call 11
      refine cU.mono ?_
      rintro e w2 ⟨x2, n2, c2, rfl, H2⟩
      clear cU p0 p1 p2 p3 p4 p5
      have B2 := on hb1 H2.out.1
      obtain ⟨p0, p1, p2, p3, p4, p5⟩ := HQ.out _ B2
      have cAc := HAc.out w2 (on HB.out B2))
    | (
      go_at_call 13
      refine cAc.mono ?_
      rintro e w3 ⟨x3, n3, c3, rfl, H3⟩
      clear cAc p0 p1 p2 p3 p4 p5
      have B3 := on B2 H3.out.1
      have z2 := form_slice H2.out.2
      have z3 := form_slice H3.out.2
      simp only [List.length_nil] at z2 z3
      subst z2
      subst z3
      have eN : ((0 : Int) != (0 : Int)) = false := by simp))
  have HB3 := hid B3
  clear H2 H3 hb1 B2 B3
  go_loop [9] (fun i => i = .int .i64 0) (fun i => 0)
  case atStart => rfl
  case round =>
    subst hrel
    go_wp2_with (go_at_call 9; refine (cA _).mono ?_; rintro e wg ⟨rfl, bg⟩; clear cA)
    go_ret
    exact ⟨rfl, on HB.out (on HB3.out bg)⟩

set_option maxHeartbeats 12800000 in
theorem walk_te (m : Mp) (x : Option Addr) (n c : Nat) (pg : Int) (w : World) (hO : At.Os w x n c m.osds) (hk : m.pool.k ≤ 9223372036854775807) (hm : mayM m = true) (hn : ¬ 24 < n) (hs : ¬ 12 < m.pool.k + m.pool.m) (hk1 : 1 ≤ m.pool.k) (hm1 : 1 ≤ m.pool.m) (he : upE m pg = 1) (hl : upL m pg = []) :
    Calls Tryz.prog 5 #[vM m.ep m.pool x n c, .int .i64 pg] w fun e w' => e = .returned (.bool true) ∧ Below w.heap.size w w' := by
  obtain ⟨w0, hw0⟩ : ∃ w0, w0 = w.alloc (.cells #[.int .i64 m.ep, .int .i64 m.pool.k, .int .i64 m.pool.m, .int .i64 m.pool.pgs, .int .i64 m.pool.dom, .slice x n c] 31) := ⟨_, rfl⟩
  have b0 : Below w.heap.size w w0 := by rw [hw0]; exact al _ _
  have q0 : w0.cell? ⟨w.heap.size, 0, none⟩ = some (.int .i64 m.ep) := by rw [hw0]; go_simp
  have q1 : w0.cell? ⟨w.heap.size, 1, none⟩ = some (.int .i64 m.pool.k) := by rw [hw0]; go_simp
  have q2 : w0.cell? ⟨w.heap.size, 2, none⟩ = some (.int .i64 m.pool.m) := by rw [hw0]; go_simp
  have q3 : w0.cell? ⟨w.heap.size, 3, none⟩ = some (.int .i64 m.pool.pgs) := by rw [hw0]; go_simp
  have q4 : w0.cell? ⟨w.heap.size, 4, none⟩ = some (.int .i64 m.pool.dom) := by rw [hw0]; go_simp
  have q5 : w0.cell? ⟨w.heap.size, 5, none⟩ = some (.slice x n c) := by rw [hw0]; go_simp
  have HQ : Hid (∀ W, Below w0.heap.size w0 W → W.cell? ⟨w.heap.size, 0, none⟩ = some (.int .i64 m.ep) ∧ W.cell? ⟨w.heap.size, 1, none⟩ = some (.int .i64 m.pool.k) ∧ W.cell? ⟨w.heap.size, 2, none⟩ = some (.int .i64 m.pool.m) ∧ W.cell? ⟨w.heap.size, 3, none⟩ = some (.int .i64 m.pool.pgs) ∧ W.cell? ⟨w.heap.size, 4, none⟩ = some (.int .i64 m.pool.dom) ∧ W.cell? ⟨w.heap.size, 5, none⟩ = some (.slice x n c)) := fun W hb => ⟨keep hb q0, keep hb q1, keep hb q2, keep hb q3, keep hb q4, keep hb q5⟩
  have cM := rmay_any m (hO.below b0)
  have HO := hid hO
  have cA := fun W => Pl.awake_any W
  have HB := hid b0
  have HW := hid hw0
  have e1 : ¬ 24 < (n : Int) := by omega
  have e2 : IntKind.i64.wrap (m.pool.k + m.pool.m) = m.pool.k + m.pool.m := by rw [IntKind.wrap_i64]; omega
  rw [hw0, hm] at cM
  have HU := hid (fun W (hb : Below w.heap.size w W) => up_any m (HO.out.below hb) hk pg)
  have HAc := hid (fun W (hb : Below w.heap.size w W) => acting_any m (HO.out.below hb) hk pg)
  unfold UpSays at HU HAc
  have ha : actL m pg = [] := by unfold actL; rw [hl]; rfl
  rw [he, hl] at HU
  rw [he, ha] at HAc
  unfold vM at cM HU HAc ⊢
  clear hO hk hm b0 hw0 q0 q1 q2 q3 q4 q5 he hl ha
  go_enter Tryz.func5, Tryz.ntmps5
  go_wp2_with (first
    | (go_at_call 10; refine cM.mono ?_; rintro e w1 ⟨rfl, hb1⟩; clear cM; rw [← HW.out] at hb1; obtain ⟨p0, p1, p2, p3, p4, p5⟩ := HQ.out _ hb1; have cU := HU.out w1 (on HB.out hb1))
    | (
      go_at_call 11
      refine cU.mono ?_
      rintro e w2 ⟨x2, n2, c2, rfl, H2⟩
      clear cU p0 p1 p2 p3 p4 p5
      have B2 := on hb1 H2.out.1
      obtain ⟨p0, p1, p2, p3, p4, p5⟩ := HQ.out _ B2
      have cAc := HAc.out w2 (on HB.out B2))
    | (
      go_at_call 13
      refine cAc.mono ?_
      rintro e w3 ⟨x3, n3, c3, rfl, H3⟩
      clear cAc p0 p1 p2 p3 p4 p5
      have B3 := on B2 H3.out.1
      have z2 := form_slice H2.out.2
      have z3 := form_slice H3.out.2
      simp only [List.length_nil] at z2 z3
      subst z2
      subst z3
      have eN : ((0 : Int) != (0 : Int)) = false := by simp))
  have HB3 := hid B3
  clear H2 H3 hb1 B2 B3
  go_loop [9] (fun i => i = .int .i64 0) (fun i => 0)
  case atStart => rfl
  case round =>
    subst hrel
    go_wp2_with (go_at_call 9; refine (cA _).mono ?_; rintro e wg ⟨rfl, bg⟩; clear cA)
    go_ret
    exact ⟨rfl, on HB.out (on HB3.out bg)⟩

set_option maxHeartbeats 12800000 in
theorem walk_ty (m : Mp) (x : Option Addr) (n c : Nat) (pg : Int) (w : World) (hO : At.Os w x n c m.osds) (hk : m.pool.k ≤ 9223372036854775807) (hm : mayM m = true) (hn : ¬ 24 < n) (hs : ¬ 12 < m.pool.k + m.pool.m) (hk1 : 1 ≤ m.pool.k) (hm1 : 1 ≤ m.pool.m) (hf : Fine m pg) :
    Calls Tryz.prog 5 #[vM m.ep m.pool x n c, .int .i64 pg] w fun e w' => e = .returned (.bool true) ∧ Below w.heap.size w w' := by
  obtain ⟨w0, hw0⟩ : ∃ w0, w0 = w.alloc (.cells #[.int .i64 m.ep, .int .i64 m.pool.k, .int .i64 m.pool.m, .int .i64 m.pool.pgs, .int .i64 m.pool.dom, .slice x n c] 31) := ⟨_, rfl⟩
  have b0 : Below w.heap.size w w0 := by rw [hw0]; exact al _ _
  have q0 : w0.cell? ⟨w.heap.size, 0, none⟩ = some (.int .i64 m.ep) := by rw [hw0]; go_simp
  have q1 : w0.cell? ⟨w.heap.size, 1, none⟩ = some (.int .i64 m.pool.k) := by rw [hw0]; go_simp
  have q2 : w0.cell? ⟨w.heap.size, 2, none⟩ = some (.int .i64 m.pool.m) := by rw [hw0]; go_simp
  have q3 : w0.cell? ⟨w.heap.size, 3, none⟩ = some (.int .i64 m.pool.pgs) := by rw [hw0]; go_simp
  have q4 : w0.cell? ⟨w.heap.size, 4, none⟩ = some (.int .i64 m.pool.dom) := by rw [hw0]; go_simp
  have q5 : w0.cell? ⟨w.heap.size, 5, none⟩ = some (.slice x n c) := by rw [hw0]; go_simp
  have HQ : Hid (∀ W, Below w0.heap.size w0 W → W.cell? ⟨w.heap.size, 0, none⟩ = some (.int .i64 m.ep) ∧ W.cell? ⟨w.heap.size, 1, none⟩ = some (.int .i64 m.pool.k) ∧ W.cell? ⟨w.heap.size, 2, none⟩ = some (.int .i64 m.pool.m) ∧ W.cell? ⟨w.heap.size, 3, none⟩ = some (.int .i64 m.pool.pgs) ∧ W.cell? ⟨w.heap.size, 4, none⟩ = some (.int .i64 m.pool.dom) ∧ W.cell? ⟨w.heap.size, 5, none⟩ = some (.slice x n c)) := fun W hb => ⟨keep hb q0, keep hb q1, keep hb q2, keep hb q3, keep hb q4, keep hb q5⟩
  have cM := rmay_any m (hO.below b0)
  have HO := hid hO
  have cA := fun W => Pl.awake_any W
  have HB := hid b0
  have HW := hid hw0
  have e1 : ¬ 24 < (n : Int) := by omega
  have e2 : IntKind.i64.wrap (m.pool.k + m.pool.m) = m.pool.k + m.pool.m := by rw [IntKind.wrap_i64]; omega
  rw [hw0, hm] at cM
  have HU := hid (fun W (hb : Below w.heap.size w W) => up_any m (HO.out.below hb) hk pg)
  have HAc := hid (fun W (hb : Below w.heap.size w W) => acting_any m (HO.out.below hb) hk pg)
  unfold UpSays at HU HAc
  have HF : Hid (∀ (id : Int) (W : World), Below w.heap.size w W → Calls Tryz.prog 19 #[vM m.ep m.pool x n c, .int .i64 id] W fun e w' => e = .returned (.tuple #[vO (findP m.osds id).1, .bool (findP m.osds id).2]) ∧ Below W.heap.size W w') := fun id W hb => rfind_any m id (HO.out.below hb)
  have HG := hid hf.good
  have l1 : (upL m pg).length ≤ 32 := upL_len m pg
  rw [hf.err] at HU HAc
  unfold actL at HAc
  unfold vM at cM HU HAc HF ⊢
  clear hO hk hm b0 hw0 q0 q1 q2 q3 q4 q5 hf
  generalize upL m pg = UL at *
  generalize hLd : m.osds = L at *
  clear hLd
  go_enter Tryz.func5, Tryz.ntmps5
  go_wp2_with (first
    | (go_at_call 10; refine cM.mono ?_; rintro e w1 ⟨rfl, hb1⟩; clear cM; rw [← HW.out] at hb1; obtain ⟨p0, p1, p2, p3, p4, p5⟩ := HQ.out _ hb1; have cU := HU.out w1 (on HB.out hb1))
    | (
      go_at_call 11
      refine cU.mono ?_
      rintro e w2 ⟨x2, n2, c2, rfl, H2⟩
      clear cU p0 p1 p2 p3 p4 p5
      have B2 := on hb1 H2.out.1
      obtain ⟨p0, p1, p2, p3, p4, p5⟩ := HQ.out _ B2
      have cAc := HAc.out w2 (on HB.out B2))
    | (
      go_at_call 13
      refine cAc.mono ?_
      rintro e w3 ⟨x3, n3, c3, rfl, H3⟩
      clear cAc p0 p1 p2 p3 p4 p5
      have B3 := on B2 H3.out.1
      have z2 := form_slice H2.out.2
      have z3 := form_slice H3.out.2
      rw [List.length_map] at z3
      have zz : n3 = n2 := by omega
      subst zz
      have eN : ((n3 : Int) != (n3 : Int)) = false := by simp))
  have hn32 : n3 ≤ 32 := by omega
  have HN2 := hid ((own_nu H2.out.2).below H3.out.1)
  have HN3 := hid (own_nu H3.out.2)
  have HB3 := hid B3
  clear H2 H3 hb1 B2 B3 HU HAc z2 l1 eN
  go_loopw [9] (fun i wr => ∃ k : Nat, k ≤ n3 ∧ i = .int .i64 k ∧ Hid (Below w3.heap.size w3 wr)) (fun i _ => n3 - (intOf i).toNat)
  case atStart => exact ⟨0, by omega, rfl, Below.refl _ _⟩
  case round =>
    obtain ⟨k, hk, rfl, HR⟩ := hrel
    by_cases hlt : k < n3
    · have hkn : (k : Int) < (n3 : Int) := by omega
      obtain ⟨z, hz⟩ : ∃ z, UL[k]? = some z := ⟨UL[k]'(by omega), List.getElem?_eq_getElem (by omega)⟩
      have ha : (UL.map (kp L))[k]? = some (kp L z) := by rw [List.getElem?_map, hz]; rfl
      rcases (HN2.out.below HR.out).row with q0 | ⟨lb, lo, rfl, hlb, hlc⟩
      · omega
      rcases (HN3.out.below HR.out).row with q0 | ⟨ab, ao, rfl, hab, hac⟩
      · omega
      have gl := hlc k z hz
      have ga := hac k _ ha
      obtain ⟨g0, g1, g2, g3, g4, g5⟩ := HQ.out wr (on HB3.out HR.out)
      obtain ⟨ok, hok⟩ : ∃ ok, (findP L z).2 = ok := ⟨_, rfl⟩
      obtain ⟨o, ho⟩ : ∃ o, (findP L z).1 = o := ⟨_, rfl⟩
      have hu : upF L z = (ok && o.up) := by unfold upF; rw [hok, ho]
      have CF : ∀ W, Below wr.heap.size wr W → ∀ V, Below W.heap.size W V → Calls Tryz.prog 19 #[.agg #[.int .i64 m.ep, .int .i64 m.pool.k, .int .i64 m.pool.m, .int .i64 m.pool.pgs, .int .i64 m.pool.dom, .slice x n c], .int .i64 z] V fun e w' => e = .returned (.tuple #[vO o, .bool ok]) ∧ Below V.heap.size V w' := fun W hb V hb2 => by
        have := HF.out z V (on HB.out (on HB3.out (on HR.out (on hb hb2))))
        rw [hok, ho] at this
        exact this
      have HK : Hid ((ok && o.up) = true → kp L z = z ∧ z ≠ -1) := fun hc => ⟨by unfold kp; rw [hu, if_pos hc], kp_hole HG.out z (by rw [hu]; exact hc)⟩
      have HK2 : Hid ((ok && o.up) = false → kp L z = -1) := fun hc => by unfold kp; rw [hu, hc]; rfl
      generalize kp L z = KZ at *
      clear hz ha hok ho hu hlc hac
      obtain ⟨m0, m1, m2, m3, m4, m5, m6, m7⟩ := o
      unfold vO at CF
      dsimp only at CF HK HK2
      go_wp2_with fail
      go_cut [10, 11] (fun s10 s11 wc => ∃ gb : Nat, s10 = .pointer (some ⟨gb, 0, none⟩) ∧ s11 = .bool ok ∧ Hid (Below wr.heap.size wr wc ∧ wr.heap.size ≤ gb ∧ wc.heap[gb]? = some (.cells #[.int .i64 m0, .bool m1, .bool m2, .int .i64 m3, .int .i64 m4, .int .i64 m5, .int .i64 m6, .int .i64 m7] 44 (0, 0))))
      case first =>
        have bD : Below wr.heap.size wr wr.drew := (Below.refl _ _).drew
        have HV : Hid (∀ V, Below wr.drew.heap.size wr.drew V → V.cell? ⟨w.heap.size, 0, none⟩ = some (.int .i64 m.ep) ∧ V.cell? ⟨w.heap.size, 1, none⟩ = some (.int .i64 m.pool.k) ∧ V.cell? ⟨w.heap.size, 2, none⟩ = some (.int .i64 m.pool.m) ∧ V.cell? ⟨w.heap.size, 3, none⟩ = some (.int .i64 m.pool.pgs) ∧ V.cell? ⟨w.heap.size, 4, none⟩ = some (.int .i64 m.pool.dom) ∧ V.cell? ⟨w.heap.size, 5, none⟩ = some (.slice x n c) ∧ V.cell? ⟨lb, lo + k, none⟩ = some (.int .i64 z)) := fun V hb => ⟨keep (on bD hb) g0, keep (on bD hb) g1, keep (on bD hb) g2, keep (on bD hb) g3, keep (on bD hb) g4, keep (on bD hb) g5, keep (on bD hb) gl⟩
        have v0 := HV.out _ (Below.refl _ _)
        have cF2 := CF _ bD
        have HBD := hid bD
        clear bD
        refine wp_region_held_drew (S := fun v => v.cell? ⟨w.heap.size, 0, none⟩ = some (.int .i64 m.ep) ∧ v.cell? ⟨w.heap.size, 1, none⟩ = some (.int .i64 m.pool.k) ∧ v.cell? ⟨w.heap.size, 2, none⟩ = some (.int .i64 m.pool.m) ∧ v.cell? ⟨w.heap.size, 3, none⟩ = some (.int .i64 m.pool.pgs) ∧ v.cell? ⟨w.heap.size, 4, none⟩ = some (.int .i64 m.pool.dom) ∧ v.cell? ⟨w.heap.size, 5, none⟩ = some (.slice x n c) ∧ v.cell? ⟨lb, lo + k, none⟩ = some (.int .i64 z)) (by kernel_rfl) v0 (fun hHeld => ?_)
        generalize wr.drew = wD at *
        refine By.hk 0 ?_
        refine By.hk 1 ?_
        refine By.hk 2 ?_
        refine By.hk 3 ?_
        refine By.hk 4 ?_
        refine wpAnyH_ready (rs := [5, 9]) (by kernel_rfl) (by simp) ?_
        refine AllReadyH.cons rfl (fun K hK => ?_) (AllReadyH.cons rfl (fun K hK => ?_) AllReadyH.nil)
        · go_simp
          refine (cF2 wD (Below.refl _ _)).mono ?_
          rintro e w5 ⟨rfl, hb5⟩
          refine hK.out _ _ (HV.out _ hb5) (fun hHeld => ?_)
          clear hK K
          refine By.hk 6 ?_
          refine By.hk 7 ?_
          refine By.hk 8 ?_
          refine wpAnyH_ready (rs := [9]) (by kernel_rfl) (by simp) ?_
          refine AllReadyH.cons rfl (fun K hK => ?_) AllReadyH.nil
          go_simp
          refine hK.out _ _ (HV.out _ (on hb5 (al _ _))) (fun hHeld => ?_)
          clear hK K
          refine wpAnyH_ready (rs := [10]) (by kernel_rfl) (by simp) ?_
          refine AllReadyH.cons rfl (fun K hK => ?_) AllReadyH.nil
          go_simp
          have b6 := on hb5 (al w5 (.cells #[.int .i64 m0, .bool m1, .bool m2, .int .i64 m3, .int .i64 m4, .int .i64 m5, .int .i64 m6, .int .i64 m7] 44))
          refine hK.out _ _ (HV.out _ b6) (fun hHeld => ?_)
          clear hK K
          refine By.hk 11 ?_
          refine wpAnyH_done (by kernel_rfl) ?_ _
          go_wp2_with fail
          go_meet
          case rel => exact ⟨w5.heap.size, rfl, rfl, on HBD.out b6, Nat.le_trans HBD.out.size hb5.size, heap_alloc_new w5 _⟩
        · go_simp
          have bA := al wD (.cells #[.int .i64 0, .bool false, .bool false, .int .i64 0, .int .i64 0, .int .i64 0, .int .i64 0, .int .i64 0] 44)
          have lA : (wD.alloc (.cells #[.int .i64 0, .bool false, .bool false, .int .i64 0, .int .i64 0, .int .i64 0, .int .i64 0, .int .i64 0] 44)).heap[wD.heap.size]? = some (.cells #[.int .i64 0, .bool false, .bool false, .int .i64 0, .int .i64 0, .int .i64 0, .int .i64 0, .int .i64 0] 44 (0, 0)) := heap_alloc_new wD _
          have hsA : (wD.alloc (.cells #[.int .i64 0, .bool false, .bool false, .int .i64 0, .int .i64 0, .int .i64 0, .int .i64 0, .int .i64 0] 44)).heap.size = wD.heap.size + 1 := by simp
          have cF3 := cF2 _ bA
          refine hK.out _ _ (HV.out _ bA) (fun hHeld => ?_)
          clear hK K
          refine wpAnyH_ready (rs := [5]) (by kernel_rfl) (by simp) ?_
          refine AllReadyH.cons rfl (fun K hK => ?_) AllReadyH.nil
          go_simp
          refine cF3.mono ?_
          rintro e w5 ⟨rfl, hb5⟩
          have l5 := (hb5.block _ (by omega)).trans lA
          have s0 := cell_heap (j := 0) l5 rfl
          have f0 := fr_heap l5 0
          have s1 := cell_heap (j := 1) l5 rfl
          have f1 := fr_heap l5 1
          have s2 := cell_heap (j := 2) l5 rfl
          have f2 := fr_heap l5 2
          have s3 := cell_heap (j := 3) l5 rfl
          have f3 := fr_heap l5 3
          have s4 := cell_heap (j := 4) l5 rfl
          have f4 := fr_heap l5 4
          have s5 := cell_heap (j := 5) l5 rfl
          have f5 := fr_heap l5 5
          have s6 := cell_heap (j := 6) l5 rfl
          have f6 := fr_heap l5 6
          have s7 := cell_heap (j := 7) l5 rfl
          have f7 := fr_heap l5 7
          have z5 := hb5.size
          have b5 := on bA hb5
          have t6 : Turns (fun j => j = wD.heap.size) w5 (put8 w5 wD.heap.size 0 ⟨m0, m1, m2, m3, m4, m5, m6, m7⟩) := turns_put8
          have b6 := b5.trans (t6.below (B := wD.heap.size) (fun j e => by omega) (by omega))
          have l6 := put8_heap l5 ⟨m0, m1, m2, m3, m4, m5, m6, m7⟩
          have H6 := hid (And.intro b6 l6)
          have v6 := HV.out _ b6
          clear l5 lA t6 b6 l6
          unfold put8 at H6 v6
          dsimp only at H6 v6
          refine hK.out _ _ (HV.out _ b5) (fun hHeld => ?_)
          clear hK K
          refine By.hk 6 ?_
          refine By.hk 7 ?_
          refine By.hk 8 ?_
          refine wpAnyH_ready (rs := [10]) (by kernel_rfl) (by simp) ?_
          refine AllReadyH.cons rfl (fun K hK => ?_) AllReadyH.nil
          go_simp
          refine hK.out _ _ v6 (fun hHeld => ?_)
          clear hK K
          refine By.hk 11 ?_
          refine wpAnyH_done (by kernel_rfl) ?_ _
          go_wp2_with fail
          go_meet
          case rel => exact ⟨wD.heap.size, rfl, rfl, on HBD.out H6.out.1, HBD.out.size, H6.out.2⟩
      case rest =>
        obtain ⟨gb, rfl, rfl, HC⟩ := hcut
        obtain ⟨bc, hgb, hcb⟩ := HC.out
        have pU := After.cell (keep bc gl)
        have pA := After.cell (keep bc ga)
        have pO := After.cell (cell_heap (j := 1) hcb rfl)
        haveI := After.ne wc
        have HBc := hid bc
        clear g0 g1 g2 g3 g4 g5 gl ga CF HC bc hgb hcb
        cases ok with
        | false =>
          have hKZ := HK2.out rfl
          subst hKZ
          go_wp2_with fail
          refine wp_region_after (by kernel_rfl) (by kernel_rfl) ?_
          repeat (go_big_quiet_step (fail))
          refine wpQuiet_nil ?_
          rintro _ ⟨P, rfl⟩
          go_wp2_with fail
          go_roundw
          case rel => exact ⟨k + 1, by omega, by go_num, on HR.out (on HBc.out P.h)⟩
          case measure => simp [intOf]; omega
        | true =>
          cases m1 with
          | false =>
            have hKZ := HK2.out rfl
            subst hKZ
            go_wp2_with fail
            refine wp_region_after (by kernel_rfl) (by kernel_rfl) ?_
            repeat (go_big_quiet_step (fail))
            refine wpQuiet_nil ?_
            rintro _ ⟨P, rfl⟩
            go_wp2_with fail
            go_roundw
            case rel => exact ⟨k + 1, by omega, by go_num, on HR.out (on HBc.out P.h)⟩
            case measure => simp [intOf]; omega
          | true =>
            obtain ⟨hKZ, hz1⟩ := HK.out rfl
            subst hKZ
            have e3 : (KZ != -1) = true := by simpa using hz1
            have e4 : (KZ == -1) = false := by simpa using hz1
            have e5 : (KZ != KZ) = false := by simp
            clear hz1
            go_wp2_with fail
            refine wp_region_after (by kernel_rfl) (by kernel_rfl) ?_
            repeat (go_big_quiet_step (fail))
            refine wpQuiet_nil ?_
            rintro _ ⟨P, rfl⟩
            go_wp2_with fail
            go_roundw
            case rel => exact ⟨k + 1, by omega, by go_num, on HR.out (on HBc.out P.h)⟩
            case measure => simp [intOf]; omega
    · have hk2 : k = n3 := by omega
      subst hk2
      go_wp2_with (go_at_call 9; refine (cA _).mono ?_; rintro e wg ⟨rfl, bg⟩; clear cA)
      go_ret
      exact ⟨rfl, on HB.out (on HB3.out (on HR.out bg))⟩

theorem walk_f (m : Mp) (x : Option Addr) (n c : Nat) (pg : Int) (w : World) (hO : At.Os w x n c m.osds) (hk : m.pool.k ≤ 9223372036854775807) (hm : mayM m = false) :
    Calls Tryz.prog 5 #[vM m.ep m.pool x n c, .int .i64 pg] w fun e w' => e = .returned (.bool true) ∧ Below w.heap.size w w' := by
  have hn := not_fine (m := m) (pg := pg) (fun h => by rw [hm] at h; cases h.1)
  exact walk_fe m x n c pg w hO hk hm hn.1 hn.2

theorem walk_t (m : Mp) (x : Option Addr) (n c : Nat) (pg : Int) (w : World) (hO : At.Os w x n c m.osds) (hk : m.pool.k ≤ 9223372036854775807) (hm : mayM m = true) (hn : ¬ 24 < n) (hs : ¬ 12 < m.pool.k + m.pool.m) (hk1 : 1 ≤ m.pool.k) (hm1 : 1 ≤ m.pool.m) :
    Calls Tryz.prog 5 #[vM m.ep m.pool x n c, .int .i64 pg] w fun e w' => e = .returned (.bool true) ∧ Below w.heap.size w w' := by
  rcases fine_or m pg with hf | ⟨h1, h2⟩
  · exact walk_ty m x n c pg w hO hk hm hn hs hk1 hm1 hf
  · exact walk_te m x n c pg w hO hk hm hn hs hk1 hm1 h1 h2

theorem walk (V0 : MpV) (a1 : Int) (w : World) (h0 : MapIn w V0) (w1 : (Lit.int .i64 a1).wf = true) :
    Calls Tryz.prog 5 #[vM V0.m.ep V0.m.pool V0.x V0.n V0.c, .int .i64 a1] w fun e w' => e = .returned (.bool true) ∧ Below w.heap.size w w' := by
  obtain ⟨m, x, n, c⟩ := V0
  have hO := h0.os
  have hk := h0.k
  dsimp only at hO hk ⊢
  cases hm : mayM m with
  | false => exact walk_f m x n c a1 w hO hk hm
  | true =>
    have hf := fine_of hm (pg := 0) (by omega) (by have := pool_facts hm; omega)
    by_cases hn : 24 < n
    · exact walk_big m x n c a1 w hO hm hn
    · by_cases hs : 12 < m.pool.k + m.pool.m
      · exact walk_much m x n c a1 w hO hm hn hs hf.km
      · exact walk_t m x n c a1 w hO hk hm hn hs hf.k1 hf.m1

set_option maxRecDepth 100000 in
theorem lifted (os : Os) (started : os.Started) (H : Type) (enc : TypeId × Value → H) :
    ReturnsInHanded {} Tryz.checked os 5 .any (Rows.placeKeepsSpec.pre6 enc Tryz.prog Tryz.f5 Rows.placeKeepsRow.domain false) (Rows.placeKeepsSpec.post enc Tryz.prog Tryz.f5 false true false false) := by
  refine returnsInHanded_of_change_sized (C := Tryz.checked) own started (by kernel_rfl) Tryz.func5
    (ChangeSpec.witness6 (enc := enc) (C := Tryz.checked) false ⟨#[], #[.agg #[.int .i64 0, .int .i64 0, .int .i64 0, .int .i64 0, .int .i64 0, .slice none 0 0], .int .i64 0], []⟩ 8 (by kernel_rfl) (by kernel_rfl) (by kernel_rfl) (by kernel_rfl)) ?_
  intro W base args ds gs before hval0 hW hcnd hsz0 _
  have hsz : (DataW.weightsEach Tryz.prog (Tryz.f5.params.toList ++ Rows.placeKeepsSpec.plain.varTypes Tryz.prog) (ds ++ gs)).all (· ≤ reachBytes) = true := hsz0
  have hval : ∀ (j : Nat) t v, Tryz.f5.params[j]? = some t → args[j]? = some v → Value.okWide Tryz.prog W .any base t v := hval0
  have hW' := hW
  obtain ⟨p, q, hA0, hV, rfl, hfz, hnd⟩ := hW
  have hA : DataW.TrodAll enc Tryz.prog W 0 (fun _ => true) true Tryz.f5.params.toList args.toList ds p := hA0
  rw [Tryz.params5] at hA hval hsz
  obtain ⟨v0, vs0, d0, ds0, p0, q0, hargs, rfl, rfl, h0, r0⟩ := trodAll_cons hA
  obtain ⟨v1, vs1, d1, ds1, p1, q1, rfl, rfl, rfl, h1, r1⟩ := trodAll_cons r0
  obtain ⟨rfl, rfl, rfl⟩ := trodAll_nil r1
  obtain rfl : args = #[v0, v1] := by cases args; simp_all
  obtain ⟨rfl, rfl⟩ := trodVars_none hV
  have k0 := h0
  have lt0 : ∀ x ∈ p0, x.block < W.heap.size := by obtain ⟨m, hm⟩ := k0; exact DataW.trod_lt m _ _ _ hm
  have s0 : ∀ x ∈ d0.weights Tryz.prog 31, x ≤ reachBytes := fun x hx => by
    have := List.all_eq_true.1 hsz x (DataW.weights_mem_each (j := 0) rfl rfl x hx)
    simpa using this
  obtain ⟨V0, rfl, w0⟩ := At.map_in (okWide_struct Tryz.underlying31 (hval 0 31 v0 rfl rfl)) h0 s0
  obtain ⟨a1, rfl, rfl, rfl, w1⟩ := open_int Tryz.underlying3 (hval 1 3 v1 rfl rfl) h1
  clear hA0 hval0
  refine (walk V0 a1 W w0 w1).mono fun e W' ⟨he, bel⟩ => ?_
  subst he
  exact ⟨_, rfl, _, _, _, [], _, [], hW', trodAll_mk1 (shut_bool Tryz.underlying4 _), (trodAll_cons_mk (Below.trod laidOut (by kernel_rfl) (of_decide_eq_true (by kernel_rfl)) k0 bel lt0) (trodAll_cons_mk (shut_int Tryz.underlying3 w1) trodAll_mk0)), rfl, bel.frame _, fun h => by cases h⟩

theorem over : Rows.placeKeepsRow.holds Tryz.pinned (OpenSpec.ofChange Rows.placeKeepsSpec) :=
  OpenClaim.holds_of_wide 5 Tryz.f5 rfl rfl rfl rfl rfl rfl rfl ⟨rfl, rfl, rfl, rfl, rfl⟩ rfl rfl rfl rfl rfl (by kernel_rfl) Tryz.func5 (by kernel_rfl)
    (of_decide_eq_true (by kernel_rfl)) (by unfold Func.isWrapper; first | (rw [if_pos (by decide +kernel)]; kernel_rfl) | (rw [if_neg (by decide +kernel)]; exact ⟨rfl, rfl⟩))
    (fun os started H enc _ => lifted os started H enc)

theorem proved : Rows.PlaceKeepsSaid := over
#print axioms proved
end Go.Proofs.YtgfjmkjgagogpaaGreat.placeKeeps
