/-
  No two that keep a placement group are in one failure domain of the pool (of a map that may be only where it has at most 24 OSDs and its pool asks for at most 12): 'mooringlaw18.PlaceDomains' returns true and leaves its arguments as they were.
  Conditions: none.
-/
import Derived.Test.YtgfjmkjgagogpaaGreatByHk
import Derived.Test.YtgfjmkjgagogpaaGreatRows
import Derived.WalkKit
import Derived.ProofKit
import Derived.OpenShut
import Derived.SizedLaws
import Derived.ShutString
import Derived.ChangeOld
import Derived.Below
import Derived.Test.YtgfjmkjgagogpaaGreatByRows
import Derived.Test.YtgfjmkjgagogpaaGreatAtItem
import Derived.Deep.DeepCutAuto
import Derived.Test.YtgfjmkjgagogpaaGreatJPlPrim
namespace Go.Proofs.YtgfjmkjgagogpaaGreat.placeDomains
open Go.ChangeShapes Go.WideShapes Go.ChangeAt Go.RowKit By
open Fl At Cr Pl
set_option linter.unusedVariables false
set_option linter.unusedSimpArgs false
set_option maxRecDepth 100000

theorem own : ownKnob Tryz.prog.godebug = none := by kernel_rfl
theorem laidOut : laidOutB Tryz.prog = true := by kernel_rfl

theorem pool_facts {m : Mp} (hm : mayM m = true) : 1 ≤ m.pool.pgs := by
  unfold mayM poolB at hm
  simp only [Bool.and_eq_true, decide_eq_true_eq, wi_iff] at hm
  omega

set_option maxHeartbeats 1600000 in
theorem walk_big (m : Mp) (x : Option Addr) (n c : Nat) (pg : Int) (w : World) (hO : At.Os w x n c m.osds) (hm : mayM m = true) (hn : 24 < n) :
    Calls Tryz.prog 6 #[vM m.ep m.pool x n c, .int .i64 pg] w fun e w' => e = .returned (.bool true) ∧ Below w.heap.size w w' := by
  obtain ⟨w0, hw0⟩ : ∃ w0, w0 = w.alloc (.cells #[.int .i64 m.ep, .int .i64 m.pool.k, .int .i64 m.pool.m, .int .i64 m.pool.pgs, .int .i64 m.pool.dom, .slice x n c] 31) := ⟨_, rfl⟩
  have b0 : Below w.heap.size w w0 := by rw [hw0]; exact al _ _
  have q0 : w0.cell? ⟨w.heap.size, 0, none⟩ = some (.int .i64 m.ep) := by rw [hw0]; go_simp
  have q1 : w0.cell? ⟨w.heap.size, 1, none⟩ = some (.int .i64 m.pool.k) := by rw [hw0]; go_simp
  have q2 : w0.cell? ⟨w.heap.size, 2, none⟩ = some (.int .i64 m.pool.m) := by rw [hw0]; go_simp
  have q3 : w0.cell? ⟨w.heap.size, 3, none⟩ = some (.int .i64 m.pool.pgs) := by rw [hw0]; go_simp
  have q4 : w0.cell? ⟨w.heap.size, 4, none⟩ = some (.int .i64 m.pool.dom) := by rw [hw0]; go_simp
  have q5 : w0.cell? ⟨w.heap.size, 5, none⟩ = some (.slice x n c) := by rw [hw0]; go_simp
  have HQ : Hid (∀ W, Below w0.heap.size w0 W → W.cell? ⟨w.heap.size, 0, none⟩ = some (.int .i64 m.ep) ∧ W.cell? ⟨w.heap.size, 1, none⟩ = some (.int .i64 m.pool.k) ∧ W.cell? ⟨w.heap.size, 2, none⟩ = some (.int .i64 m.pool.m) ∧ W.cell? ⟨w.heap.size, 3, none⟩ = some (.int .i64 m.pool.pgs) ∧ W.cell? ⟨w.heap.size, 4, none⟩ = some (.int .i64 m.pool.dom) ∧ W.cell? ⟨w.heap.size, 5, none⟩ = some (.slice x n c)) := fun W hb => ⟨keep hb q0, keep hb q1, keep hb q2, keep hb q3, keep hb q4, keep hb q5⟩
  have cM := rmay_any m (hO.below b0)
  have HO := hid hO
  have cA := fun W => Pl.awake_any W
  have HB := hid b0
  have HW := hid hw0
  have e1 : 24 < (n : Int) := by omega
  rw [hw0, hm] at cM
  unfold vM at cM ⊢
  clear hO b0 hw0 hm q0 q1 q2 q3 q4 q5
  go_enter Tryz.func6, Tryz.ntmps6
  go_wp2_with (first
    | (go_at_call 10; refine cM.mono ?_; rintro e w1 ⟨rfl, hb1⟩; clear cM; rw [← HW.out] at hb1; obtain ⟨p0, p1, p2, p3, p4, p5⟩ := HQ.out _ hb1)
    | (go_at_call 9; refine (cA _).mono ?_; rintro e w6 ⟨rfl, hb6⟩; clear cA))
  go_ret
  exact ⟨rfl, on HB.out (on hb1 hb6)⟩

set_option maxHeartbeats 1600000 in
theorem walk_much (m : Mp) (x : Option Addr) (n c : Nat) (pg : Int) (w : World) (hO : At.Os w x n c m.osds) (hm : mayM m = true) (hn : ¬ 24 < n) (hs : 12 < m.pool.k + m.pool.m) (hs2 : m.pool.k + m.pool.m ≤ 32) :
    Calls Tryz.prog 6 #[vM m.ep m.pool x n c, .int .i64 pg] w fun e w' => e = .returned (.bool true) ∧ Below w.heap.size w w' := by
  obtain ⟨w0, hw0⟩ : ∃ w0, w0 = w.alloc (.cells #[.int .i64 m.ep, .int .i64 m.pool.k, .int .i64 m.pool.m, .int .i64 m.pool.pgs, .int .i64 m.pool.dom, .slice x n c] 31) := ⟨_, rfl⟩
  have b0 : Below w.heap.size w w0 := by rw [hw0]; exact al _ _
  have q0 : w0.cell? ⟨w.heap.size, 0, none⟩ = some (.int .i64 m.ep) := by rw [hw0]; go_simp
  have q1 : w0.cell? ⟨w.heap.size, 1, none⟩ = some (.int .i64 m.pool.k) := by rw [hw0]; go_simp
  have q2 : w0.cell? ⟨w.heap.size, 2, none⟩ = some (.int .i64 m.pool.m) := by rw [hw0]; go_simp
  have q3 : w0.cell? ⟨w.heap.size, 3, none⟩ = some (.int .i64 m.pool.pgs) := by rw [hw0]; go_simp
  have q4 : w0.cell? ⟨w.heap.size, 4, none⟩ = some (.int .i64 m.pool.dom) := by rw [hw0]; go_simp
  have q5 : w0.cell? ⟨w.heap.size, 5, none⟩ = some (.slice x n c) := by rw [hw0]; go_simp
  have HQ : Hid (∀ W, Below w0.heap.size w0 W → W.cell? ⟨w.heap.size, 0, none⟩ = some (.int .i64 m.ep) ∧ W.cell? ⟨w.heap.size, 1, none⟩ = some (.int .i64 m.pool.k) ∧ W.cell? ⟨w.heap.size, 2, none⟩ = some (.int .i64 m.pool.m) ∧ W.cell? ⟨w.heap.size, 3, none⟩ = some (.int .i64 m.pool.pgs) ∧ W.cell? ⟨w.heap.size, 4, none⟩ = some (.int .i64 m.pool.dom) ∧ W.cell? ⟨w.heap.size, 5, none⟩ = some (.slice x n c)) := fun W hb => ⟨keep hb q0, keep hb q1, keep hb q2, keep hb q3, keep hb q4, keep hb q5⟩
  have cM := rmay_any m (hO.below b0)
  have HO := hid hO
  have cA := fun W => Pl.awake_any W
  have HB := hid b0
  have HW := hid hw0
  have e1 : ¬ 24 < (n : Int) := by omega
  have e2 : IntKind.i64.wrap (m.pool.k + m.pool.m) = m.pool.k + m.pool.m := by rw [IntKind.wrap_i64]; omega
  rw [hw0, hm] at cM
  unfold vM at cM ⊢
  clear hO b0 hw0 hm q0 q1 q2 q3 q4 q5
  go_enter Tryz.func6, Tryz.ntmps6
  go_wp2_with (first
    | (go_at_call 10; refine cM.mono ?_; rintro e w1 ⟨rfl, hb1⟩; clear cM; rw [← HW.out] at hb1; obtain ⟨p0, p1, p2, p3, p4, p5⟩ := HQ.out _ hb1)
    | (go_at_call 9; refine (cA _).mono ?_; rintro e w6 ⟨rfl, hb6⟩; clear cA))
  go_ret
  exact ⟨rfl, on HB.out (on hb1 hb6)⟩

set_option maxHeartbeats 12800000 in
theorem walk_fe (m : Mp) (x : Option Addr) (n c : Nat) (pg : Int) (w : World) (hO : At.Os w x n c m.osds) (hk : m.pool.k ≤ 9223372036854775807) (hm : mayM m = false) (he : upE m pg = 1) (hl : upL m pg = []) :
    Calls Tryz.prog 6 #[vM m.ep m.pool x n c, .int .i64 pg] w fun e w' => e = .returned (.bool true) ∧ Below w.heap.size w w' := by
  obtain ⟨w0, hw0⟩ : ∃ w0, w0 = w.alloc (.cells #[.int .i64 m.ep, .int .i64 m.pool.k, .int .i64 m.pool.m, .int .i64 m.pool.pgs, .int .i64 m.pool.dom, .slice x n c] 31) := ⟨_, rfl⟩
  have b0 : Below w.heap.size w w0 := by rw [hw0]; exact al _ _
  have q0 : w0.cell? ⟨w.heap.size, 0, none⟩ = some (.int .i64 m.ep) := by rw [hw0]; go_simp
  have q1 : w0.cell? ⟨w.heap.size, 1, none⟩ = some (.int .i64 m.pool.k) := by rw [hw0]; go_simp
  have q2 : w0.cell? ⟨w.heap.size, 2, none⟩ = some (.int .i64 m.pool.m) := by rw [hw0]; go_simp
  have q3 : w0.cell? ⟨w.heap.size, 3, none⟩ = some (.int .i64 m.pool.pgs) := by rw [hw0]; go_simp
  have q4 : w0.cell? ⟨w.heap.size, 4, none⟩ = some (.int .i64 m.pool.dom) := by rw [hw0]; go_simp
  have q5 : w0.cell? ⟨w.heap.size, 5, none⟩ = some (.slice x n c) := by rw [hw0]; go_simp
  have HQ : Hid (∀ W, Below w0.heap.size w0 W → W.cell? ⟨w.heap.size, 0, none⟩ = some (.int .i64 m.ep) ∧ W.cell? ⟨w.heap.size, 1, none⟩ = some (.int .i64 m.pool.k) ∧ W.cell? ⟨w.heap.size, 2, none⟩ = some (.int .i64 m.pool.m) ∧ W.cell? ⟨w.heap.size, 3, none⟩ = some (.int .i64 m.pool.pgs) ∧ W.cell? ⟨w.heap.size, 4, none⟩ = some (.int .i64 m.pool.dom) ∧ W.cell? ⟨w.heap.size, 5, none⟩ = some (.slice x n c)) := fun W hb => ⟨keep hb q0, keep hb q1, keep hb q2, keep hb q3, keep hb q4, keep hb q5⟩
  have cM := rmay_any m (hO.below b0)
  have HO := hid hO
  have cA := fun W => Pl.awake_any W
  have HB := hid b0
  have HW := hid hw0
  rw [hw0, hm] at cM
  have HAc := hid (fun W (hb : Below w.heap.size w W) => acting_any m (HO.out.below hb) hk pg)
  unfold UpSays at HAc
  have ha : actL m pg = [] := by unfold actL; rw [hl]; rfl
  rw [he, ha] at HAc
  unfold vM at cM HAc ⊢
  clear hO hk hm b0 hw0 q0 q1 q2 q3 q4 q5 he hl ha
  go_enter Tryz.func6, Tryz.ntmps6
  go_wp2_with (first
    | (go_at_call 10; refine cM.mono ?_; rintro e w1 ⟨rfl, hb1⟩; clear cM; rw [← HW.out] at hb1; obtain ⟨p0, p1, p2, p3, p4, p5⟩ := HQ.out _ hb1; have cAc := HAc.out w1 (on HB.out hb1))
    | (
      go_at_call 13
      refine cAc.mono ?_
      rintro e w2 ⟨x2, n2, c2, rfl, H2⟩
      clear cAc p0 p1 p2 p3 p4 p5
      have z2 := form_slice H2.out.2
      simp only [List.length_nil] at z2
      subst z2)
    | (go_at_call 9; refine (cA _).mono ?_; rintro e wg ⟨rfl, bg⟩; clear cA))
  go_ret
  exact ⟨rfl, on HB.out (on hb1 (on H2.out.1 bg))⟩

set_option maxHeartbeats 12800000 in
theorem walk_te (m : Mp) (x : Option Addr) (n c : Nat) (pg : Int) (w : World) (hO : At.Os w x n c m.osds) (hk : m.pool.k ≤ 9223372036854775807) (hm : mayM m = true) (hn : ¬ 24 < n) (hs : ¬ 12 < m.pool.k + m.pool.m) (hk1 : 1 ≤ m.pool.k) (hm1 : 1 ≤ m.pool.m) (he : upE m pg = 1) (hl : upL m pg = []) :
    Calls Tryz.prog 6 #[vM m.ep m.pool x n c, .int .i64 pg] w fun e w' => e = .returned (.bool true) ∧ Below w.heap.size w w' := by
  obtain ⟨w0, hw0⟩ : ∃ w0, w0 = w.alloc (.cells #[.int .i64 m.ep, .int .i64 m.pool.k, .int .i64 m.pool.m, .int .i64 m.pool.pgs, .int .i64 m.pool.dom, .slice x n c] 31) := ⟨_, rfl⟩
  have b0 : Below w.heap.size w w0 := by rw [hw0]; exact al _ _
  have q0 : w0.cell? ⟨w.heap.size, 0, none⟩ = some (.int .i64 m.ep) := by rw [hw0]; go_simp
  have q1 : w0.cell? ⟨w.heap.size, 1, none⟩ = some (.int .i64 m.pool.k) := by rw [hw0]; go_simp
  have q2 : w0.cell? ⟨w.heap.size, 2, none⟩ = some (.int .i64 m.pool.m) := by rw [hw0]; go_simp
  have q3 : w0.cell? ⟨w.heap.size, 3, none⟩ = some (.int .i64 m.pool.pgs) := by rw [hw0]; go_simp
  have q4 : w0.cell? ⟨w.heap.size, 4, none⟩ = some (.int .i64 m.pool.dom) := by rw [hw0]; go_simp
  have q5 : w0.cell? ⟨w.heap.size, 5, none⟩ = some (.slice x n c) := by rw [hw0]; go_simp
  have HQ : Hid (∀ W, Below w0.heap.size w0 W → W.cell? ⟨w.heap.size, 0, none⟩ = some (.int .i64 m.ep) ∧ W.cell? ⟨w.heap.size, 1, none⟩ = some (.int .i64 m.pool.k) ∧ W.cell? ⟨w.heap.size, 2, none⟩ = some (.int .i64 m.pool.m) ∧ W.cell? ⟨w.heap.size, 3, none⟩ = some (.int .i64 m.pool.pgs) ∧ W.cell? ⟨w.heap.size, 4, none⟩ = some (.int .i64 m.pool.dom) ∧ W.cell? ⟨w.heap.size, 5, none⟩ = some (.slice x n c)) := fun W hb => ⟨keep hb q0, keep hb q1, keep hb q2, keep hb q3, keep hb q4, keep hb q5⟩
  have cM := rmay_any m (hO.below b0)
  have HO := hid hO
  have cA := fun W => Pl.awake_any W
  have HB := hid b0
  have HW := hid hw0
  have e1 : ¬ 24 < (n : Int) := by omega
  have e2 : IntKind.i64.wrap (m.pool.k + m.pool.m) = m.pool.k + m.pool.m := by rw [IntKind.wrap_i64]; omega
  rw [hw0, hm] at cM
  have HAc := hid (fun W (hb : Below w.heap.size w W) => acting_any m (HO.out.below hb) hk pg)
  unfold UpSays at HAc
  have ha : actL m pg = [] := by unfold actL; rw [hl]; rfl
  rw [he, ha] at HAc
  unfold vM at cM HAc ⊢
  clear hO hk hm b0 hw0 q0 q1 q2 q3 q4 q5 he hl ha
  go_enter Tryz.func6, Tryz.ntmps6
  go_wp2_with (first
    | (go_at_call 10; refine cM.mono ?_; rintro e w1 ⟨rfl, hb1⟩; clear cM; rw [← HW.out] at hb1; obtain ⟨p0, p1, p2, p3, p4, p5⟩ := HQ.out _ hb1; have cAc := HAc.out w1 (on HB.out hb1))
    | (
      go_at_call 13
      refine cAc.mono ?_
      rintro e w2 ⟨x2, n2, c2, rfl, H2⟩
      clear cAc p0 p1 p2 p3 p4 p5
      have z2 := form_slice H2.out.2
      simp only [List.length_nil] at z2
      subst z2)
    | (go_at_call 9; refine (cA _).mono ?_; rintro e wg ⟨rfl, bg⟩; clear cA))
  go_ret
  exact ⟨rfl, on HB.out (on hb1 (on H2.out.1 bg))⟩

set_option maxHeartbeats 12800000 in
theorem walk_ty (m : Mp) (x : Option Addr) (n c : Nat) (pg : Int) (w : World) (hO : At.Os w x n c m.osds) (hk : m.pool.k ≤ 9223372036854775807) (hm : mayM m = true) (hn : ¬ 24 < n) (hs : ¬ 12 < m.pool.k + m.pool.m) (hk1 : 1 ≤ m.pool.k) (hm1 : 1 ≤ m.pool.m) (hf : Fine m pg) :
    Calls Tryz.prog 6 #[vM m.ep m.pool x n c, .int .i64 pg] w fun e w' => e = .returned (.bool true) ∧ Below w.heap.size w w' := by
  obtain ⟨w0, hw0⟩ : ∃ w0, w0 = w.alloc (.cells #[.int .i64 m.ep, .int .i64 m.pool.k, .int .i64 m.pool.m, .int .i64 m.pool.pgs, .int .i64 m.pool.dom, .slice x n c] 31) := ⟨_, rfl⟩
  have b0 : Below w.heap.size w w0 := by rw [hw0]; exact al _ _
  have q0 : w0.cell? ⟨w.heap.size, 0, none⟩ = some (.int .i64 m.ep) := by rw [hw0]; go_simp
  have q1 : w0.cell? ⟨w.heap.size, 1, none⟩ = some (.int .i64 m.pool.k) := by rw [hw0]; go_simp
  have q2 : w0.cell? ⟨w.heap.size, 2, none⟩ = some (.int .i64 m.pool.m) := by rw [hw0]; go_simp
  have q3 : w0.cell? ⟨w.heap.size, 3, none⟩ = some (.int .i64 m.pool.pgs) := by rw [hw0]; go_simp
  have q4 : w0.cell? ⟨w.heap.size, 4, none⟩ = some (.int .i64 m.pool.dom) := by rw [hw0]; go_simp
  have q5 : w0.cell? ⟨w.heap.size, 5, none⟩ = some (.slice x n c) := by rw [hw0]; go_simp
  have HQ : Hid (∀ W, Below w0.heap.size w0 W → W.cell? ⟨w.heap.size, 0, none⟩ = some (.int .i64 m.ep) ∧ W.cell? ⟨w.heap.size, 1, none⟩ = some (.int .i64 m.pool.k) ∧ W.cell? ⟨w.heap.size, 2, none⟩ = some (.int .i64 m.pool.m) ∧ W.cell? ⟨w.heap.size, 3, none⟩ = some (.int .i64 m.pool.pgs) ∧ W.cell? ⟨w.heap.size, 4, none⟩ = some (.int .i64 m.pool.dom) ∧ W.cell? ⟨w.heap.size, 5, none⟩ = some (.slice x n c)) := fun W hb => ⟨keep hb q0, keep hb q1, keep hb q2, keep hb q3, keep hb q4, keep hb q5⟩
  have cM := rmay_any m (hO.below b0)
  have HO := hid hO
  have cA := fun W => Pl.awake_any W
  have HB := hid b0
  have HW := hid hw0
  have e1 : ¬ 24 < (n : Int) := by omega
  have e2 : IntKind.i64.wrap (m.pool.k + m.pool.m) = m.pool.k + m.pool.m := by rw [IntKind.wrap_i64]; omega
  rw [hw0, hm] at cM
  have HAc := hid (fun W (hb : Below w.heap.size w W) => acting_any m (HO.out.below hb) hk pg)
  unfold UpSays at HAc
  have HF : Hid (∀ (id : Int) (W : World), Below w.heap.size w W → Calls Tryz.prog 19 #[vM m.ep m.pool x n c, .int .i64 id] W fun e w' => e = .returned (.tuple #[vO (findP m.osds id).1, .bool (findP m.osds id).2]) ∧ Below W.heap.size W w') := fun id W hb => rfind_any m id (HO.out.below hb)
  have HX : Hid (∀ (i k : Nat) (z y : Int) (o p : Osd), k < i → (actL m pg)[i]? = some z → (actL m pg)[k]? = some y → z ≠ -1 → findP m.osds z = (o, true) → findP m.osds y = (p, true) → o.id ≠ p.id ∧ (m.pool.dom = 1 → o.host ≠ p.host) ∧ (m.pool.dom = 2 → o.rack ≠ p.rack)) := fun i k z y o p hk h1 h2 hz ho hp => act_apart hf hk h1 h2 hz ho hp
  have HE : Hid (∀ (i : Nat) (z : Int), (actL m pg)[i]? = some z → z ≠ -1 → (findP m.osds z).2 = true) := fun i z h hz => act_each hf h hz
  have l1 : (actL m pg).length ≤ 32 := by rw [actL_len]; exact upL_len m pg
  have l2 : ((actL m pg).length : Int) = m.pool.k + m.pool.m := by rw [actL_len, hf.len]; have := hf.k1; have := hf.m1; omega
  rw [hf.err] at HAc
  unfold vM at cM HAc HF ⊢
  clear hO hk hm b0 hw0 q0 q1 q2 q3 q4 q5 hf
  generalize actL m pg = AL at *
  generalize hLd : m.osds = L at *
  clear hLd
  go_enter Tryz.func6, Tryz.ntmps6
  go_wp2_with (first
    | (go_at_call 10; refine cM.mono ?_; rintro e w1 ⟨rfl, hb1⟩; clear cM; rw [← HW.out] at hb1; obtain ⟨p0, p1, p2, p3, p4, p5⟩ := HQ.out _ hb1; have cAc := HAc.out w1 (on HB.out hb1))
    | (
      go_at_call 13
      refine cAc.mono ?_
      rintro e w3 ⟨x3, n3, c3, rfl, H3⟩
      clear cAc p0 p1 p2 p3 p4 p5))
  have B3 := on hb1 H3.out.1
  have z3 := form_slice H3.out.2
  have hn32 : n3 ≤ 32 := by omega
  have HN := hid (own_nu H3.out.2)
  have HB3 := hid B3
  have HLn := hid (And.intro z3 l2)
  clear H3 hb1 B3 HAc z3 l1 l2
  go_loopw [7] (fun i wr => ∃ k : Nat, k ≤ n3 ∧ i = .int .i64 k ∧ Hid (Below w3.heap.size w3 wr)) (fun i _ => n3 - (intOf i).toNat)
  case atStart => exact ⟨0, by omega, rfl, Below.refl _ _⟩
  case round =>
    obtain ⟨k, hk, rfl, HR⟩ := hrel
    by_cases hlt : k < n3
    · have hkn : (k : Int) < (n3 : Int) := by omega
      obtain ⟨z, hz⟩ : ∃ z, AL[k]? = some z := ⟨AL[k]'(by have := HLn.out.1; omega), List.getElem?_eq_getElem (by have := HLn.out.1; omega)⟩
      rcases (HN.out.below HR.out).row with q0 | ⟨lb, lo, rfl, hlb, hlc⟩
      · omega
      have gl := hlc k z hz
      obtain ⟨g0, g1, g2, g3, g4, g5⟩ := HQ.out wr (on HB3.out HR.out)
      obtain ⟨ok, hok⟩ : ∃ ok, (findP L z).2 = ok := ⟨_, rfl⟩
      obtain ⟨o, ho⟩ : ∃ o, (findP L z).1 = o := ⟨_, rfl⟩
      have CF : ∀ W, Below wr.heap.size wr W → ∀ V, Below W.heap.size W V → Calls Tryz.prog 19 #[.agg #[.int .i64 m.ep, .int .i64 m.pool.k, .int .i64 m.pool.m, .int .i64 m.pool.pgs, .int .i64 m.pool.dom, .slice x n c], .int .i64 z] V fun e w' => e = .returned (.tuple #[vO o, .bool ok]) ∧ Below V.heap.size V w' := fun W hb V hb2 => by
        have := HF.out z V (on HB.out (on HB3.out (on HR.out (on hb hb2))))
        rw [hok, ho] at this
        exact this
      have HZ : Hid (AL[k]? = some z ∧ (z ≠ -1 → findP L z = (o, true))) := ⟨hz, fun hn => by
        have e9 := HE.out k z hz hn
        rw [← ho, ← e9]⟩
      clear hz hok ho hlc
      obtain ⟨o0, o1, o2, o3, o4, o5, o6, o7⟩ := o
      unfold vO at CF
      dsimp only at CF HZ
      go_wp2_with fail
      go_cut [8, 9] (fun s8 s9 wc => ∃ gb : Nat, s8 = .pointer (some ⟨gb, 0, none⟩) ∧ s9 = .bool ok ∧ Hid (Below wr.heap.size wr wc ∧ wr.heap.size ≤ gb ∧ wc.heap[gb]? = some (.cells #[.int .i64 o0, .bool o1, .bool o2, .int .i64 o3, .int .i64 o4, .int .i64 o5, .int .i64 o6, .int .i64 o7] 44 (0, 0))))
      case first =>
        have bD : Below wr.heap.size wr wr.drew := (Below.refl _ _).drew
        have HV : Hid (∀ V, Below wr.drew.heap.size wr.drew V → V.cell? ⟨w.heap.size, 0, none⟩ = some (.int .i64 m.ep) ∧ V.cell? ⟨w.heap.size, 1, none⟩ = some (.int .i64 m.pool.k) ∧ V.cell? ⟨w.heap.size, 2, none⟩ = some (.int .i64 m.pool.m) ∧ V.cell? ⟨w.heap.size, 3, none⟩ = some (.int .i64 m.pool.pgs) ∧ V.cell? ⟨w.heap.size, 4, none⟩ = some (.int .i64 m.pool.dom) ∧ V.cell? ⟨w.heap.size, 5, none⟩ = some (.slice x n c) ∧ V.cell? ⟨lb, lo + k, none⟩ = some (.int .i64 z)) := fun V hb => ⟨keep (on bD hb) g0, keep (on bD hb) g1, keep (on bD hb) g2, keep (on bD hb) g3, keep (on bD hb) g4, keep (on bD hb) g5, keep (on bD hb) gl⟩
        have v0 := HV.out _ (Below.refl _ _)
        have cF2 := CF _ bD
        have HBD := hid bD
        clear bD
        refine wp_region_held_drew (S := fun v => v.cell? ⟨w.heap.size, 0, none⟩ = some (.int .i64 m.ep) ∧ v.cell? ⟨w.heap.size, 1, none⟩ = some (.int .i64 m.pool.k) ∧ v.cell? ⟨w.heap.size, 2, none⟩ = some (.int .i64 m.pool.m) ∧ v.cell? ⟨w.heap.size, 3, none⟩ = some (.int .i64 m.pool.pgs) ∧ v.cell? ⟨w.heap.size, 4, none⟩ = some (.int .i64 m.pool.dom) ∧ v.cell? ⟨w.heap.size, 5, none⟩ = some (.slice x n c) ∧ v.cell? ⟨lb, lo + k, none⟩ = some (.int .i64 z)) (by kernel_rfl) v0 (fun hHeld => ?_)
        generalize wr.drew = wD at *
        refine By.hk 0 ?_
        refine By.hk 1 ?_
        refine By.hk 2 ?_
        refine By.hk 3 ?_
        refine By.hk 4 ?_
        refine wpAnyH_ready (rs := [5, 9]) (by kernel_rfl) (by simp) ?_
        refine AllReadyH.cons rfl (fun K hK => ?_) (AllReadyH.cons rfl (fun K hK => ?_) AllReadyH.nil)
        · go_simp
          refine (cF2 wD (Below.refl _ _)).mono ?_
          rintro e w5 ⟨rfl, hb5⟩
          refine hK.out _ _ (HV.out _ hb5) (fun hHeld => ?_)
          clear hK K
          refine By.hk 6 ?_
          refine By.hk 7 ?_
          refine By.hk 8 ?_
          refine wpAnyH_ready (rs := [9]) (by kernel_rfl) (by simp) ?_
          refine AllReadyH.cons rfl (fun K hK => ?_) AllReadyH.nil
          go_simp
          refine hK.out _ _ (HV.out _ (on hb5 (al _ _))) (fun hHeld => ?_)
          clear hK K
          refine wpAnyH_ready (rs := [10]) (by kernel_rfl) (by simp) ?_
          refine AllReadyH.cons rfl (fun K hK => ?_) AllReadyH.nil
          go_simp
          have b6 := on hb5 (al w5 (.cells #[.int .i64 o0, .bool o1, .bool o2, .int .i64 o3, .int .i64 o4, .int .i64 o5, .int .i64 o6, .int .i64 o7] 44))
          refine hK.out _ _ (HV.out _ b6) (fun hHeld => ?_)
          clear hK K
          refine By.hk 11 ?_
          refine wpAnyH_done (by kernel_rfl) ?_ _
          go_wp2_with fail
          go_meet
          case rel => exact ⟨w5.heap.size, rfl, rfl, on HBD.out b6, Nat.le_trans HBD.out.size hb5.size, heap_alloc_new w5 _⟩
        · go_simp
          have bA := al wD (.cells #[.int .i64 0, .bool false, .bool false, .int .i64 0, .int .i64 0, .int .i64 0, .int .i64 0, .int .i64 0] 44)
          have lA : (wD.alloc (.cells #[.int .i64 0, .bool false, .bool false, .int .i64 0, .int .i64 0, .int .i64 0, .int .i64 0, .int .i64 0] 44)).heap[wD.heap.size]? = some (.cells #[.int .i64 0, .bool false, .bool false, .int .i64 0, .int .i64 0, .int .i64 0, .int .i64 0, .int .i64 0] 44 (0, 0)) := heap_alloc_new wD _
          have hsA : (wD.alloc (.cells #[.int .i64 0, .bool false, .bool false, .int .i64 0, .int .i64 0, .int .i64 0, .int .i64 0, .int .i64 0] 44)).heap.size = wD.heap.size + 1 := by simp
          have cF3 := cF2 _ bA
          refine hK.out _ _ (HV.out _ bA) (fun hHeld => ?_)
          clear hK K
          refine wpAnyH_ready (rs := [5]) (by kernel_rfl) (by simp) ?_
          refine AllReadyH.cons rfl (fun K hK => ?_) AllReadyH.nil
          go_simp
          refine cF3.mono ?_
          rintro e w5 ⟨rfl, hb5⟩
          have l5 := (hb5.block _ (by omega)).trans lA
          have s0 := cell_heap (j := 0) l5 rfl
          have f0 := fr_heap l5 0
          have s1 := cell_heap (j := 1) l5 rfl
          have f1 := fr_heap l5 1
          have s2 := cell_heap (j := 2) l5 rfl
          have f2 := fr_heap l5 2
          have s3 := cell_heap (j := 3) l5 rfl
          have f3 := fr_heap l5 3
          have s4 := cell_heap (j := 4) l5 rfl
          have f4 := fr_heap l5 4
          have s5 := cell_heap (j := 5) l5 rfl
          have f5 := fr_heap l5 5
          have s6 := cell_heap (j := 6) l5 rfl
          have f6 := fr_heap l5 6
          have s7 := cell_heap (j := 7) l5 rfl
          have f7 := fr_heap l5 7
          have z5 := hb5.size
          have b5 := on bA hb5
          have t6 : Turns (fun j => j = wD.heap.size) w5 (put8 w5 wD.heap.size 0 ⟨o0, o1, o2, o3, o4, o5, o6, o7⟩) := turns_put8
          have b6 := b5.trans (t6.below (B := wD.heap.size) (fun j e => by omega) (by omega))
          have l6 := put8_heap l5 ⟨o0, o1, o2, o3, o4, o5, o6, o7⟩
          have H6 := hid (And.intro b6 l6)
          have v6 := HV.out _ b6
          clear l5 lA t6 b6 l6
          unfold put8 at H6 v6
          dsimp only at H6 v6
          refine hK.out _ _ (HV.out _ b5) (fun hHeld => ?_)
          clear hK K
          refine By.hk 6 ?_
          refine By.hk 7 ?_
          refine By.hk 8 ?_
          refine wpAnyH_ready (rs := [10]) (by kernel_rfl) (by simp) ?_
          refine AllReadyH.cons rfl (fun K hK => ?_) AllReadyH.nil
          go_simp
          refine hK.out _ _ v6 (fun hHeld => ?_)
          clear hK K
          refine By.hk 11 ?_
          refine wpAnyH_done (by kernel_rfl) ?_ _
          go_wp2_with fail
          go_meet
          case rel => exact ⟨wD.heap.size, rfl, rfl, on HBD.out H6.out.1, HBD.out.size, H6.out.2⟩
      case rest =>
        obtain ⟨gb, rfl, rfl, HC⟩ := hcut
        obtain ⟨bc, hgb, hcb⟩ := HC.out
        have HCb := hid (And.intro bc hcb)
        have gl2 := keep bc gl
        clear g0 g1 g2 g3 g4 g5 gl CF HC bc hgb hcb
        go_wp2_with fail
        obtain ⟨w4, hw4⟩ : ∃ w4, w4 = wc := ⟨_, rfl⟩
        subst hw4
        by_cases hh : z = -1
        · have e3 : (z != -1) = false := by simpa using hh
          go_loop [10] (fun a => a = .int .i64 0) (fun a => 0)
          case atStart => rfl
          case round =>
            subst hrel
            by_cases hk0 : (0 : Int) < (k : Int)
            · go_wp2_with fail
              go_roundw
              case rel => exact ⟨k + 1, by omega, by go_num, on HR.out HCb.out.1⟩
              case measure => simp [intOf]; omega
            · go_wp2_with fail
              go_roundw
              case rel => exact ⟨k + 1, by omega, by go_num, on HR.out HCb.out.1⟩
              case measure => simp [intOf]; omega
        · have e3 : (z != -1) = true := by simpa using hh
          have HH := hid hh
          clear hh
          go_loopw [10] (fun a wr => ∃ j : Nat, j ≤ k ∧ a = .int .i64 j ∧ Hid (Below w4.heap.size w4 wr)) (fun a _ => k - (intOf a).toNat)
          case atStart => exact ⟨0, by omega, rfl, Below.refl _ _⟩
          case round =>
            obtain ⟨j, hj, rfl, HJ⟩ := hrel
            have BJ := on HR.out (on HCb.out.1 HJ.out)
            have gk := keep HJ.out gl2
            by_cases hjk : j < k
            · have hjk2 : (j : Int) < (k : Int) := by omega
              have hjn : (j : Int) < (n3 : Int) := by omega
              obtain ⟨zy, hzy⟩ : ∃ zy, AL[j]? = some zy := ⟨AL[j]'(by have := HLn.out.1; omega), List.getElem?_eq_getElem (by have := HLn.out.1; omega)⟩
              rcases (HN.out.below BJ).row with q0 | ⟨lb2, lo2, hlx, hlb2, hlc⟩
              · omega
              cases hlx
              have gl := hlc j zy hzy
              obtain ⟨pb, fb, hfp⟩ : ∃ pb fb, findP L zy = (pb, fb) := ⟨_, _, rfl⟩
              have CF : ∀ W, Below wr.heap.size wr W → ∀ V, Below W.heap.size W V → Calls Tryz.prog 19 #[.agg #[.int .i64 m.ep, .int .i64 m.pool.k, .int .i64 m.pool.m, .int .i64 m.pool.pgs, .int .i64 m.pool.dom, .slice x n c], .int .i64 zy] V fun e w' => e = .returned (.tuple #[vO pb, .bool fb]) ∧ Below V.heap.size V w' := fun W hb V hb2 => by
                have := HF.out zy V (on HB.out (on HB3.out (on BJ (on hb hb2))))
                rw [hfp] at this
                exact this
              obtain ⟨g0, g1, g2, g3, g4, g5⟩ := HQ.out _ (on HB3.out BJ)
              have HP := hid (And.intro hzy hfp)
              clear hzy hfp hlc
              obtain ⟨p0, p1, p2, p3, p4, p5, p6, p7⟩ := pb
              unfold vO at CF
              dsimp only at CF
              go_wp2_with fail
              go_cut [11, 12] (fun s11 s12 wc => ∃ gc : Nat, s11 = .pointer (some ⟨gc, 0, none⟩) ∧ s12 = .bool fb ∧ Hid (Below wr.heap.size wr wc ∧ wr.heap.size ≤ gc ∧ wc.heap[gc]? = some (.cells #[.int .i64 p0, .bool p1, .bool p2, .int .i64 p3, .int .i64 p4, .int .i64 p5, .int .i64 p6, .int .i64 p7] 44 (0, 0))))
              case first =>
                have bD : Below wr.heap.size wr wr.drew := (Below.refl _ _).drew
                have HV : Hid (∀ V, Below wr.drew.heap.size wr.drew V → V.cell? ⟨w.heap.size, 0, none⟩ = some (.int .i64 m.ep) ∧ V.cell? ⟨w.heap.size, 1, none⟩ = some (.int .i64 m.pool.k) ∧ V.cell? ⟨w.heap.size, 2, none⟩ = some (.int .i64 m.pool.m) ∧ V.cell? ⟨w.heap.size, 3, none⟩ = some (.int .i64 m.pool.pgs) ∧ V.cell? ⟨w.heap.size, 4, none⟩ = some (.int .i64 m.pool.dom) ∧ V.cell? ⟨w.heap.size, 5, none⟩ = some (.slice x n c) ∧ V.cell? ⟨lb, lo + j, none⟩ = some (.int .i64 zy)) := fun V hb => ⟨keep (on bD hb) g0, keep (on bD hb) g1, keep (on bD hb) g2, keep (on bD hb) g3, keep (on bD hb) g4, keep (on bD hb) g5, keep (on bD hb) gl⟩
                have v0 := HV.out _ (Below.refl _ _)
                have cF2 := CF _ bD
                have HBD := hid bD
                clear bD
                refine wp_region_held_drew (S := fun v => v.cell? ⟨w.heap.size, 0, none⟩ = some (.int .i64 m.ep) ∧ v.cell? ⟨w.heap.size, 1, none⟩ = some (.int .i64 m.pool.k) ∧ v.cell? ⟨w.heap.size, 2, none⟩ = some (.int .i64 m.pool.m) ∧ v.cell? ⟨w.heap.size, 3, none⟩ = some (.int .i64 m.pool.pgs) ∧ v.cell? ⟨w.heap.size, 4, none⟩ = some (.int .i64 m.pool.dom) ∧ v.cell? ⟨w.heap.size, 5, none⟩ = some (.slice x n c) ∧ v.cell? ⟨lb, lo + j, none⟩ = some (.int .i64 zy)) (by kernel_rfl) v0 (fun hHeld => ?_)
                generalize wr.drew = wD at *
                refine By.hk 0 ?_
                refine By.hk 1 ?_
                refine By.hk 2 ?_
                refine By.hk 3 ?_
                refine By.hk 4 ?_
                refine wpAnyH_ready (rs := [5, 9]) (by kernel_rfl) (by simp) ?_
                refine AllReadyH.cons rfl (fun K hK => ?_) (AllReadyH.cons rfl (fun K hK => ?_) AllReadyH.nil)
                · go_simp
                  refine (cF2 wD (Below.refl _ _)).mono ?_
                  rintro e w5 ⟨rfl, hb5⟩
                  refine hK.out _ _ (HV.out _ hb5) (fun hHeld => ?_)
                  clear hK K
                  refine By.hk 6 ?_
                  refine By.hk 7 ?_
                  refine By.hk 8 ?_
                  refine wpAnyH_ready (rs := [9]) (by kernel_rfl) (by simp) ?_
                  refine AllReadyH.cons rfl (fun K hK => ?_) AllReadyH.nil
                  go_simp
                  refine hK.out _ _ (HV.out _ (on hb5 (al _ _))) (fun hHeld => ?_)
                  clear hK K
                  refine wpAnyH_ready (rs := [10]) (by kernel_rfl) (by simp) ?_
                  refine AllReadyH.cons rfl (fun K hK => ?_) AllReadyH.nil
                  go_simp
                  have b6 := on hb5 (al w5 (.cells #[.int .i64 p0, .bool p1, .bool p2, .int .i64 p3, .int .i64 p4, .int .i64 p5, .int .i64 p6, .int .i64 p7] 44))
                  refine hK.out _ _ (HV.out _ b6) (fun hHeld => ?_)
                  clear hK K
                  refine By.hk 11 ?_
                  refine wpAnyH_done (by kernel_rfl) ?_ _
                  go_wp2_with fail
                  go_meet
                  case rel => exact ⟨w5.heap.size, rfl, rfl, on HBD.out b6, Nat.le_trans HBD.out.size hb5.size, heap_alloc_new w5 _⟩
                · go_simp
                  have bA := al wD (.cells #[.int .i64 0, .bool false, .bool false, .int .i64 0, .int .i64 0, .int .i64 0, .int .i64 0, .int .i64 0] 44)
                  have lA : (wD.alloc (.cells #[.int .i64 0, .bool false, .bool false, .int .i64 0, .int .i64 0, .int .i64 0, .int .i64 0, .int .i64 0] 44)).heap[wD.heap.size]? = some (.cells #[.int .i64 0, .bool false, .bool false, .int .i64 0, .int .i64 0, .int .i64 0, .int .i64 0, .int .i64 0] 44 (0, 0)) := heap_alloc_new wD _
                  have hsA : (wD.alloc (.cells #[.int .i64 0, .bool false, .bool false, .int .i64 0, .int .i64 0, .int .i64 0, .int .i64 0, .int .i64 0] 44)).heap.size = wD.heap.size + 1 := by simp
                  have cF3 := cF2 _ bA
                  refine hK.out _ _ (HV.out _ bA) (fun hHeld => ?_)
                  clear hK K
                  refine wpAnyH_ready (rs := [5]) (by kernel_rfl) (by simp) ?_
                  refine AllReadyH.cons rfl (fun K hK => ?_) AllReadyH.nil
                  go_simp
                  refine cF3.mono ?_
                  rintro e w5 ⟨rfl, hb5⟩
                  have l5 := (hb5.block _ (by omega)).trans lA
                  have s0 := cell_heap (j := 0) l5 rfl
                  have f0 := fr_heap l5 0
                  have s1 := cell_heap (j := 1) l5 rfl
                  have f1 := fr_heap l5 1
                  have s2 := cell_heap (j := 2) l5 rfl
                  have f2 := fr_heap l5 2
                  have s3 := cell_heap (j := 3) l5 rfl
                  have f3 := fr_heap l5 3
                  have s4 := cell_heap (j := 4) l5 rfl
                  have f4 := fr_heap l5 4
                  have s5 := cell_heap (j := 5) l5 rfl
                  have f5 := fr_heap l5 5
                  have s6 := cell_heap (j := 6) l5 rfl
                  have f6 := fr_heap l5 6
                  have s7 := cell_heap (j := 7) l5 rfl
                  have f7 := fr_heap l5 7
                  have z5 := hb5.size
                  have b5 := on bA hb5
                  have t6 : Turns (fun j => j = wD.heap.size) w5 (put8 w5 wD.heap.size 0 ⟨p0, p1, p2, p3, p4, p5, p6, p7⟩) := turns_put8
                  have b6 := b5.trans (t6.below (B := wD.heap.size) (fun j e => by omega) (by omega))
                  have l6 := put8_heap l5 ⟨p0, p1, p2, p3, p4, p5, p6, p7⟩
                  have H6 := hid (And.intro b6 l6)
                  have v6 := HV.out _ b6
                  clear l5 lA t6 b6 l6
                  unfold put8 at H6 v6
                  dsimp only at H6 v6
                  refine hK.out _ _ (HV.out _ b5) (fun hHeld => ?_)
                  clear hK K
                  refine By.hk 6 ?_
                  refine By.hk 7 ?_
                  refine By.hk 8 ?_
                  refine wpAnyH_ready (rs := [10]) (by kernel_rfl) (by simp) ?_
                  refine AllReadyH.cons rfl (fun K hK => ?_) AllReadyH.nil
                  go_simp
                  refine hK.out _ _ v6 (fun hHeld => ?_)
                  clear hK K
                  refine By.hk 11 ?_
                  refine wpAnyH_done (by kernel_rfl) ?_ _
                  go_wp2_with fail
                  go_meet
                  case rel => exact ⟨wD.heap.size, rfl, rfl, on HBD.out H6.out.1, HBD.out.size, H6.out.2⟩
              case rest =>
                obtain ⟨gc, rfl, rfl, HC2⟩ := hcut
                obtain ⟨bc2, hgc, hcc⟩ := HC2.out
                have BX := on HJ.out bc2
                have HBX := hid BX
                have hcb := (BX.block gb (Array.getElem?_eq_some_iff.1 HCb.out.2).1).trans HCb.out.2
                have a0 := cell_heap (j := 0) hcb rfl
                have a6 := cell_heap (j := 6) hcb rfl
                have a7 := cell_heap (j := 7) hcb rfl
                have y0 := cell_heap (j := 0) hcc rfl
                have y6 := cell_heap (j := 6) hcc rfl
                have y7 := cell_heap (j := 7) hcc rfl
                have r4 := keep bc2 g4
                have glj := keep bc2 gl
                clear g0 g1 g2 g3 g4 g5 gl gk CF HC2 bc2 BX BJ hcb hcc hgc gl2
                by_cases hy1 : zy = -1
                · have e4 : (zy == -1) = true := by simpa using hy1
                  clear hy1
                  go_wp2_with fail
                  go_roundw
                  case rel => exact ⟨j + 1, by omega, by go_num, HBX.out⟩
                  case measure => simp [intOf]; omega
                · have e4 : (zy == -1) = false := by simpa using hy1
                  clear hy1
                  cases fb with
                  | false =>
                    go_wp2_with fail
                    go_roundw
                    case rel => exact ⟨j + 1, by omega, by go_num, HBX.out⟩
                    case measure => simp [intOf]; omega
                  | true =>
                    obtain ⟨hne, hd1, hd2⟩ := HX.out k j z zy _ _ hjk HZ.out.1 HP.out.1 HH.out (HZ.out.2 HH.out) HP.out.2
                    dsimp only at hne hd1 hd2
                    have hh0 : (o0 == p0) = false := by simpa using hne
                    clear hne
                    by_cases k1 : m.pool.dom = 1
                    · have d1 : (m.pool.dom == 1) = true := by simpa using k1
                      have hh6 : (o6 == p6) = false := by simpa using (hd1 k1)
                      have d2 : (m.pool.dom == 2) = false := by simp; omega
                      clear k1 hd1 hd2
                      go_wp2_with fail
                      go_roundw
                      case rel => exact ⟨j + 1, by omega, by go_num, HBX.out⟩
                      case measure => simp [intOf]; omega
                    · by_cases k2 : m.pool.dom = 2
                      · have d1 : (m.pool.dom == 1) = false := by simpa using k1
                        have d2 : (m.pool.dom == 2) = true := by simpa using k2
                        have hh7 : (o7 == p7) = false := by simpa using (hd2 k2)
                        clear k1 k2 hd1 hd2
                        go_wp2_with fail
                        go_roundw
                        case rel => exact ⟨j + 1, by omega, by go_num, HBX.out⟩
                        case measure => simp [intOf]; omega
                      · have d1 : (m.pool.dom == 1) = false := by simpa using k1
                        have d2 : (m.pool.dom == 2) = false := by simpa using k2
                        clear k1 k2 hd1 hd2
                        go_wp2_with fail
                        go_roundw
                        case rel => exact ⟨j + 1, by omega, by go_num, HBX.out⟩
                        case measure => simp [intOf]; omega
            · have hj2 : j = k := by omega
              subst hj2
              go_wp2_with fail
              go_roundw
              case rel => exact ⟨j + 1, by omega, by go_num, BJ⟩
              case measure => simp [intOf]; omega
    · have hk2 : k = n3 := by omega
      subst hk2
      obtain ⟨g0, g1, g2, g3, g4, g5⟩ := HQ.out _ (on HB3.out HR.out)
      have eK : ((k : Int) == m.pool.k + m.pool.m) = true := by
        have h1 := HLn.out.1
        have h2 := HLn.out.2
        rw [h1] at h2
        simpa using h2
      go_wp2_with (go_at_call 9; refine (cA _).mono ?_; rintro e wg ⟨rfl, bg⟩; clear cA)
      go_ret
      exact ⟨rfl, on HB.out (on HB3.out (on HR.out bg))⟩

theorem walk_f (m : Mp) (x : Option Addr) (n c : Nat) (pg : Int) (w : World) (hO : At.Os w x n c m.osds) (hk : m.pool.k ≤ 9223372036854775807) (hm : mayM m = false) :
    Calls Tryz.prog 6 #[vM m.ep m.pool x n c, .int .i64 pg] w fun e w' => e = .returned (.bool true) ∧ Below w.heap.size w w' := by
  have hn := not_fine (m := m) (pg := pg) (fun h => by rw [hm] at h; cases h.1)
  exact walk_fe m x n c pg w hO hk hm hn.1 hn.2

theorem walk_t (m : Mp) (x : Option Addr) (n c : Nat) (pg : Int) (w : World) (hO : At.Os w x n c m.osds) (hk : m.pool.k ≤ 9223372036854775807) (hm : mayM m = true) (hn : ¬ 24 < n) (hs : ¬ 12 < m.pool.k + m.pool.m) (hk1 : 1 ≤ m.pool.k) (hm1 : 1 ≤ m.pool.m) :
    Calls Tryz.prog 6 #[vM m.ep m.pool x n c, .int .i64 pg] w fun e w' => e = .returned (.bool true) ∧ Below w.heap.size w w' := by
  rcases fine_or m pg with hf | ⟨h1, h2⟩
  · exact walk_ty m x n c pg w hO hk hm hn hs hk1 hm1 hf
  · exact walk_te m x n c pg w hO hk hm hn hs hk1 hm1 h1 h2

theorem walk (V0 : MpV) (a1 : Int) (w : World) (h0 : MapIn w V0) (w1 : (Lit.int .i64 a1).wf = true) :
    Calls Tryz.prog 6 #[vM V0.m.ep V0.m.pool V0.x V0.n V0.c, .int .i64 a1] w fun e w' => e = .returned (.bool true) ∧ Below w.heap.size w w' := by
  obtain ⟨m, x, n, c⟩ := V0
  have hO := h0.os
  have hk := h0.k
  dsimp only at hO hk ⊢
  cases hm : mayM m with
  | false => exact walk_f m x n c a1 w hO hk hm
  | true =>
    have hf := fine_of hm (pg := 0) (by omega) (by have := pool_facts hm; omega)
    by_cases hn : 24 < n
    · exact walk_big m x n c a1 w hO hm hn
    · by_cases hs : 12 < m.pool.k + m.pool.m
      · exact walk_much m x n c a1 w hO hm hn hs hf.km
      · exact walk_t m x n c a1 w hO hk hm hn hs hf.k1 hf.m1

set_option maxRecDepth 100000 in
theorem lifted (os : Os) (started : os.Started) (H : Type) (enc : TypeId × Value → H) :
    ReturnsInHanded {} Tryz.checked os 6 .any (Rows.placeDomainsSpec.pre6 enc Tryz.prog Tryz.f6 Rows.placeDomainsRow.domain false) (Rows.placeDomainsSpec.post enc Tryz.prog Tryz.f6 false true false false) := by
  refine returnsInHanded_of_change_sized (C := Tryz.checked) own started (by kernel_rfl) Tryz.func6
    (ChangeSpec.witness6 (enc := enc) (C := Tryz.checked) false ⟨#[], #[.agg #[.int .i64 0, .int .i64 0, .int .i64 0, .int .i64 0, .int .i64 0, .slice none 0 0], .int .i64 0], []⟩ 8 (by kernel_rfl) (by kernel_rfl) (by kernel_rfl) (by kernel_rfl)) ?_
  intro W base args ds gs before hval0 hW hcnd hsz0 _
  have hsz : (DataW.weightsEach Tryz.prog (Tryz.f6.params.toList ++ Rows.placeDomainsSpec.plain.varTypes Tryz.prog) (ds ++ gs)).all (· ≤ reachBytes) = true := hsz0
  have hval : ∀ (j : Nat) t v, Tryz.f6.params[j]? = some t → args[j]? = some v → Value.okWide Tryz.prog W .any base t v := hval0
  have hW' := hW
  obtain ⟨p, q, hA0, hV, rfl, hfz, hnd⟩ := hW
  have hA : DataW.TrodAll enc Tryz.prog W 0 (fun _ => true) true Tryz.f6.params.toList args.toList ds p := hA0
  rw [Tryz.params6] at hA hval hsz
  obtain ⟨v0, vs0, d0, ds0, p0, q0, hargs, rfl, rfl, h0, r0⟩ := trodAll_cons hA
  obtain ⟨v1, vs1, d1, ds1, p1, q1, rfl, rfl, rfl, h1, r1⟩ := trodAll_cons r0
  obtain ⟨rfl, rfl, rfl⟩ := trodAll_nil r1
  obtain rfl : args = #[v0, v1] := by cases args; simp_all
  obtain ⟨rfl, rfl⟩ := trodVars_none hV
  have k0 := h0
  have lt0 : ∀ x ∈ p0, x.block < W.heap.size := by obtain ⟨m, hm⟩ := k0; exact DataW.trod_lt m _ _ _ hm
  have s0 : ∀ x ∈ d0.weights Tryz.prog 31, x ≤ reachBytes := fun x hx => by
    have := List.all_eq_true.1 hsz x (DataW.weights_mem_each (j := 0) rfl rfl x hx)
    simpa using this
  obtain ⟨V0, rfl, w0⟩ := At.map_in (okWide_struct Tryz.underlying31 (hval 0 31 v0 rfl rfl)) h0 s0
  obtain ⟨a1, rfl, rfl, rfl, w1⟩ := open_int Tryz.underlying3 (hval 1 3 v1 rfl rfl) h1
  clear hA0 hval0
  refine (walk V0 a1 W w0 w1).mono fun e W' ⟨he, bel⟩ => ?_
  subst he
  exact ⟨_, rfl, _, _, _, [], _, [], hW', trodAll_mk1 (shut_bool Tryz.underlying4 _), (trodAll_cons_mk (Below.trod laidOut (by kernel_rfl) (of_decide_eq_true (by kernel_rfl)) k0 bel lt0) (trodAll_cons_mk (shut_int Tryz.underlying3 w1) trodAll_mk0)), rfl, bel.frame _, fun h => by cases h⟩

theorem over : Rows.placeDomainsRow.holds Tryz.pinned (OpenSpec.ofChange Rows.placeDomainsSpec) :=
  OpenClaim.holds_of_wide 6 Tryz.f6 rfl rfl rfl rfl rfl rfl rfl ⟨rfl, rfl, rfl, rfl, rfl⟩ rfl rfl rfl rfl rfl (by kernel_rfl) Tryz.func6 (by kernel_rfl)
    (of_decide_eq_true (by kernel_rfl)) (by unfold Func.isWrapper; first | (rw [if_pos (by decide +kernel)]; kernel_rfl) | (rw [if_neg (by decide +kernel)]; exact ⟨rfl, rfl⟩))
    (fun os started H enc _ => lifted os started H enc)

theorem proved : Rows.PlaceDomainsSaid := over
#print axioms proved
end Go.Proofs.YtgfjmkjgagogpaaGreat.placeDomains
