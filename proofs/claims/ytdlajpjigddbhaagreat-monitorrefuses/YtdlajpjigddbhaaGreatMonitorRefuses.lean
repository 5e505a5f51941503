/-
  Which monitors there can't be, and what can't be asked for: 'mooringlaw14.MonitorRefuses' returns true and leaves its arguments as they were.
  Conditions: none.
-/
import Derived.Test.YtdlajpjigddbhaaGreatRows
import Derived.WalkKit
import Derived.ProofKit
import Derived.OpenShut
import Derived.SizedLaws
import Derived.ShutString
import Derived.ChangeOld
import Derived.Below
import Derived.Test.YtdlajpjigddbhaaGreatJ01
import Derived.Test.YtdlajpjigddbhaaGreatJ08
import Derived.Test.YtdlajpjigddbhaaGreatJ27
namespace Go.Proofs.YtdlajpjigddbhaaGreat.monitorRefuses
open Go.ChangeShapes Go.WideShapes Go.ChangeAt Go.RowKit By
open Fl Px At Mo
set_option linter.unusedVariables false
set_option linter.unusedSimpArgs false
set_option maxRecDepth 100000

theorem own : ownKnob Tryz.prog.godebug = none := by kernel_rfl
theorem laidOut : laidOutB Tryz.prog = true := by kernel_rfl

set_option maxHeartbeats 1600000 in
theorem bad1 (id n : Int) (p : Pool) (w : World) (hbad : n < 1 ∨ 7 < n ∨ id < 0 ∨ n ≤ id) (h1 : n < 1) : Calls Tryz.prog 5 #[.int .i64 id, .int .i64 n, vP p] w fun e w' => e = .returned (.bool true) ∧ Below w.heap.size w w' := by
  have hN := fun W => mnew_bad id n p W hbad
  have hA := fun W => mawake_any W
  clear hbad
  obtain ⟨pk, pm, pg, pd⟩ := p
  unfold vP at *
  dsimp only at hN ⊢
  have b0 := al w (.cells #[.int .i64 pk, .int .i64 pm, .int .i64 pg, .int .i64 pd] 49)
  go_enter Tryz.func5, Tryz.ntmps5
  go_wp2_with (first
    | (
       go_at_call 17; refine (hN _).mono ?_; rintro e w1 ⟨rfl, hb1⟩; clear hN
       have B1 := on b0 hb1; clear hb1)
    | (
       go_at_call 12; refine (hA _).mono ?_; rintro e w9 ⟨rfl, hb9⟩; clear hA))
  go_ret
  exact ⟨rfl, on B1 hb9⟩

set_option maxHeartbeats 1600000 in
theorem bad2 (id n : Int) (p : Pool) (w : World) (hbad : n < 1 ∨ 7 < n ∨ id < 0 ∨ n ≤ id) (h1 : ¬ n < 1) (h2 : 7 < n) : Calls Tryz.prog 5 #[.int .i64 id, .int .i64 n, vP p] w fun e w' => e = .returned (.bool true) ∧ Below w.heap.size w w' := by
  have hN := fun W => mnew_bad id n p W hbad
  have hA := fun W => mawake_any W
  clear hbad
  obtain ⟨pk, pm, pg, pd⟩ := p
  unfold vP at *
  dsimp only at hN ⊢
  have b0 := al w (.cells #[.int .i64 pk, .int .i64 pm, .int .i64 pg, .int .i64 pd] 49)
  go_enter Tryz.func5, Tryz.ntmps5
  go_wp2_with (first
    | (
       go_at_call 17; refine (hN _).mono ?_; rintro e w1 ⟨rfl, hb1⟩; clear hN
       have B1 := on b0 hb1; clear hb1)
    | (
       go_at_call 12; refine (hA _).mono ?_; rintro e w9 ⟨rfl, hb9⟩; clear hA))
  go_ret
  exact ⟨rfl, on B1 hb9⟩

set_option maxHeartbeats 1600000 in
theorem bad3 (id n : Int) (p : Pool) (w : World) (hbad : n < 1 ∨ 7 < n ∨ id < 0 ∨ n ≤ id) (h1 : ¬ n < 1) (h2 : ¬ 7 < n) (h3 : id < 0) : Calls Tryz.prog 5 #[.int .i64 id, .int .i64 n, vP p] w fun e w' => e = .returned (.bool true) ∧ Below w.heap.size w w' := by
  have hN := fun W => mnew_bad id n p W hbad
  have hA := fun W => mawake_any W
  clear hbad
  obtain ⟨pk, pm, pg, pd⟩ := p
  unfold vP at *
  dsimp only at hN ⊢
  have b0 := al w (.cells #[.int .i64 pk, .int .i64 pm, .int .i64 pg, .int .i64 pd] 49)
  go_enter Tryz.func5, Tryz.ntmps5
  go_wp2_with (first
    | (
       go_at_call 17; refine (hN _).mono ?_; rintro e w1 ⟨rfl, hb1⟩; clear hN
       have B1 := on b0 hb1; clear hb1)
    | (
       go_at_call 12; refine (hA _).mono ?_; rintro e w9 ⟨rfl, hb9⟩; clear hA))
  go_ret
  exact ⟨rfl, on B1 hb9⟩

set_option maxHeartbeats 1600000 in
theorem bad4 (id n : Int) (p : Pool) (w : World) (hbad : n < 1 ∨ 7 < n ∨ id < 0 ∨ n ≤ id) (h1 : ¬ n < 1) (h2 : ¬ 7 < n) (h3 : ¬ id < 0) (h4 : n ≤ id) : Calls Tryz.prog 5 #[.int .i64 id, .int .i64 n, vP p] w fun e w' => e = .returned (.bool true) ∧ Below w.heap.size w w' := by
  have hN := fun W => mnew_bad id n p W hbad
  have hA := fun W => mawake_any W
  clear hbad
  obtain ⟨pk, pm, pg, pd⟩ := p
  unfold vP at *
  dsimp only at hN ⊢
  have b0 := al w (.cells #[.int .i64 pk, .int .i64 pm, .int .i64 pg, .int .i64 pd] 49)
  go_enter Tryz.func5, Tryz.ntmps5
  go_wp2_with (first
    | (
       go_at_call 17; refine (hN _).mono ?_; rintro e w1 ⟨rfl, hb1⟩; clear hN
       have B1 := on b0 hb1; clear hb1)
    | (
       go_at_call 12; refine (hA _).mono ?_; rintro e w9 ⟨rfl, hb9⟩; clear hA))
  go_ret
  exact ⟨rfl, on B1 hb9⟩

set_option maxHeartbeats 1600000 in
theorem badp (id n : Nat) (p : Pool) (w : World) (h1 : 1 ≤ n) (h2 : n ≤ 7) (h3 : id < n) (hk : p.k ≤ 9223372036854775807) (hp : poolB p = false) : Calls Tryz.prog 5 #[.int .i64 (id : Int), .int .i64 (n : Int), vP p] w fun e w' => e = .returned (.bool true) ∧ Below w.heap.size w w' := by
  have hN := fun W => mnew_pool id n p W h1 h2 h3 hk hp
  have hP := fun W => rpool_any p W
  rw [hp] at hP
  have hA := fun W => mawake_any W
  have i1 : ¬ (n : Int) < 1 := by omega
  have i2 : ¬ (7 : Int) < (n : Int) := by omega
  have i3 : ¬ (id : Int) < 0 := by omega
  have i4 : ¬ (n : Int) ≤ (id : Int) := by omega
  clear h1 h2 h3 hk hp
  obtain ⟨pk, pm, pg, pd⟩ := p
  unfold vP at *
  dsimp only at hN hP ⊢
  have b0 := al w (.cells #[.int .i64 pk, .int .i64 pm, .int .i64 pg, .int .i64 pd] 49)
  go_enter Tryz.func5, Tryz.ntmps5
  go_wp2_with (first
    | (
       go_at_call 17; refine (hN _).mono ?_; rintro e w1 ⟨rfl, hb1⟩; clear hN
       have k0 := keep hb1 (b := w.heap.size) (o := 0) (x := .int .i64 pk) (by first | assumption | go_simp)
       have k1 := keep hb1 (b := w.heap.size) (o := 1) (x := .int .i64 pm) (by first | assumption | go_simp)
       have k2 := keep hb1 (b := w.heap.size) (o := 2) (x := .int .i64 pg) (by first | assumption | go_simp)
       have k3 := keep hb1 (b := w.heap.size) (o := 3) (x := .int .i64 pd) (by first | assumption | go_simp)
       have B1 := on b0 hb1; clear hb1)
    | (
       go_at_call 18; refine (hP _).mono ?_; rintro e w2 ⟨rfl, hb2⟩; clear hP
       have B2 := on B1 hb2; clear hb2)
    | (
       go_at_call 12; refine (hA _).mono ?_; rintro e w9 ⟨rfl, hb9⟩; clear hA))
  go_ret
  exact ⟨rfl, on B2 hb9⟩

set_option maxHeartbeats 3200000 in
theorem good (id n : Nat) (p : Pool) (w : World) (h1 : 1 ≤ n) (h2 : n ≤ 7) (h3 : id < n) (hk : p.k ≤ 9223372036854775807) (hp : poolB p = true) (hp0 : 0 < p.k) : Calls Tryz.prog 5 #[.int .i64 (id : Int), .int .i64 (n : Int), vP p] w fun e w' => e = .returned (.bool true) ∧ Below w.heap.size w w' := by
  have hN := fun W (b : Below w.heap.size w W) => newL (w := w) (W := W) h1 h2 h3 b hk hp
  have hP := fun W => rpool_any p W
  rw [hp] at hP
  have hE := fun W q (h : Lw w W q id n p) => epochL h hk hp0
  have hM := fun W q (h : Lw w W q id n p) => mapL h hk hp0
  have hO := fun W q (h : Lw w W q id n p) => mapNone h hk hp0
  have hK := fun W q (h : Lw w W q id n p) => askL h
  have hQ := fun W q (h : Lw w W q id n p) => pendL h hp0
  have hS := fun W (y : Option Addr) (cy : Nat) (h : At.Os W y 0 cy []) => rsame_any ⟨0, p, []⟩ ⟨0, p, []⟩ h (os_none W)
  rw [(eqM_iff _ _).2 rfl] at hS
  have hA := fun W => mawake_any W
  have i1 : ¬ (n : Int) < 1 := by omega
  have i2 : ¬ (7 : Int) < (n : Int) := by omega
  have i3 : ¬ (id : Int) < 0 := by omega
  have i4 : ¬ (n : Int) ≤ (id : Int) := by omega
  clear h1 h2 h3 hk hp hp0
  obtain ⟨pk, pm, pg, pd⟩ := p
  unfold vP vM vC zCh noP at *
  dsimp only at hN hP hM hO hK hS ⊢
  have b0 := al w (.cells #[.int .i64 pk, .int .i64 pm, .int .i64 pg, .int .i64 pd] 49)
  have p0 := heap_alloc_new w (.cells #[.int .i64 pk, .int .i64 pm, .int .i64 pg, .int .i64 pd] 49)
  have hN0 := hN _ b0
  have HP0 := hid p0
  clear hN p0
  go_enter Tryz.func5, Tryz.ntmps5
  go_wp2_with (first
    | (
       go_at_call 17; refine hN0.mono ?_; rintro e w1 ⟨q, rfl, H1⟩; clear hN0
       have p1 := heap_keep H1.out.2 HP0.out
       have k0 := cell_heap p1 (j := 0) (v := .int .i64 pk) rfl
       have k1 := cell_heap p1 (j := 1) (v := .int .i64 pm) rfl
       have k2 := cell_heap p1 (j := 2) (v := .int .i64 pg) rfl
       have k3 := cell_heap p1 (j := 3) (v := .int .i64 pd) rfl
       have HP1 := hid p1
       clear p1)
    | (
       go_at_call 18; refine (hP _).mono ?_; rintro e w2 ⟨rfl, hb2⟩; clear hP
       have HP2 := hid (heap_keep hb2 HP1.out)
       have H2 := hid (H1.out.1.below hb2)
       have hE2 := hE _ _ H2.out
       clear hb2 hE k0 k1 k2 k3)
    | (
       go_at_call 10; refine hE2.mono ?_; rintro e w3 ⟨rfl, H3⟩; clear hE2
       have HP3 := hid (H3.out.2 _ _ _ _ HP2.out (by decide) (by decide))
       have hM3 := hM _ _ H3.out.1
       clear hM)
    | (
       go_at_call 19; refine hM3.mono ?_; rintro e w4 ⟨y, cy, rfl, H4⟩; clear hM3
       have bM := al w4 (.cells #[.int .i64 0, .int .i64 pk, .int .i64 pm, .int .i64 pg, .int .i64 pd, .slice y 0 cy] 56)
       have pM := heap_alloc_new w4 (.cells #[.int .i64 0, .int .i64 pk, .int .i64 pm, .int .i64 pg, .int .i64 pd, .slice y 0 cy] 56)
       have HP4 := hid (And.intro (heap_keep bM (H4.out.1.2 _ _ _ _ HP3.out (by decide) (by decide))) pM)
       have H4' := hid (H4.out.1.1.below bM)
       have hO4 := hO _ _ H4'.out
       clear bM pM hO)
    | (
       go_at_call 19; refine hO4.mono ?_; rintro e w5 ⟨rfl, H5⟩; clear hO4
       have bZ := al w5 (.cells #[.int .i64 0, .int .i64 0, .int .i64 0, .int .i64 0, .int .i64 0, .slice none 0 0] 56)
       have q0 := heap_keep bZ (H5.out.2 _ _ _ _ HP4.out.1 (by decide) (by decide))
       have m0 := heap_keep bZ (H5.out.2 _ _ _ _ HP4.out.2 (by decide) (by decide))
       have k0 := cell_heap q0 (j := 0) (v := .int .i64 pk) rfl
       have k1 := cell_heap q0 (j := 1) (v := .int .i64 pm) rfl
       have k2 := cell_heap q0 (j := 2) (v := .int .i64 pg) rfl
       have k3 := cell_heap q0 (j := 3) (v := .int .i64 pd) rfl
       have j0 := cell_heap m0 (j := 0) (v := .int .i64 0) rfl
       have j1 := cell_heap m0 (j := 1) (v := .int .i64 pk) rfl
       have j2 := cell_heap m0 (j := 2) (v := .int .i64 pm) rfl
       have j3 := cell_heap m0 (j := 3) (v := .int .i64 pg) rfl
       have j4 := cell_heap m0 (j := 4) (v := .int .i64 pd) rfl
       have j5 := cell_heap m0 (j := 5) (v := .slice y 0 cy) rfl
       have H5' := hid (H5.out.1.below bZ)
       have hS5 := fun W => hS W y cy (os_zero H4.out.2)
       clear bZ q0 m0 hS)
    | (
       go_at_call 20; refine (hS5 _).mono ?_; rintro e w6 ⟨rfl, hb6⟩; clear hS5
       have hK6 := hK _ _ (H5'.out.below hb6)
       clear hb6 hK)
    | (
       go_at_call 21; refine hK6.mono ?_; rintro e w7 ⟨rfl, H7⟩; clear hK6
       have hQ7 := hQ _ _ H7.out.1
       clear hQ)
    | (
       go_at_call 16; refine hQ7.mono ?_; rintro e w' ⟨rfl, hw⟩; subst w'; clear hQ7)
    | (
       go_at_call 12; refine (hA _).mono ?_; rintro e w9 ⟨rfl, hb9⟩; clear hA))
  go_ret
  exact ⟨rfl, on H7.out.1.bel hb9⟩

theorem pool_pos {p : Pool} (h : poolB p = true) : 0 < p.k := by
  unfold poolB at h
  simp at h
  omega

theorem walk (id n : Int) (p : Pool) (w : World) (hi : (Lit.int .i64 id).wf = true) (hn : (Lit.int .i64 n).wf = true) (hk : p.k ≤ 9223372036854775807) : Calls Tryz.prog 5 #[.int .i64 id, .int .i64 n, vP p] w fun e w' => e = .returned (.bool true) ∧ Below w.heap.size w w' := by
  by_cases h1 : n < 1
  · exact bad1 id n p w (.inl h1) h1
  by_cases h2 : 7 < n
  · exact bad2 id n p w (.inr (.inl h2)) h1 h2
  by_cases h3 : id < 0
  · exact bad3 id n p w (.inr (.inr (.inl h3))) h1 h2 h3
  by_cases h4 : n ≤ id
  · exact bad4 id n p w (.inr (.inr (.inr h4))) h1 h2 h3 h4
  obtain ⟨N, rfl⟩ : ∃ N : Nat, n = (N : Int) := ⟨n.toNat, by omega⟩
  obtain ⟨I, rfl⟩ : ∃ I : Nat, id = (I : Int) := ⟨id.toNat, by omega⟩
  cases hp : poolB p with
  | false => exact badp I N p w (by omega) (by omega) (by omega) hk hp
  | true => exact good I N p w (by omega) (by omega) (by omega) hk hp (pool_pos hp)

set_option maxRecDepth 100000 in
theorem lifted (os : Os) (started : os.Started) (H : Type) (enc : TypeId × Value → H) :
    ReturnsInHanded {} Tryz.checked os 5 .any (Rows.monitorRefusesSpec.pre6 enc Tryz.prog Tryz.f5 Rows.monitorRefusesRow.domain false) (Rows.monitorRefusesSpec.post enc Tryz.prog Tryz.f5 false true false false) := by
  refine returnsInHanded_of_change_sized (C := Tryz.checked) own started (by kernel_rfl) Tryz.func5
    (ChangeSpec.witness6 (enc := enc) (C := Tryz.checked) false ⟨#[], #[.int .i64 0, .int .i64 0, .agg #[.int .i64 0, .int .i64 0, .int .i64 0, .int .i64 0]], []⟩ 8 (by kernel_rfl) (by kernel_rfl) (by kernel_rfl) (by kernel_rfl)) ?_
  intro W base args ds gs before hval0 hW hcnd hsz0 _
  have hsz : (DataW.weightsEach Tryz.prog (Tryz.f5.params.toList ++ Rows.monitorRefusesSpec.plain.varTypes Tryz.prog) (ds ++ gs)).all (· ≤ reachBytes) = true := hsz0
  have hval : ∀ (j : Nat) t v, Tryz.f5.params[j]? = some t → args[j]? = some v → Value.okWide Tryz.prog W .any base t v := hval0
  have hW' := hW
  obtain ⟨p, q, hA0, hV, rfl, hfz, hnd⟩ := hW
  have hA : DataW.TrodAll enc Tryz.prog W 0 (fun _ => true) true Tryz.f5.params.toList args.toList ds p := hA0
  rw [Tryz.params5] at hA hval hsz
  obtain ⟨v0, vs0, d0, ds0, p0, q0, hargs, rfl, rfl, h0, r0⟩ := trodAll_cons hA
  obtain ⟨v1, vs1, d1, ds1, p1, q1, rfl, rfl, rfl, h1, r1⟩ := trodAll_cons r0
  obtain ⟨v2, vs2, d2, ds2, p2, q2, rfl, rfl, rfl, h2, r2⟩ := trodAll_cons r1
  obtain ⟨rfl, rfl, rfl⟩ := trodAll_nil r2
  obtain rfl : args = #[v0, v1, v2] := by cases args; simp_all
  obtain ⟨rfl, rfl⟩ := trodVars_none hV
  obtain ⟨a0, rfl, rfl, rfl, w0⟩ := open_int Tryz.underlying3 (hval 0 3 v0 rfl rfl) h0
  obtain ⟨a1, rfl, rfl, rfl, w1⟩ := open_int Tryz.underlying3 (hval 1 3 v1 rfl rfl) h1
  have k2 := h2
  have lt2 : ∀ x ∈ p2, x.block < W.heap.size := by obtain ⟨m, hm⟩ := k2; exact DataW.trod_lt m _ _ _ hm
  have s2 : ∀ x ∈ d2.weights Tryz.prog 49, x ≤ reachBytes := fun x hx => by
    have := List.all_eq_true.1 hsz x (DataW.weights_mem_each (j := 2) rfl rfl x hx)
    simpa using this
  obtain ⟨V2, rfl, w2⟩ := At.pool_in (okWide_struct Tryz.underlying49 (hval 2 49 v2 rfl rfl)) h2
  clear hA0 hval0
  refine (walk a0 a1 V2 W w0 w1 w2).mono fun e W' ⟨he, bel⟩ => ?_
  subst he
  exact ⟨_, rfl, _, _, _, [], _, [], hW', trodAll_mk1 (shut_bool Tryz.underlying4 _), (trodAll_cons_mk (shut_int Tryz.underlying3 w0) (trodAll_cons_mk (shut_int Tryz.underlying3 w1) (trodAll_cons_mk (Below.trod laidOut (by kernel_rfl) (of_decide_eq_true (by kernel_rfl)) k2 bel lt2) trodAll_mk0))), rfl, bel.frame _, fun h => by cases h⟩

theorem over : Rows.monitorRefusesRow.holds Tryz.pinned (OpenSpec.ofChange Rows.monitorRefusesSpec) :=
  OpenClaim.holds_of_wide 5 Tryz.f5 rfl rfl rfl rfl rfl rfl rfl ⟨rfl, rfl, rfl, rfl, rfl⟩ rfl rfl rfl rfl rfl (by kernel_rfl) Tryz.func5 (by kernel_rfl)
    (of_decide_eq_true (by kernel_rfl)) (by unfold Func.isWrapper; first | (rw [if_pos (by decide +kernel)]; kernel_rfl) | (rw [if_neg (by decide +kernel)]; exact ⟨rfl, rfl⟩))
    (fun os started H enc _ => lifted os started H enc)

theorem proved : Rows.MonitorRefusesSaid := over
#print axioms proved
end Go.Proofs.YtdlajpjigddbhaaGreat.monitorRefuses
