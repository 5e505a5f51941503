/-
  Which map, and which change, any bytes are: 'mooringlaw13.AtlasDecodes' returns true and leaves its argument as it was.
  Conditions: none.
-/
import Derived.Test.YtnddhlkdemibgaaRows
import Derived.WalkKit
import Derived.ProofKit
import Derived.OpenShut
import Derived.SizedLaws
import Derived.ShutString
import Derived.ChangeOld
import Derived.Below
import Derived.Test.YtnddhlkdemibgaaJ01
import Derived.Test.YtnddhlkdemibgaaJ05
import Derived.Test.YtnddhlkdemibgaaJ08
import Derived.Test.YtnddhlkdemibgaaJ15
import Derived.Test.YtnddhlkdemibgaaJ17
namespace Go.Proofs.Ytnddhlkdemibgaa.atlasDecodes
open Go.ChangeShapes Go.WideShapes Go.ChangeAt Go.RowKit By
open Fl At
set_option linter.unusedVariables false
set_option linter.unusedSimpArgs false
set_option maxRecDepth 100000

theorem own : ownKnob Try.prog.godebug = none := by kernel_rfl
theorem laidOut : laidOutB Try.prog = true := by kernel_rfl

set_option maxHeartbeats 6400000 in
theorem walk (x : Option Addr) (n c : Nat) (f : Nat → Nat) (w : World) (h : BytesIn w x n c f) :
    Calls Try.prog 7 #[.slice x n c] w fun e w' => e = .returned (.bool true) ∧ Below w.heap.size w w' := by
  have hn : n ≤ 140737488351232 := by have := h.le; have := h.small; omega
  have hl := Sl.of_in h
  obtain ⟨l, hll⟩ : ∃ l, l = (List.range n).map f := ⟨_, rfl⟩
  rw [← hll] at hl
  clear h hll
  have hb1 : Below w.heap.size w (w.alloc (.cells #[] 5)) := al _ _
  obtain ⟨R, w1, hap, ho, hb⟩ := push_list (w.alloc (.cells #[] 5)) w w.heap.size (.slice (some ⟨w.heap.size, 0, none⟩) 0 0) [] (empty_bytes w) (by simp) hb1 x n c l (hl.below hb1) (by simp; omega)
  rw [List.nil_append] at ho
  obtain ⟨y0, cy, rfl, hy, _⟩ := ho.sl hl.lt
  rw [hl.len] at hap hy
  have hDm := decode_any y0 n cy l w1 hy (by omega)
  have hDr := fun W (h : Go.Proofs.Ytnddhlkdemibgaa.Sl W x n c l) => rdecode_any x n c l W h (by omega)
  have hCp := fun W (h : Go.Proofs.Ytnddhlkdemibgaa.Sl W x n c l) => decodeChange_any x n c l W h (by omega)
  have hCr := fun W (h : Go.Proofs.Ytnddhlkdemibgaa.Sl W x n c l) => rdecodeChange_any x n c l W h (by omega)
  have hA := fun W => awake_any W
  rw [← decM_eq hl.lt] at hDr
  rw [← decC_eq hl.lt] at hCr
  obtain ⟨⟨⟨z0, ⟨z1, z2, z3, z4⟩, ZL⟩, zt⟩, hz⟩ : ∃ z, z = decM l := ⟨_, rfl⟩
  rw [← hz] at hDm hDr
  obtain ⟨⟨⟨u0, ⟨u1, u2, u3, u4, u5, u6, u7, u8⟩⟩, ut⟩, hu⟩ : ∃ z, z = decC l := ⟨_, rfl⟩
  rw [← hu] at hCp hCr
  dsimp only at hDm hDr hCp hCr
  generalize cod zt = zc at *
  generalize cod ut = uc at *
  clear hz hu
  have hS := fun W (a b : Option Addr) (an ac bn bc : Nat) (h : At.Os W a an ac ZL) (h' : At.Os W b bn bc ZL) => rsame_any ⟨z0, ⟨z1, z2, z3, z4⟩, ZL⟩ ⟨z0, ⟨z1, z2, z3, z4⟩, ZL⟩ h h'
  rw [(eqM_iff _ _).2 rfl] at hS
  unfold vM vC at *
  dsimp only at hDm hDr hCp hCr hS
  have HL := hid (And.intro hl hb)
  clear hl hn hb1 ho hb hy
  go_enter Try.func7, Try.ntmps7
  go_wp2_with (first
    | (at_builtin; refine wpList_append_run rfl _ _ 52 rfl _ _ rfl rfl hap ?_; clear hap)
    | (
       go_at_call 28; refine hDm.mono ?_; rintro e w2 ⟨y, yn, yc, rfl, H2⟩; clear hDm
       have bM := al w2 (.cells #[.int .i64 z0, .int .i64 z1, .int .i64 z2, .int .i64 z3, .int .i64 z4, .slice y yn yc] 26)
       have B2 := on (on HL.out.2 H2.out.1) bM
       have HO2 := hid (H2.out.2.below bM)
       have hDr2 := hDr _ (HL.out.1.below B2)
       have HB2 := hid B2
       clear bM B2 hDr)
    | (
       go_at_call 30; refine hDr2.mono ?_; rintro e w3 ⟨y2, yn2, yc2, rfl, H3⟩; clear hDr2
       have hb3 := H3.out.1
       have k0 := keep hb3 (b := w2.heap.size) (o := 0) (x := .int .i64 z0) (by first | assumption | go_simp)
       have k1 := keep hb3 (b := w2.heap.size) (o := 1) (x := .int .i64 z1) (by first | assumption | go_simp)
       have k2 := keep hb3 (b := w2.heap.size) (o := 2) (x := .int .i64 z2) (by first | assumption | go_simp)
       have k3 := keep hb3 (b := w2.heap.size) (o := 3) (x := .int .i64 z3) (by first | assumption | go_simp)
       have k4 := keep hb3 (b := w2.heap.size) (o := 4) (x := .int .i64 z4) (by first | assumption | go_simp)
       have k5 := keep hb3 (b := w2.heap.size) (o := 5) (x := .slice y yn yc) (by first | assumption | go_simp)
       have bN := al w3 (.cells #[.int .i64 z0, .int .i64 z1, .int .i64 z2, .int .i64 z3, .int .i64 z4, .slice y2 yn2 yc2] 26)
       replace k0 := keep bN k0
       replace k1 := keep bN k1
       replace k2 := keep bN k2
       replace k3 := keep bN k3
       replace k4 := keep bN k4
       replace k5 := keep bN k5
       have B3 := on (on HB2.out hb3) bN
       have HO3 := hid (And.intro (HO2.out.below (on hb3 bN)) (H3.out.2.below bN))
       have hCp3 := hCp _ (HL.out.1.below B3)
       have HB3 := hid B3
       clear hb3 bN B3 hCp)
    | (
       go_at_call 29; refine hCp3.mono ?_; rintro e w4 ⟨rfl, hb4⟩; clear hCp3
       have q0 := keep hb4 (b := w3.heap.size) (o := 0) (x := .int .i64 z0) (by first | assumption | go_simp)
       have q1 := keep hb4 (b := w3.heap.size) (o := 1) (x := .int .i64 z1) (by first | assumption | go_simp)
       have q2 := keep hb4 (b := w3.heap.size) (o := 2) (x := .int .i64 z2) (by first | assumption | go_simp)
       have q3 := keep hb4 (b := w3.heap.size) (o := 3) (x := .int .i64 z3) (by first | assumption | go_simp)
       have q4 := keep hb4 (b := w3.heap.size) (o := 4) (x := .int .i64 z4) (by first | assumption | go_simp)
       have q5 := keep hb4 (b := w3.heap.size) (o := 5) (x := .slice y2 yn2 yc2) (by first | assumption | go_simp)
       replace k0 := keep hb4 k0
       replace k1 := keep hb4 k1
       replace k2 := keep hb4 k2
       replace k3 := keep hb4 k3
       replace k4 := keep hb4 k4
       replace k5 := keep hb4 k5
       have bC := al w4 (.cells #[.int .i64 u0, .int .i64 u1, .bool u2, .bool u3, .int .i64 u4, .int .i64 u5, .int .i64 u6, .int .i64 u7, .int .i64 u8] 30)
       replace k0 := keep bC k0
       replace k1 := keep bC k1
       replace k2 := keep bC k2
       replace k3 := keep bC k3
       replace k4 := keep bC k4
       replace k5 := keep bC k5
       replace q0 := keep bC q0
       replace q1 := keep bC q1
       replace q2 := keep bC q2
       replace q3 := keep bC q3
       replace q4 := keep bC q4
       replace q5 := keep bC q5
       have B4 := on (on HB3.out hb4) bC
       have HO4 := hid (And.intro (HO3.out.1.below (on hb4 bC)) (HO3.out.2.below (on hb4 bC)))
       have hCr4 := hCr _ (HL.out.1.below B4)
       have HB4 := hid B4
       clear hb4 bC B4 hCr)
    | (
       go_at_call 31; refine hCr4.mono ?_; rintro e w5 ⟨rfl, hb5⟩; clear hCr4
       have v0 := keep hb5 (b := w4.heap.size) (o := 0) (x := .int .i64 u0) (by first | assumption | go_simp)
       have v1 := keep hb5 (b := w4.heap.size) (o := 1) (x := .int .i64 u1) (by first | assumption | go_simp)
       have v2 := keep hb5 (b := w4.heap.size) (o := 2) (x := .bool u2) (by first | assumption | go_simp)
       have v3 := keep hb5 (b := w4.heap.size) (o := 3) (x := .bool u3) (by first | assumption | go_simp)
       have v4 := keep hb5 (b := w4.heap.size) (o := 4) (x := .int .i64 u4) (by first | assumption | go_simp)
       have v5 := keep hb5 (b := w4.heap.size) (o := 5) (x := .int .i64 u5) (by first | assumption | go_simp)
       have v6 := keep hb5 (b := w4.heap.size) (o := 6) (x := .int .i64 u6) (by first | assumption | go_simp)
       have v7 := keep hb5 (b := w4.heap.size) (o := 7) (x := .int .i64 u7) (by first | assumption | go_simp)
       have v8 := keep hb5 (b := w4.heap.size) (o := 8) (x := .int .i64 u8) (by first | assumption | go_simp)
       replace k0 := keep hb5 k0
       replace k1 := keep hb5 k1
       replace k2 := keep hb5 k2
       replace k3 := keep hb5 k3
       replace k4 := keep hb5 k4
       replace k5 := keep hb5 k5
       replace q0 := keep hb5 q0
       replace q1 := keep hb5 q1
       replace q2 := keep hb5 q2
       replace q3 := keep hb5 q3
       replace q4 := keep hb5 q4
       replace q5 := keep hb5 q5
       have bD := al w5 (.cells #[.int .i64 u0, .int .i64 u1, .bool u2, .bool u3, .int .i64 u4, .int .i64 u5, .int .i64 u6, .int .i64 u7, .int .i64 u8] 30)
       replace k0 := keep bD k0
       replace k1 := keep bD k1
       replace k2 := keep bD k2
       replace k3 := keep bD k3
       replace k4 := keep bD k4
       replace k5 := keep bD k5
       replace q0 := keep bD q0
       replace q1 := keep bD q1
       replace q2 := keep bD q2
       replace q3 := keep bD q3
       replace q4 := keep bD q4
       replace q5 := keep bD q5
       replace v0 := keep bD v0
       replace v1 := keep bD v1
       replace v2 := keep bD v2
       replace v3 := keep bD v3
       replace v4 := keep bD v4
       replace v5 := keep bD v5
       replace v6 := keep bD v6
       replace v7 := keep bD v7
       replace v8 := keep bD v8
       have B5 := on (on HB4.out hb5) bD
       have HO5 := hid (And.intro (HO4.out.1.below (on hb5 bD)) (HO4.out.2.below (on hb5 bD)))
       have hS5 := hS _ _ _ _ _ _ _ HO5.out.1 HO5.out.2
       have HB5 := hid B5
       clear hb5 bD B5 hS)
    | (
       go_at_call 14; refine hS5.mono ?_; rintro e w6 ⟨rfl, hb6⟩; clear hS5
       replace v0 := keep hb6 v0
       replace v1 := keep hb6 v1
       replace v2 := keep hb6 v2
       replace v3 := keep hb6 v3
       replace v4 := keep hb6 v4
       replace v5 := keep hb6 v5
       replace v6 := keep hb6 v6
       replace v7 := keep hb6 v7
       replace v8 := keep hb6 v8
       have s0 := keep hb6 (b := w5.heap.size) (o := 0) (x := .int .i64 u0) (by first | assumption | go_simp)
       have s1 := keep hb6 (b := w5.heap.size) (o := 1) (x := .int .i64 u1) (by first | assumption | go_simp)
       have s2 := keep hb6 (b := w5.heap.size) (o := 2) (x := .bool u2) (by first | assumption | go_simp)
       have s3 := keep hb6 (b := w5.heap.size) (o := 3) (x := .bool u3) (by first | assumption | go_simp)
       have s4 := keep hb6 (b := w5.heap.size) (o := 4) (x := .int .i64 u4) (by first | assumption | go_simp)
       have s5 := keep hb6 (b := w5.heap.size) (o := 5) (x := .int .i64 u5) (by first | assumption | go_simp)
       have s6 := keep hb6 (b := w5.heap.size) (o := 6) (x := .int .i64 u6) (by first | assumption | go_simp)
       have s7 := keep hb6 (b := w5.heap.size) (o := 7) (x := .int .i64 u7) (by first | assumption | go_simp)
       have s8 := keep hb6 (b := w5.heap.size) (o := 8) (x := .int .i64 u8) (by first | assumption | go_simp)
       have HB6 := hid (on HB5.out hb6)
       clear hb6)
    | (
       go_at_call 19; refine (hA _).mono ?_; rintro e w9 ⟨rfl, hb9⟩; clear hA))
  go_ret
  exact ⟨rfl, on HB6.out hb9⟩

set_option maxRecDepth 100000 in
theorem lifted (os : Os) (started : os.Started) (H : Type) (enc : TypeId × Value → H) :
    ReturnsInHanded {} Try.checked os 7 .any (Rows.atlasDecodesSpec.pre6 enc Try.prog Try.f7 Rows.atlasDecodesRow.domain false) (Rows.atlasDecodesSpec.post enc Try.prog Try.f7 false true false false) := by
  refine returnsInHanded_of_change_sized (C := Try.checked) own started (by kernel_rfl) Try.func7
    (ChangeSpec.witness6 (enc := enc) (C := Try.checked) false ⟨#[], #[.slice none 0 0], []⟩ 8 (by kernel_rfl) (by kernel_rfl) (by kernel_rfl) (by kernel_rfl)) ?_
  intro W base args ds gs before hval0 hW hcnd hsz0 _
  have hsz : (DataW.weightsEach Try.prog (Try.f7.params.toList ++ Rows.atlasDecodesSpec.plain.varTypes Try.prog) (ds ++ gs)).all (· ≤ reachBytes) = true := hsz0
  have hval : ∀ (j : Nat) t v, Try.f7.params[j]? = some t → args[j]? = some v → Value.okWide Try.prog W .any base t v := hval0
  have hW' := hW
  obtain ⟨p, q, hA0, hV, rfl, hfz, hnd⟩ := hW
  have hA : DataW.TrodAll enc Try.prog W 0 (fun _ => true) true Try.f7.params.toList args.toList ds p := hA0
  rw [Try.params7] at hA hval hsz
  obtain ⟨v0, vs0, d0, ds0, p0, q0, hargs, rfl, rfl, h0, r0⟩ := trodAll_cons hA
  obtain ⟨rfl, rfl, rfl⟩ := trodAll_nil r0
  obtain rfl : args = #[v0] := by cases args; simp_all
  obtain ⟨rfl, rfl⟩ := trodVars_none hV
  have k0 := h0
  have lt0 : ∀ x ∈ p0, x.block < W.heap.size := by obtain ⟨m, hm⟩ := k0; exact DataW.trod_lt m _ _ _ hm
  have s0 : ∀ x ∈ d0.weights Try.prog 52, x ≤ reachBytes := fun x hx => by
    have := List.all_eq_true.1 hsz x (DataW.weights_mem_each (j := 0) rfl rfl x hx)
    simpa using this
  obtain ⟨b0, nn0, cc0, rfl⟩ := okWide_slice Try.underlying52 (hval 0 52 v0 rfl rfl)
  obtain ⟨fu0, hf0⟩ := h0
  obtain ⟨a0, len0, cap0, f0, e0, w0⟩ := bytes_in hf0 s0
  simp [Value.cells] at e0
  obtain ⟨rfl, rfl, rfl⟩ := e0
  clear hA0 hval0
  refine (walk b0 nn0 cc0 f0 W w0).mono fun e W' ⟨he, bel⟩ => ?_
  subst he
  exact ⟨_, rfl, _, _, _, [], _, [], hW', trodAll_mk1 (shut_bool Try.underlying4 _), (trodAll_cons_mk (Below.trod laidOut (by kernel_rfl) (of_decide_eq_true (by kernel_rfl)) k0 bel lt0) trodAll_mk0), rfl, bel.frame _, fun h => by cases h⟩

theorem over : Rows.atlasDecodesRow.holds Try.pinned (OpenSpec.ofChange Rows.atlasDecodesSpec) :=
  OpenClaim.holds_of_wide 7 Try.f7 rfl rfl rfl rfl rfl rfl rfl ⟨rfl, rfl, rfl, rfl, rfl⟩ rfl rfl rfl rfl rfl (by kernel_rfl) Try.func7 (by kernel_rfl)
    (of_decide_eq_true (by kernel_rfl)) (by unfold Func.isWrapper; first | (rw [if_pos (by decide +kernel)]; kernel_rfl) | (rw [if_neg (by decide +kernel)]; exact ⟨rfl, rfl⟩))
    (fun os started H enc _ => lifted os started H enc)

theorem proved : Rows.AtlasDecodesSaid := over
#print axioms proved
end Go.Proofs.Ytnddhlkdemibgaa.atlasDecodes
