/-
  Of any bytes, which batch they are, or that they are none: 'mooringlaw09.StoreDecodes' returns true and leaves its argument as it was.
  Conditions: none.
-/
import Derived.Test.YtbbjklenpgkooaaGreatRows
import Derived.WalkKit
import Derived.ProofKit
import Derived.OpenShut
import Derived.SizedLaws
import Derived.ShutString
import Derived.ChangeOld
import Derived.Below
import Derived.Test.YtbbjklenpgkooaaGreatJ01
import Derived.Test.YtbbjklenpgkooaaGreatJ11
import Derived.ChangeMaps5
import Derived.Test.YtbbjklenpgkooaaGreatJ14
import Derived.Test.YtbbjklenpgkooaaGreatJ16
namespace Go.Proofs.YtbbjklenpgkooaaGreat.storeDecodes
open Go.ChangeShapes Go.WideShapes Go.ChangeAt Go.RowKit By Go.ChangeMaps
open Wi St
set_option linter.unusedVariables false
set_option linter.unusedSimpArgs false
set_option maxRecDepth 100000

theorem own : ownKnob Tryz.prog.godebug = none := by kernel_rfl
theorem laidOut : laidOutB Tryz.prog = true := by kernel_rfl

set_option maxHeartbeats 1000000 in
theorem walk (x : Option Addr) (n c : Nat) (f : Nat → Nat) (w : World) (h : BytesIn w x n c f) (hx : ∀ a, x = some a → a.block < w.heap.size) :
    Calls Tryz.prog 3 #[.slice x n c] w fun e w' => e = .returned (.bool true) ∧ Below w.heap.size w w' := by
  have hn : n ≤ 140737488351232 := by have := h.le; have := h.small; omega
  have hl := Sl.of_in h
  obtain ⟨l, hll⟩ : ∃ l, l = (List.range n).map f := ⟨_, rfl⟩
  rw [← hll] at hl
  clear h hll
  by_cases hlong : 32768 < n
  · have q0 : (32768 : Int) < (n : Int) := by omega
    clear hl hx
    go_enter Tryz.func3, Tryz.ntmps3
    go_wp2_with (go_at_call 6; refine (sawake _).mono ?_; rintro e w9 ⟨rfl, hb9⟩)
    go_ret
    exact ⟨rfl, hb9⟩
  · have q0 : ¬ (32768 : Int) < (n : Int) := by omega
    obtain ⟨cc, acts, hS⟩ := dec_says l
    have hb1 : Below w.heap.size w (w.alloc (.cells #[] 5)) := (Below.refl _ _).alloc (Nat.le_refl _) _
    obtain ⟨R, w1, hap, ho, hb⟩ := push_list (w.alloc (.cells #[] 5)) w w.heap.size (.slice (some ⟨w.heap.size, 0, none⟩) 0 0) [] (empty_bytes w) (by simp) hb1 x n c l (hl.below hb1) (by simp; omega)
    rw [List.nil_append] at ho
    obtain ⟨y, cy, rfl, hy, _⟩ := ho.sl hl.lt
    rw [hl.len] at hap hy
    have hD : Calls Tryz.prog 7 #[.slice y n cy] w1 fun e w2 => ∃ a m cm, e = .returned (.tuple #[.slice a m cm, .int .i64 (cc : Int)]) ∧
        Calls Tryz.prog 8 #[.slice x n c] w2 fun e w3 => ∃ a2 c2, e = .returned (.tuple #[.slice a2 m c2, .int .i64 (cc : Int)]) ∧
          Calls Tryz.prog 9 #[.slice a m cm, .slice a2 m c2] w3 fun e w4 => e = .returned (.bool true) ∧ Hid (Below w.heap.size w w4) := by
      refine (decode_any y n cy l w1 hy (by omega) cc acts hS).mono fun e w2 ⟨a, m, cm, V, h1, h2, h3, _, h4⟩ => ⟨a, m, cm, h1, ?_⟩
      have hb2 : Below w.heap.size w w2 := hb.trans (h4.2.2.2.mono hb.size)
      refine (rdecode_any x n c l w2 (hl.below hb2) (fun ad ha => by have := hx ad ha; have := hb2.size; omega) (by omega) cc acts hS).mono fun e w3 ⟨a2, m2, c2, V2, g1, g2, g3, _, g4⟩ => ?_
      have hm : m2 = m := by
        have := congrArg List.length (g3.trans h3.symm)
        rwa [pas_len, pas_len] at this
      subst hm
      have hb3 : Below w.heap.size w w3 := hb2.trans (g4.2.2.2.mono hb2.size)
      exact ⟨a2, c2, g1, (rsame_yes a a2 m2 cm c2 V V2 w3 (h4.1.below g4.2.2.2) g4.1 (h3.trans g3.symm) (by omega)).mono fun e w4 ⟨e4, b4⟩ => ⟨e4, hb3.trans (b4.mono hb3.size)⟩⟩
    clear hl hx hS hb1 ho hb hy hlong
    go_enter Tryz.func3, Tryz.ntmps3
    go_wp2_with (first
      | (at_builtin; refine wpList_append_run rfl _ _ 22 rfl _ _ rfl rfl hap ?_; clear hap)
      | (go_at_call 7; refine hD.mono ?_; rintro e w2 ⟨a, m, cm, rfl, hR⟩; clear hD)
      | (go_at_call 8; refine hR.mono ?_; rintro e w3 ⟨a2, c2, rfl, hSm⟩; clear hR)
      | (go_at_call 9; refine hSm.mono ?_; rintro e w4 ⟨rfl, HB4⟩; clear hSm)
      | (go_at_call 6; refine (sawake _).mono ?_; rintro e w9 ⟨rfl, hb9⟩))
    go_ret
    exact ⟨rfl, HB4.out.trans (hb9.mono HB4.out.size)⟩

set_option maxRecDepth 100000 in
theorem lifted (os : Os) (started : os.Started) (H : Type) (enc : TypeId × Value → H) :
    ReturnsInHanded {} Tryz.checked os 3 .any (Rows.storeDecodesSpec.pre6 enc Tryz.prog Tryz.f3 Rows.storeDecodesRow.domain false) (Rows.storeDecodesSpec.post enc Tryz.prog Tryz.f3 false true false false) := by
  refine returnsInHanded_of_change_sized (C := Tryz.checked) own started (by kernel_rfl) Tryz.func3
    (ChangeSpec.witness6 (enc := enc) (C := Tryz.checked) false ⟨#[], #[.slice none 0 0], []⟩ 8 (by kernel_rfl) (by kernel_rfl) (by kernel_rfl) (by kernel_rfl)) ?_
  intro W base args ds gs before hval0 hW hcnd hsz0 _
  have hsz : (DataW.weightsEach Tryz.prog (Tryz.f3.params.toList ++ Rows.storeDecodesSpec.plain.varTypes Tryz.prog) (ds ++ gs)).all (· ≤ reachBytes) = true := hsz0
  have hval : ∀ (j : Nat) t v, Tryz.f3.params[j]? = some t → args[j]? = some v → Value.okWide Tryz.prog W .any base t v := hval0
  have hW' := hW
  obtain ⟨p, q, hA0, hV, rfl, hfz, hnd⟩ := hW
  have hA : DataW.TrodAll enc Tryz.prog W 0 (fun _ => true) true Tryz.f3.params.toList args.toList ds p := hA0
  rw [Tryz.params3] at hA hval hsz
  obtain ⟨v0, vs0, d0, ds0, p0, q0, hargs, rfl, rfl, h0, r0⟩ := trodAll_cons hA
  obtain ⟨rfl, rfl, rfl⟩ := trodAll_nil r0
  obtain rfl : args = #[v0] := by cases args; simp_all
  obtain ⟨rfl, rfl⟩ := trodVars_none hV
  have k0 := h0
  have lt0 : ∀ x ∈ p0, x.block < W.heap.size := by obtain ⟨m, hm⟩ := k0; exact DataW.trod_lt m _ _ _ hm
  have s0 : ∀ x ∈ d0.weights Tryz.prog 22, x ≤ reachBytes := fun x hx => by
    have := List.all_eq_true.1 hsz x (DataW.weights_mem_each (j := 0) rfl rfl x hx)
    simpa using this
  obtain ⟨b0, nn0, cc0, rfl⟩ := okWide_slice Tryz.underlying22 (hval 0 22 v0 rfl rfl)
  obtain ⟨fu0, hf0⟩ := h0
  obtain ⟨a0, len0, cap0, f0, e0, w0⟩ := bytes_in hf0 s0
  simp [Value.cells] at e0
  obtain ⟨rfl, rfl, rfl⟩ := e0
  clear hA0 hval0
  refine (walk b0 nn0 cc0 f0 W w0 (st_block (hval 0 22 _ rfl rfl))).mono fun e W' ⟨he, bel⟩ => ?_
  subst he
  exact ⟨_, rfl, _, _, _, [], _, [], hW', trodAll_mk1 (shut_bool Tryz.underlying4 _), (trodAll_cons_mk (Below.trod laidOut (by kernel_rfl) (of_decide_eq_true (by kernel_rfl)) k0 bel lt0) trodAll_mk0), rfl, bel.frame _, fun h => by cases h⟩

theorem over : Rows.storeDecodesRow.holds Tryz.pinned (OpenSpec.ofChange Rows.storeDecodesSpec) :=
  OpenClaim.holds_of_wide 3 Tryz.f3 rfl rfl rfl rfl rfl rfl rfl ⟨rfl, rfl, rfl, rfl, rfl⟩ rfl rfl rfl rfl rfl (by kernel_rfl) Tryz.func3 (by kernel_rfl)
    (of_decide_eq_true (by kernel_rfl)) (by unfold Func.isWrapper; first | (rw [if_pos (by decide +kernel)]; kernel_rfl) | (rw [if_neg (by decide +kernel)]; exact ⟨rfl, rfl⟩))
    (fun os started H enc _ => lifted os started H enc)

theorem proved : Rows.StoreDecodesSaid := over
#print axioms proved
end Go.Proofs.YtbbjklenpgkooaaGreat.storeDecodes
