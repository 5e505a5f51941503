/-
  Whatever is read of any bytes, one thing behind the other, is just what stands there; what is wrong first stays so: 'mooringlaw05.WireReads' returns true and leaves its arguments as they were.
  Conditions: none.
-/
import Derived.Test.YtjodeceaogngfaaRows
import Derived.WalkKit
import Derived.ProofKit
import Derived.OpenShut
import Derived.SizedLaws
import Derived.ShutString
import Derived.ChangeOld
import Derived.Below
import Derived.Test.YtjodeceaogngfaaByRows
import Derived.Test.YtjodeceaogngfaaWiItem
import Derived.Test.YtjodeceaogngfaaWiBlock
import Derived.Test.YtjodeceaogngfaaWiReadsB
namespace Go.Proofs.Ytjodeceaogngfaa.wireReads
open Go.ChangeShapes Go.WideShapes Go.ChangeAt Go.RowKit By
open Wi
set_option linter.unusedVariables false
set_option linter.unusedSimpArgs false
set_option maxRecDepth 100000

theorem own : ownKnob Try.prog.godebug = none := by kernel_rfl
theorem laidOut : laidOutB Try.prog = true := by kernel_rfl

theorem both_start {w2 : World} {p n c cy B : Nat} {x y : Option Addr} {l : List Nat} (hp : PRd w2 p y n cy l 0) (hy : ∀ a, y = some a → a.block < w2.heap.size) (hx : Sl w2 x n c l) (hxB : ∀ a, x = some a → a.block < B) (hBp : B ≤ p) (hBw : B ≤ w2.heap.size) (hn : n ≤ 140737488355328) :
    Both (w2.alloc (.cells #[.slice x n c, .int .i64 0, .int .i64 0] 37)) p w2.heap.size y n cy x n c l 0 l 0 B := by
  have hb : Below w2.heap.size w2 (w2.alloc (.cells #[.slice x n c, .int .i64 0, .int .i64 0] 37)) := (Below.refl _ _).alloc (Nat.le_refl _) _
  have hpl := hp.lt
  exact ⟨hp.below hb, ⟨by simp, by simp, by simp, fun j => frozen_new _ _ _ j, hx.below hb, fun _ a ha => by have := hxB a ha; omega, Nat.zero_le _, hn⟩, rfl, by omega, fun a ha => by have := hy a ha; omega, fun a ha => by have := hxB a ha; omega, hBp, hBw⟩

set_option maxHeartbeats 2000000 in
set_option maxRecDepth 100000 in
theorem walk (x : Option Addr) (n c : Nat) (f : Nat → Nat) (a : Option Addr) (len cap : Nat) (D N : Nat → Int) (X : Nat → Option Addr) (Ln C : Nat → Nat) (F : Nat → Nat → Nat) (M : Nat → Int) (w : World) (h0 : BytesIn w x n c f) (hx : ∀ a, x = some a → a.block < w.heap.size) (h1 : ItemsIn w a len cap D N X Ln C F M) :
    Calls Try.prog 4 #[.slice x n c, .slice a len cap] w fun e w' => e = .returned (.bool true) ∧ Below w.heap.size w w' := by
  have hn : n ≤ 140737488351232 := by have := h0.le; have := h0.small; omega
  have hl := Sl.of_in h0
  obtain ⟨l, hll⟩ : ∃ l, l = (List.range n).map f := ⟨_, rfl⟩
  rw [← hll] at hl
  obtain ⟨R1, w1, hrun, ho1, hb1⟩ := push_list w w w.heap.size (.slice none 0 0) [] (OwnL.start w _) (Nat.le_refl _) (Below.refl _ _) x n c l hl (by simp; omega)
  rw [List.nil_append] at ho1
  obtain ⟨y1, c1, rfl, hy1, _⟩ := ho1.sl hl.lt
  rw [hl.len] at hrun hy1
  have hRd := read_any y1 n c1 l w1 hy1 (by omega)
  have hstart : ∀ w2 p y cy, w1.heap.size ≤ p → Below w1.heap.size w1 w2 → PRd w2 p y n cy l 0 → (∀ a, y = some a → w1.heap.size ≤ a.block ∧ a.block < w2.heap.size) → Both (w2.alloc (.cells #[.slice x n c, .int .i64 0, .int .i64 0] 37)) p w2.heap.size y n cy x n c l 0 l 0 w.heap.size ∧ Below w.heap.size w (w2.alloc (.cells #[.slice x n c, .int .i64 0, .int .i64 0] 37)) := fun w2 p y cy g1 g2 g3 g4 => by
    have hb2 := hb1.trans (g2.mono hb1.size)
    exact ⟨both_start g3 (fun a ha => (g4 a ha).2) (hl.below hb2) hx (Nat.le_trans hb1.size g1) hb2.size (by omega), hb2.alloc hb2.size _⟩
  have H1 : Hid (ItemsIn w a len cap D N X Ln C F M) := h1
  have hsm := h1.small
  clear h0 hx h1 hll hl ho1 hb1 hy1
  go_enter Try.func4, Try.ntmps4
  go_wp2_with (first
    | (at_builtin; refine wpList_append_run rfl _ _ 22 rfl _ _ rfl rfl hrun ?_; clear hrun)
    | (go_at_call 11; refine hRd.mono ?_; rintro e w2 ⟨p, yp, cp, rfl, g1, g2, g3, g4⟩; obtain ⟨hst, hsb⟩ := hstart w2 p yp cp g1 g2 g3 g4; clear hRd hstart g1 g2 g3 g4))
  go_loopw [8] (fun i wr => ∃ k : Nat, k ≤ len ∧ i = .int .i64 k ∧ Hid (∃ xp np cp t l' e, Both wr p w2.heap.size xp np cp x n c l t l' e w.heap.size ∧ Below w.heap.size w wr)) (fun i _ => len - (intOf i).toNat)
  case atStart => exact ⟨0, by omega, rfl, _, _, _, _, _, _, hst, hsb⟩
  case round =>
    obtain ⟨k, hk, rfl, HR⟩ := hrel
    clear hst hsb
    by_cases hlt : k < len
    · obtain ⟨xp, np, cq, t, l', e, hB, hb⟩ := HR.out
      rcases H1.out.row with h0 | ⟨b, o, rfl, hbl, hcells⟩
      · omega
      obtain ⟨f0, f1, f2, f3⟩ := hcells k hlt
      have k0 := (hb.cell (p := ⟨b, o + k * 4, none⟩) hbl).trans f0
      have k1 := (hb.cell (p := ⟨b, o + k * 4 + 1, none⟩) hbl).trans f1
      have k2 := (hb.cell (p := ⟨b, o + k * 4 + 2, none⟩) hbl).trans f2
      have k3 := (hb.cell (p := ⟨b, o + k * 4 + 3, none⟩) hbl).trans f3
      have hM := bounds_i64 (H1.out.item k hlt).most
      have hcall := reads_any p w2.heap.size np cq n c t e w.heap.size (Ln k) (C k) xp x (X k) l l' (D k) (N k) (M k) wr hB (by omega) (by omega)
      have HB : Hid (Below w.heap.size w wr) := hb
      clear hB hb HR f0 f1 f2 f3 hcells
      generalize D k = D1 at *
      generalize N k = N1 at *
      generalize X k = X1 at *
      generalize Ln k = L1 at *
      generalize C k = C1 at *
      generalize M k = M1 at *
      go_wp2_with (go_at_call 12; refine hcall.mono ?_; rintro e w4 ⟨rfl, hA⟩; clear hcall)
      go_roundw
      case rel =>
        obtain ⟨⟨xp', np', cp', t', l2, e2, hB2⟩, hb2⟩ := hA
        exact ⟨k + 1, by omega, by go_num, xp', np', cp', t', l2, e2, hB2, HB.out.trans hb2⟩
      case measure => simp [intOf]; omega
    · have hk2 : k = len := by omega
      subst hk2
      obtain ⟨_, _, _, _, _, _, _, hb⟩ := HR.out
      have HB : Hid (Below w.heap.size w wr) := hb
      clear HR hb
      go_wp2_with (go_at_call 10; refine (awake_any _).mono ?_; rintro e w9 ⟨rfl, hb9⟩)
      go_ret
      exact ⟨rfl, HB.out.trans (hb9.mono HB.out.size)⟩

set_option maxRecDepth 100000 in
theorem lifted (os : Os) (started : os.Started) (H : Type) (enc : TypeId × Value → H) :
    ReturnsInHanded {} Try.checked os 4 .any (Rows.wireReadsSpec.pre6 enc Try.prog Try.f4 Rows.wireReadsRow.domain false) (Rows.wireReadsSpec.post enc Try.prog Try.f4 false true false false) := by
  refine returnsInHanded_of_change_sized (C := Try.checked) own started (by kernel_rfl) Try.func4
    (ChangeSpec.witness6 (enc := enc) (C := Try.checked) false ⟨#[], #[.slice none 0 0, .slice none 0 0], []⟩ 8 (by kernel_rfl) (by kernel_rfl) (by kernel_rfl) (by kernel_rfl)) ?_
  intro W base args ds gs before hval0 hW hcnd hsz0 _
  have hsz : (DataW.weightsEach Try.prog (Try.f4.params.toList ++ Rows.wireReadsSpec.plain.varTypes Try.prog) (ds ++ gs)).all (· ≤ reachBytes) = true := hsz0
  have hval : ∀ (j : Nat) t v, Try.f4.params[j]? = some t → args[j]? = some v → Value.okWide Try.prog W .any base t v := hval0
  have hW' := hW
  obtain ⟨p, q, hA0, hV, rfl, hfz, hnd⟩ := hW
  have hA : DataW.TrodAll enc Try.prog W 0 (fun _ => true) true Try.f4.params.toList args.toList ds p := hA0
  rw [Try.params4] at hA hval hsz
  obtain ⟨v0, vs0, d0, ds0, p0, q0, hargs, rfl, rfl, h0, r0⟩ := trodAll_cons hA
  obtain ⟨v1, vs1, d1, ds1, p1, q1, rfl, rfl, rfl, h1, r1⟩ := trodAll_cons r0
  obtain ⟨rfl, rfl, rfl⟩ := trodAll_nil r1
  obtain rfl : args = #[v0, v1] := by cases args; simp_all
  obtain ⟨rfl, rfl⟩ := trodVars_none hV
  have k0 := h0
  have lt0 : ∀ x ∈ p0, x.block < W.heap.size := by obtain ⟨m, hm⟩ := k0; exact DataW.trod_lt m _ _ _ hm
  have s0 : ∀ x ∈ d0.weights Try.prog 22, x ≤ reachBytes := fun x hx => by
    have := List.all_eq_true.1 hsz x (DataW.weights_mem_each (j := 0) rfl rfl x hx)
    simpa using this
  obtain ⟨b0, nn0, cc0, rfl⟩ := okWide_slice Try.underlying22 (hval 0 22 v0 rfl rfl)
  obtain ⟨fu0, hf0⟩ := h0
  obtain ⟨a0, len0, cap0, f0, e0, w0⟩ := bytes_in hf0 s0
  simp [Value.cells] at e0
  obtain ⟨rfl, rfl, rfl⟩ := e0
  have k1 := h1
  have lt1 : ∀ x ∈ p1, x.block < W.heap.size := by obtain ⟨m, hm⟩ := k1; exact DataW.trod_lt m _ _ _ hm
  have s1 : ∀ x ∈ d1.weights Try.prog 23, x ≤ reachBytes := fun x hx => by
    have := List.all_eq_true.1 hsz x (DataW.weights_mem_each (j := 1) rfl rfl x hx)
    simpa using this
  obtain ⟨b1, nn1, cc1, rfl⟩ := okWide_slice Try.underlying23 (hval 1 23 v1 rfl rfl)
  obtain ⟨fu1, hf1⟩ := h1
  obtain ⟨a1, len1, cap1, D1, N1, X1, L1, C1, F1, M1, e1, w1⟩ := items_in hf1 s1
  simp [Value.cells] at e1
  obtain ⟨rfl, rfl, rfl⟩ := e1
  clear hA0 hval0
  refine (walk b0 nn0 cc0 f0 b1 nn1 cc1 D1 N1 X1 L1 C1 F1 M1 W w0 (slice_block (hval 0 22 _ rfl rfl)) w1).mono fun e W' ⟨he, bel⟩ => ?_
  subst he
  exact ⟨_, rfl, _, _, _, [], _, [], hW', trodAll_mk1 (shut_bool Try.underlying4 _), (trodAll_cons_mk (Below.trod laidOut (by kernel_rfl) (of_decide_eq_true (by kernel_rfl)) k0 bel lt0) (trodAll_cons_mk (Below.trod laidOut (by kernel_rfl) (of_decide_eq_true (by kernel_rfl)) k1 bel lt1) trodAll_mk0)), rfl, bel.frame _, fun h => by cases h⟩

theorem over : Rows.wireReadsRow.holds Try.pinned (OpenSpec.ofChange Rows.wireReadsSpec) :=
  OpenClaim.holds_of_wide 4 Try.f4 rfl rfl rfl rfl rfl rfl rfl ⟨rfl, rfl, rfl, rfl, rfl⟩ rfl rfl rfl rfl rfl (by kernel_rfl) Try.func4 (by kernel_rfl)
    (of_decide_eq_true (by kernel_rfl)) (by unfold Func.isWrapper; first | (rw [if_pos (by decide +kernel)]; kernel_rfl) | (rw [if_neg (by decide +kernel)]; exact ⟨rfl, rfl⟩))
    (fun os started H enc _ => lifted os started H enc)

theorem proved : Rows.WireReadsSaid := over
#print axioms proved
end Go.Proofs.Ytjodeceaogngfaa.wireReads
