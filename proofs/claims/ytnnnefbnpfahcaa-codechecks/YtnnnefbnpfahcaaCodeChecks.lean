/-
  Of any shards package code tells what the document does: whether they are a codeword: 'mooringlaw03.CodeChecks' returns true and leaves its arguments as they were.
  Conditions: none.
-/
import Derived.Test.YtnnnefbnpfahcaaRows
import Derived.WalkKit
import Derived.ProofKit
import Derived.OpenShut
import Derived.SizedLaws
import Derived.ShutString
import Derived.ChangeOld
import Derived.Below
import Derived.Test.YtnnnefbnpfahcaaCdLaw
namespace Go.Proofs.Ytnnnefbnpfahcaa.codeChecks
open Go.ChangeShapes Go.WideShapes Go.ChangeAt Go.RowKit
open Gf
set_option linter.unusedVariables false

theorem own : ownKnob Try.prog.godebug = none := by kernel_rfl
theorem laidOut : laidOutB Try.prog = true := by kernel_rfl

set_option maxHeartbeats 2000000 in
set_option maxRecDepth 100000 in
theorem bad (a0 a1 : Int) (a : Option Addr) (len cap : Nat) (A : Nat → Option Addr) (L C : Nat → Nat) (f : Nat → Nat → Nat) (w : World) (g : GridIn w a len cap A L C f) (hx : ¬ (CauchyN a0 a1 ∧ (len : Int) = a0 + a1 ∧ EqN len L)) :
    Calls Try.prog 4 #[.int .i64 a0, .int .i64 a1, .slice a len cap] w fun e w' => e = .returned (.bool true) ∧ Below w.heap.size w w' := by
  have hs := g.small
  have hl := light_any a0 a1 a len cap A L C w g.grid.1 g.row
  have he := ccheck_no a0 a1 a len cap A L C w (by omega) g.grid.1 hx
  have hr : ∀ v, Below w.heap.size w v → Calls Try.prog 14 #[.int .i64 a0, .int .i64 a1, .slice a len cap] v fun e w' => e = .returned (.tuple #[.bool false, .int .i64 1]) ∧ Below v.heap.size v w' := fun v hv => rcheck_no a0 a1 a len cap A L C v (by omega) (g.grid.1.below (Nat.le_refl _) hv) hx
  clear g hx
  go_enter Try.func4, Try.ntmps4
  go_wp2_with (first
    | (go_at_call 8; refine hl.mono ?_; rintro e w' ⟨rfl, t, rfl, _⟩; clear hl)
    | (go_at_call 13; refine he.mono ?_; rintro e x1 ⟨rfl, hb1⟩; clear he)
    | (go_at_call 14; refine (hr _ hb1).mono ?_; rintro e x2 ⟨rfl, hb2⟩; clear hr; have hb02 := hb1.trans (hb2.mono hb1.size))
    | (go_at_call 9; refine (awake3 _).mono ?_; rintro e x6 ⟨rfl, hb6⟩))
  · go_ret
    exact ⟨rfl, hb6⟩
  · go_ret
    exact ⟨rfl, hb02.trans (hb6.mono hb02.size)⟩

set_option maxHeartbeats 2000000 in
set_option maxRecDepth 100000 in
theorem good (k m b o n s cap : Nat) (t0 : Bool) (A : Nat → Option Addr) (C : Nat → Nat) (f : Nat → Nat → Nat) (w : World) (h1 : 1 ≤ k) (h2 : 1 ≤ m) (h3 : k + m ≤ 255) (hn : n ≤ 140737488351232) (hc : k + m ≤ cap) (hs : s = k + m) (g : IsGrid w (some ⟨b, o, none⟩) (k + m) A (fun _ => n) C f)
    (hy : (∀ r, r < m → ∀ j, j < n → encF k m f (k + r) j = f (k + r) j) → t0 = true) (hx : ∀ r, r < m → ¬ (∀ j, j < n → encF k m f (k + r) j = f (k + r) j) → t0 = false) :
    Calls Try.prog 4 #[.int .i64 k, .int .i64 m, .slice (some ⟨b, o, none⟩) s cap] w fun e w' => e = .returned (.bool true) ∧ Below w.heap.size w w' := by
  have hl := light_any k m (some ⟨b, o, none⟩) (k + m) cap A (fun _ => n) C w g.1 (fun _ _ => hn)
  have he := ccheck_yes k m n b o cap t0 A C f w h1 h2 h3 hn hc g hy hx
  have hr : ∀ v, Below w.heap.size w v → Calls Try.prog 14 #[.int .i64 k, .int .i64 m, .slice (some ⟨b, o, none⟩) (k + m) cap] v fun e w' => e = .returned (.tuple #[.bool t0, .int .i64 0]) ∧ Below v.heap.size v w' := fun v hv => rcheck_yes k m n b o cap t0 A C f v h1 h2 h3 hn hc (g.below hv) hy hx
  rw [← hs] at he hl
  simp only [← hs] at hr
  have gt : (t0 == t0) = true := by simp
  clear g h1 h2 h3 hs hc hy hx
  go_enter Try.func4, Try.ntmps4
  go_wp2_with (first
    | (go_at_call 8; refine hl.mono ?_; rintro e w' ⟨rfl, t, rfl, _⟩; clear hl)
    | (go_at_call 13; refine he.mono ?_; rintro e x1 ⟨rfl, hb1⟩; clear he)
    | (go_at_call 14; refine (hr _ hb1).mono ?_; rintro e x2 ⟨rfl, hb2⟩; clear hr; have hb02 := hb1.trans (hb2.mono hb1.size))
    | (go_at_call 9; refine (awake3 _).mono ?_; rintro e x6 ⟨rfl, hb6⟩))
  · go_ret
    exact ⟨rfl, hb6⟩
  · go_ret
    exact ⟨rfl, hb02.trans (hb6.mono hb02.size)⟩

theorem walk (a0 a1 : Int) (a : Option Addr) (len cap : Nat) (A : Nat → Option Addr) (L C : Nat → Nat) (f : Nat → Nat → Nat) (w : World) (w0 : (Lit.int .i64 a0).wf = true) (w1 : (Lit.int .i64 a1).wf = true) (g : GridIn w a len cap A L C f) :
    Calls Try.prog 4 #[.int .i64 a0, .int .i64 a1, .slice a len cap] w fun e w' => e = .returned (.bool true) ∧ Below w.heap.size w w' := by
  by_cases h : CauchyN a0 a1 ∧ (len : Int) = a0 + a1 ∧ EqN len L
  · obtain ⟨hc, hl, he⟩ := h
    obtain ⟨k, m, rfl, rfl, h1, h2, h3⟩ := code_nat hc
    have hlen : len = k + m := by omega
    obtain ⟨b, o, rfl, _⟩ := grid_some g.grid (by omega)
    have hg := g.grid.congr (L' := fun _ => L 0) (fun r hr => he r hr) (fun _ _ _ _ => rfl) g.grid.2.2
    rw [hlen] at hg
    have hcap := g.le
    by_cases hall : ∀ r, r < m → ∀ j, j < L 0 → encF k m f (k + r) j = f (k + r) j
    · exact good k m b o (L 0) len cap true A C f w h1 h2 h3 (g.row 0 (by omega)) (by omega) hlen hg (fun _ => rfl) (fun r hr q => absurd (hall r hr) q)
    · exact good k m b o (L 0) len cap false A C f w h1 h2 h3 (g.row 0 (by omega)) (by omega) hlen hg (fun q => absurd q hall) (fun _ _ _ => rfl)
  · exact bad a0 a1 a len cap A L C f w g h

set_option maxRecDepth 100000 in
theorem lifted (os : Os) (started : os.Started) (H : Type) (enc : TypeId × Value → H) :
    ReturnsInHanded {} Try.checked os 4 .any (Rows.codeChecksSpec.pre6 enc Try.prog Try.f4 Rows.codeChecksRow.domain false) (Rows.codeChecksSpec.post enc Try.prog Try.f4 false true false false) := by
  refine returnsInHanded_of_change_sized (C := Try.checked) own started (by kernel_rfl) Try.func4
    (ChangeSpec.witness6 (enc := enc) (C := Try.checked) false ⟨#[], #[.int .i64 0, .int .i64 0, .slice none 0 0], []⟩ 8 (by kernel_rfl) (by kernel_rfl) (by kernel_rfl) (by kernel_rfl)) ?_
  intro W base args ds gs before hval0 hW hcnd hsz0 _
  have hsz : (DataW.weightsEach Try.prog (Try.f4.params.toList ++ Rows.codeChecksSpec.plain.varTypes Try.prog) (ds ++ gs)).all (· ≤ reachBytes) = true := hsz0
  have hval : ∀ (j : Nat) t v, Try.f4.params[j]? = some t → args[j]? = some v → Value.okWide Try.prog W .any base t v := hval0
  have hW' := hW
  obtain ⟨p, q, hA0, hV, rfl, hfz, hnd⟩ := hW
  have hA : DataW.TrodAll enc Try.prog W 0 (fun _ => true) true Try.f4.params.toList args.toList ds p := hA0
  rw [Try.params4] at hA hval hsz
  obtain ⟨v0, vs0, d0, ds0, p0, q0, hargs, rfl, rfl, h0, r0⟩ := trodAll_cons hA
  obtain ⟨v1, vs1, d1, ds1, p1, q1, rfl, rfl, rfl, h1, r1⟩ := trodAll_cons r0
  obtain ⟨v2, vs2, d2, ds2, p2, q2, rfl, rfl, rfl, h2, r2⟩ := trodAll_cons r1
  obtain ⟨rfl, rfl, rfl⟩ := trodAll_nil r2
  obtain rfl : args = #[v0, v1, v2] := by cases args; simp_all
  obtain ⟨rfl, rfl⟩ := trodVars_none hV
  obtain ⟨a0, rfl, rfl, rfl, w0⟩ := open_int Try.underlying3 (hval 0 3 v0 rfl rfl) h0
  obtain ⟨a1, rfl, rfl, rfl, w1⟩ := open_int Try.underlying3 (hval 1 3 v1 rfl rfl) h1
  have k2 := h2
  have lt2 : ∀ x ∈ p2, x.block < W.heap.size := by obtain ⟨m, hm⟩ := k2; exact DataW.trod_lt m _ _ _ hm
  have s2 : ∀ x ∈ d2.weights Try.prog 22, x ≤ reachBytes := fun x hx => by
    have := List.all_eq_true.1 hsz x (DataW.weights_mem_each (j := 2) rfl rfl x hx)
    simpa using this
  obtain ⟨b2, nn2, cc2, rfl⟩ := okWide_slice Try.underlying22 (hval 2 22 v2 rfl rfl)
  obtain ⟨fu2, hf2⟩ := h2
  obtain ⟨a2, len2, cap2, A2, L2, C2, f2, e2, w2⟩ := grid_in hf2 s2
  simp [Value.cells] at e2
  obtain ⟨rfl, rfl, rfl⟩ := e2
  clear hA0 hval0
  refine (walk a0 a1 b2 nn2 cc2 A2 L2 C2 f2 W w0 w1 w2).mono fun e W' ⟨he, bel⟩ => ?_
  subst he
  exact ⟨_, rfl, _, _, _, [], _, [], hW', trodAll_mk1 (shut_bool Try.underlying4 _), (trodAll_cons_mk (shut_int Try.underlying3 w0) (trodAll_cons_mk (shut_int Try.underlying3 w1) (trodAll_cons_mk (Below.trod laidOut (by kernel_rfl) (of_decide_eq_true (by kernel_rfl)) k2 bel lt2) trodAll_mk0))), rfl, bel.frame _, fun h => by cases h⟩

theorem over : Rows.codeChecksRow.holds Try.pinned (OpenSpec.ofChange Rows.codeChecksSpec) :=
  OpenClaim.holds_of_wide 4 Try.f4 rfl rfl rfl rfl rfl rfl rfl ⟨rfl, rfl, rfl, rfl, rfl⟩ rfl rfl rfl rfl rfl (by kernel_rfl) Try.func4 (by kernel_rfl)
    (of_decide_eq_true (by kernel_rfl)) (by unfold Func.isWrapper; first | (rw [if_pos (by decide +kernel)]; kernel_rfl) | (rw [if_neg (by decide +kernel)]; exact ⟨rfl, rfl⟩))
    (fun os started H enc _ => lifted os started H enc)

theorem proved : Rows.CodeChecksSaid := over
#print axioms proved
end Go.Proofs.Ytnnnefbnpfahcaa.codeChecks
