/-
  Which shards are no object's, and why: 'mooringlaw20.StripeRefuses' returns true and leaves its arguments as they were.
  Conditions: none.
-/
import Derived.Test.YtmlaloadeeohbaaRows
import Derived.WalkKit
import Derived.ProofKit
import Derived.OpenShut
import Derived.SizedLaws
import Derived.ShutString
import Derived.ChangeOld
import Derived.Below
import Derived.Test.YtmlaloadeeohbaaJSpPlain
import Derived.Test.YtmlaloadeeohbaaJSpRfA
namespace Go.Proofs.Ytmlaloadeeohbaa.stripeRefuses
open Go.ChangeShapes Go.WideShapes Go.ChangeAt Go.RowKit
open Gf Rf
set_option linter.unusedVariables false

theorem own : ownKnob Try.prog.godebug = none := by kernel_rfl
theorem laidOut : laidOutB Try.prog = true := by kernel_rfl

theorem walk (K M : Int) (a : Option Addr) (len cap : Nat) (y : Option Addr) (nh ch : Nat) (f : Nat → Nat) (h : Nat → Bool) (n : Int) (x : Option Addr) (ns cs : Nat) (A : Nat → Option Addr) (L C : Nat → Nat) (F : Nat → Nat → Nat) (w : World) (g : SLostIn w K M a len cap y nh ch f h) (hn : (Lit.int .i64 n).wf = true) (g2 : GridIn w x ns cs A L C F) :
    Calls Try.prog 5 #[.agg #[.int .i64 K, .int .i64 M, .slice a len cap, .slice y nh ch], .int .i64 n, .slice x ns cs] w fun e w' => e = .returned (.bool true) ∧ Below w.heap.size w w' := by
  have bm := bounds_i64 g.m
  by_cases hc : CauchyN K M
  · obtain ⟨k, m, rfl, rfl, h1, h2, h3⟩ := code_nat hc
    by_cases hne : ns ≠ nh
    · by_cases hn0 : n < 0
      · exact negative k m n a len cap x y ns cs nh ch w h1 h2 h3 hn0 (fun v => join_len k m n x y ns cs nh ch v h1 h2 h3 (by omega))
      · exact unlike k m n a len cap x y ns cs nh ch w h1 h2 h3 hn0 hne (fun v => join_len k m n x y ns cs nh ch v h1 h2 h3 (by omega))
    · obtain rfl : ns = nh := by omega
      by_cases hs : ns = k + m
      · subst hs
        by_cases hn0 : n < 0
        · exact negative k m n a len cap x y (k + m) cs (k + m) ch w h1 h2 h3 hn0 (fun v => join_arg k m n 1 x y cs ch v h1 h2 h3 (by omega) (length_arg k n v (by omega)))
        · by_cases hn4 : 4096 < n
          · exact long k m n a len cap x y (k + m) cs ch w h1 h2 h3 hn0 hn4 rfl (fun v => join_arg k m n 3 x y cs ch v h1 h2 h3 (by omega) (length_long k n v (by omega) (by omega) hn0 hn4))
          · obtain ⟨N, rfl⟩ : ∃ N : Nat, n = N := ⟨n.toNat, by omega⟩
            obtain ⟨xb, xo, rfl, _⟩ := grid_some g2.grid (by omega)
            have hH := g.have_.row
            obtain ⟨yb, yo, rfl⟩ : ∃ yb yo, y = some ⟨yb, yo, none⟩ := by
              rcases hH with h0 | ⟨yb, yo, e, _⟩
              · omega
              · exact ⟨yb, yo, e⟩
            by_cases hx : ∀ i, i < k + m → h i = true → L i = 16 * stN k N
            · obtain ⟨c, gg, hP⟩ := plc_exists h (k + m)
              by_cases hck : c < k
              · exact few k m N c gg a len cap xb xo cs yb yo ch F A L C h w h1 h2 h3 (by omega) g2.grid hH hx hP hck
              · by_cases hy : ∀ p, N ≤ p → p < k * (16 * stN k N) → toldF k m gg F p = 0
                · exact gives k m N c gg a len cap xb xo cs yb yo ch F A L C h w h1 h2 h3 (by omega) g2.grid hH hx hP (by omega) hy
                · exact turned k m N c gg a len cap xb xo cs yb yo ch F A L C h w h1 h2 h3 (by omega) g2.grid hH hx hP (by omega) hy
            · exact badlen k m N a len cap xb xo cs yb yo ch F A L C h w h1 h2 h3 (by omega) g2.grid hH hx
      · by_cases hn0 : n < 0
        · exact negative k m n a len cap x y ns cs ns ch w h1 h2 h3 hn0 (fun v => join_len k m n x y ns cs ns ch v h1 h2 h3 (by omega))
        · exact many k m n a len cap x y ns cs ch w h1 h2 h3 hn0 hs (fun v => join_len k m n x y ns cs ns ch v h1 h2 h3 (by omega))
  · exact nocode K M n a len cap x y ns cs nh ch w hc (fun v => join_code K M n x y ns cs nh ch v bm.2 hc)

set_option maxRecDepth 100000 in
theorem lifted (os : Os) (started : os.Started) (H : Type) (enc : TypeId × Value → H) :
    ReturnsInHanded {} Try.checked os 5 .any (Rows.stripeRefusesSpec.pre6 enc Try.prog Try.f5 Rows.stripeRefusesRow.domain false) (Rows.stripeRefusesSpec.post enc Try.prog Try.f5 false true false false) := by
  refine returnsInHanded_of_change_sized (C := Try.checked) own started (by kernel_rfl) Try.func5
    (ChangeSpec.witness6 (enc := enc) (C := Try.checked) false ⟨#[], #[.agg #[.int .i64 0, .int .i64 0, .slice none 0 0, .slice none 0 0], .int .i64 0, .slice none 0 0], []⟩ 8 (by kernel_rfl) (by kernel_rfl) (by kernel_rfl) (by kernel_rfl)) ?_
  intro W base args ds gs before hval0 hW hcnd hsz0 _
  have hsz : (DataW.weightsEach Try.prog (Try.f5.params.toList ++ Rows.stripeRefusesSpec.plain.varTypes Try.prog) (ds ++ gs)).all (· ≤ reachBytes) = true := hsz0
  have hval : ∀ (j : Nat) t v, Try.f5.params[j]? = some t → args[j]? = some v → Value.okWide Try.prog W .any base t v := hval0
  have hW' := hW
  obtain ⟨p, q, hA0, hV, rfl, hfz, hnd⟩ := hW
  have hA : DataW.TrodAll enc Try.prog W 0 (fun _ => true) true Try.f5.params.toList args.toList ds p := hA0
  rw [Try.params5] at hA hval hsz
  obtain ⟨v0, vs0, d0, ds0, p0, q0, hargs, rfl, rfl, h0, r0⟩ := trodAll_cons hA
  obtain ⟨v1, vs1, d1, ds1, p1, q1, rfl, rfl, rfl, h1, r1⟩ := trodAll_cons r0
  obtain ⟨v2, vs2, d2, ds2, p2, q2, rfl, rfl, rfl, h2, r2⟩ := trodAll_cons r1
  obtain ⟨rfl, rfl, rfl⟩ := trodAll_nil r2
  obtain rfl : args = #[v0, v1, v2] := by cases args; simp_all
  obtain ⟨rfl, rfl⟩ := trodVars_none hV
  have k0 := h0
  have lt0 : ∀ x ∈ p0, x.block < W.heap.size := by obtain ⟨m, hm⟩ := k0; exact DataW.trod_lt m _ _ _ hm
  have s0 : ∀ x ∈ d0.weights Try.prog 35, x ≤ reachBytes := fun x hx => by
    have := List.all_eq_true.1 hsz x (DataW.weights_mem_each (j := 0) rfl rfl x hx)
    simpa using this
  obtain ⟨K0, M0, a0, len0, cap0, y0, q0, c0, f0, g0, rfl, w0⟩ := slost_in (okWide_struct Try.underlying35 (hval 0 35 v0 rfl rfl)) h0 s0
  obtain ⟨a1, rfl, rfl, rfl, w1⟩ := open_int Try.underlying3 (hval 1 3 v1 rfl rfl) h1
  have k2 := h2
  have lt2 : ∀ x ∈ p2, x.block < W.heap.size := by obtain ⟨m, hm⟩ := k2; exact DataW.trod_lt m _ _ _ hm
  have s2 : ∀ x ∈ d2.weights Try.prog 28, x ≤ reachBytes := fun x hx => by
    have := List.all_eq_true.1 hsz x (DataW.weights_mem_each (j := 2) rfl rfl x hx)
    simpa using this
  obtain ⟨b2, nn2, cc2, rfl⟩ := okWide_slice Try.underlying28 (hval 2 28 v2 rfl rfl)
  obtain ⟨fu2, hf2⟩ := h2
  obtain ⟨a2, len2, cap2, A2, L2, C2, f2, e2, w2⟩ := grid_in hf2 s2
  simp [Value.cells] at e2
  obtain ⟨rfl, rfl, rfl⟩ := e2
  clear hA0 hval0
  refine (walk K0 M0 a0 len0 cap0 y0 q0 c0 f0 g0 a1 b2 nn2 cc2 A2 L2 C2 f2 W w0 w1 w2).mono fun e W' ⟨he, bel⟩ => ?_
  subst he
  exact ⟨_, rfl, _, _, _, [], _, [], hW', trodAll_mk1 (shut_bool Try.underlying4 _), (trodAll_cons_mk (Below.trod laidOut (by kernel_rfl) (of_decide_eq_true (by kernel_rfl)) k0 bel lt0) (trodAll_cons_mk (shut_int Try.underlying3 w1) (trodAll_cons_mk (Below.trod laidOut (by kernel_rfl) (of_decide_eq_true (by kernel_rfl)) k2 bel lt2) trodAll_mk0))), rfl, bel.frame _, fun h => by cases h⟩

theorem over : Rows.stripeRefusesRow.holds Try.pinned (OpenSpec.ofChange Rows.stripeRefusesSpec) :=
  OpenClaim.holds_of_wide 5 Try.f5 rfl rfl rfl rfl rfl rfl rfl ⟨rfl, rfl, rfl, rfl, rfl⟩ rfl rfl rfl rfl rfl (by kernel_rfl) Try.func5 (by kernel_rfl)
    (of_decide_eq_true (by kernel_rfl)) (by unfold Func.isWrapper; first | (rw [if_pos (by decide +kernel)]; kernel_rfl) | (rw [if_neg (by decide +kernel)]; exact ⟨rfl, rfl⟩))
    (fun os started H enc _ => lifted os started H enc)

theorem proved : Rows.StripeRefusesSaid := over
#print axioms proved
end Go.Proofs.Ytmlaloadeeohbaa.stripeRefuses
