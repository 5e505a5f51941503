/-
  Of any K of an object's shards, and more, the object is told; of fewer that there is none: 'mooringlaw20.StripeJoins' returns true and leaves its arguments as they were.
  Conditions: none.
-/
import Derived.Test.YtmlaloadeeohbaaRows
import Derived.WalkKit
import Derived.ProofKit
import Derived.OpenShut
import Derived.SizedLaws
import Derived.ShutString
import Derived.ChangeOld
import Derived.Below
import Derived.Test.YtmlaloadeeohbaaJSpPlain
import Derived.Deep.Cut
namespace Go.Proofs.Ytmlaloadeeohbaa.stripeJoins
open Go.ChangeShapes Go.WideShapes Go.ChangeAt Go.RowKit
open Gf
set_option linter.unusedSimpArgs false
set_option maxRecDepth 100000
set_option linter.unusedVariables false

theorem own : ownKnob Try.prog.godebug = none := by kernel_rfl
theorem laidOut : laidOutB Try.prog = true := by kernel_rfl

set_option maxHeartbeats 400000 in
set_option maxRecDepth 100000 in
theorem bad (K M z : Int) (a : Option Addr) (len cap : Nat) (y : Option Addr) (q c : Nat) (w : World) (hz : z ≠ 0)
    (hr : ∀ v : World, Calls Try.prog 13 #[.int .i64 K, .int .i64 M, .slice a len cap] v fun e w' => e = .returned (.tuple #[.slice none 0 0, .int .i64 z]) ∧ w' = v) :
    Calls Try.prog 4 #[.agg #[.int .i64 K, .int .i64 M, .slice a len cap, .slice y q c]] w fun e w' => e = .returned (.bool true) ∧ Below w.heap.size w w' := by
  have g : (z != 0) = true := by simp [hz]
  clear hz
  go_enter Try.func4, Try.ntmps4
  go_wp2_with (first
    | (go_at_call 13; refine (hr _).mono ?_; rintro e x1 ⟨rfl, rfl⟩; clear hr)
    | (go_at_call 11; refine (awake_any _).mono ?_; rintro e x6 ⟨rfl, hb6⟩))
  go_ret
  exact ⟨rfl, ((Below.refl w.heap.size w).alloc (Nat.le_refl _) _).trans (hb6.mono (by simp))⟩

set_option maxHeartbeats 1000000 in
set_option maxRecDepth 100000 in
theorem good (k m n : Nat) (a : Option Addr) (cap : Nat) (y : Option Addr) (q c : Nat) (f : Nat → Nat) (h : Nat → Bool) (w : World) (h1 : 1 ≤ k) (h2 : 1 ≤ m) (h3 : k + m ≤ 255) (hn : n ≤ 4096) (hf : ∀ i, f i < 256) (hx : RowAt w a n f) (hh : BoolsIn w y q c h) :
    Calls Try.prog 4 #[.agg #[.int .i64 k, .int .i64 m, .slice a n cap, .slice y q c]] w fun e w' => e = .returned (.bool true) ∧ Below w.heap.size w w' := by
  obtain ⟨wb, hwb, hbb, hbs, hF⟩ := box4 w (.int .i64 k) (.int .i64 m) (.slice a n cap) (.slice y q c) 35
  have hr := rsplit_yes k m n cap a f wb h1 h2 h3 hn hf (hx.below hbb)
  have hl := fun v => slight_any k m v
  obtain ⟨s, hs⟩ : ∃ s, s = k + m := ⟨_, rfl⟩
  obtain ⟨E, hE⟩ : ∃ E, E = encF k m (dealF k n f) := ⟨_, rfl⟩
  rw [← hE, ← hs] at hr
  obtain ⟨cc, gg, hP⟩ := plc_exists (hadS h q) s
  have hEl : ∀ r j, E r j < 256 := by rw [hE]; exact encF_lt (dealF_lt hf)
  have hjoin : ∀ (v : World) g0 cy H A C F, IsGrid v (some ⟨g0, 0, none⟩) s A (someN (hadS h q) (fun _ => 16 * stN k n)) C F → F = E → BoolsAt v (some ⟨H, 0, none⟩) s (hadS h q) →
      Calls Try.prog 15 #[.int .i64 k, .int .i64 m, .int .i64 n, .slice (some ⟨g0, 0, none⟩) s cy, .slice (some ⟨H, 0, none⟩) s s] v fun e w' => Below v.heap.size v w' ∧
        ((cc < k ∧ e = .returned (.tuple #[.slice none 0 0, .int .i64 4])) ∨ (k ≤ cc ∧ ∃ G, e = .returned (.tuple #[.slice (some ⟨G, 0, none⟩) n n, .int .i64 0]) ∧ RowAt w' (some ⟨G, 0, none⟩) n f)) := fun v g0 cy H A C F hG hFE hH => by
    have hlen : ∀ i, i < k + m → hadS h q i = true → someN (hadS h q) (fun _ => 16 * stN k n) i = 16 * stN k n := fun i _ hi => by unfold someN; rw [hi]; rfl
    rw [hs] at hG hH hP ⊢
    by_cases hck : cc < k
    · exact (join_few k m n g0 0 H 0 cy (k + m) cc A _ C F (hadS h q) gg v h1 h2 h3 hn hG hH hlen hP hck).mono fun e w' ⟨e1, e2⟩ => ⟨e2, .inl ⟨hck, e1⟩⟩
    · have hT : ∀ p, p < k * (16 * stN k n) → toldF k m gg F p = if p < n then f p else 0 := fun p hp =>
        toldF_deal (c := cc) hf hG.2.2 h1 h3 (fun r hr => hP.lt r (by omega)) (fun r u hr hu e => hP.inj (by omega) (by omega) e) (fun r hr j _ => by rw [hFE, hE]) hp
      have hN := stN_all' (n := n) h1
      refine (join_yes k m n g0 0 H 0 cy (k + m) cc A _ C F (hadS h q) gg v h1 h2 h3 hn hG hH hlen hP (by omega) (fun p q1 q2 => by rw [hT p q2, if_neg (by omega)])).mono fun e w' ⟨e1, G, e2, e3⟩ => ⟨e1, .inr ⟨by omega, G, e2, ?_⟩⟩
      rcases e3 with e3 | ⟨gb, go, e3, e4, e5⟩
      · exact .inl e3
      · exact .inr ⟨gb, go, e3, e4, fun i hi => by rw [e5 i hi, hT i (by omega), if_pos hi]⟩
  generalize 16 * stN k n = L at hr hjoin
  have hmk := run_make_row' (P := Try.prog) 33 4 (.bool false) 1 Try.underlying33 info_b rfl .i64 .i64 s (by omega) (by omega)
  have hq9 := hh.small
  have hs0 : 0 < s := by omega
  have hs5 : s ≤ 255 := by omega
  have HF := hid hF
  have HB := hid (show Below w.heap.size w wb ∧ wb.heap.size = w.heap.size + 1 from ⟨hbb, hbs⟩)
  have HH := hid (show BoolsAt w y q h from hh.row)
  have HR := hid (show RowAt w a n f from hx)
  have HP := hid (show cc = cnt (hadS h q) s from hP.all)
  clear h1 h2 h3 hx hf hbb hs hF hbs hE hP hh hEl
  go_enter Try.func4, Try.ntmps4
  rw [hwb] at hr
  go_upto_region 4 with (first
    | (go_at_call 13; refine hr.mono ?_; rintro e x1 ⟨hb1, B1, c1, G1, C1, rfl, ho1⟩; clear hr; rw [← hwb] at hb1 ho1; obtain ⟨b0, b1, b2, _⟩ := HF.out x1 hb1; have HB1 := hid hb1; have HO1 := hid ho1; have HW := hid (HB.out.1.trans (hb1.mono HB.out.1.size)); clear hb1 ho1)
    | (go_at_call 10; refine (hl _).mono ?_; rintro e x2 ⟨rfl, t, rfl⟩; clear hl)
    | (go_at_call 11; refine (awake_any _).mono ?_; rintro e x6 ⟨rfl, hb6⟩))
  all_goals try (go_ret; exact ⟨rfl, HW.out.trans (hb6.mono HW.out.size)⟩)
  · clear b0 b1 b2 hwb
    go_wp2_with fail
    clear hmk
    have HA : Hid (Some_ x2 ((x2.alloc (.cells (madeCells #[.bool false] s) 4)).alloc (.cells #[] 22)) s 0 (.slice (some ⟨x2.heap.size + 1, 0, none⟩) 0 0) (hadS h q) G1 C1 L) := some_start x2 s L _ _ _
    go_loopw [6, 7, 8] (fun N V i wr => ∃ r : Nat, r ≤ s ∧ i = .int .i64 r ∧ (∃ S : Nat, S ≤ r ∧ N = .int .i64 S ∧ Hid (S = cnt (hadS h q) r)) ∧ Hid (Some_ x2 wr s r V (hadS h q) G1 C1 L)) (fun _ _ i _ => s - (intOf i).toNat)
    case atStart => exact ⟨0, by omega, rfl, ⟨0, by omega, rfl, rfl⟩, HA⟩
    case round =>
      clear HA
      obtain ⟨r, hr, rfl, ⟨S, hS, rfl, HS⟩, HW2⟩ := hrel
      have hbw : Below wb.heap.size wb wr := HB1.out.trans (HW2.out.below.mono HB1.out.size)
      by_cases hlt : r < s
      · have hrs : (r : Int) < (s : Int) := by omega
        have b3 : wr.cell? ⟨w.heap.size, 3, none⟩ = some (.slice y q c) := (HF.out wr hbw).2.2.2
        have hst1 : wr.cell? ⟨x2.heap.size, r, none⟩ = some (.bool false) := by
          have := HW2.out.have_.cell hlt
          rwa [if_neg (by omega)] at this
        have hst2 : wr.frozen? ⟨x2.heap.size, r, none⟩ = false := HW2.out.have_.frozen r
        have hwb2 : Below w.heap.size w wr := HW.out.trans (HW2.out.below.mono HW.out.size)
        have hS5 : S ≤ 255 := by omega
        have hl1 : ∀ v : Value, (wr.setCell ⟨x2.heap.size, r, none⟩ v).cell? ⟨B1, r, none⟩ = some (.slice (some ⟨G1 r, 0, none⟩) L (C1 r)) := fun v => by
          rw [World.cell?_setCell_other _ _ _ _ (fun h => by injection h with h _ _; have := HO1.out.hb.2; omega)]
          exact (HW2.out.below.cell (by exact HO1.out.hb.2)).trans (HO1.out.top r hlt)
        cases hd : hadS h q r with
        | true =>
          obtain ⟨V', w3, hrun, hN⟩ := some_put (u := .slice (some ⟨G1 r, 0, none⟩) L (C1 r)) HW2.out hlt hs5 (by unfold someV; rw [hd]; rfl)
          rw [hd] at hrun
          have HN := hid hN
          have HS2 : Hid (S + 1 = cnt (hadS h q) (r + 1)) := by rw [cnt_true hd, HS.out]; exact rfl
          by_cases hrq : r < q
          · have hqi : ¬ ((q : Int) ≤ (r : Int)) := by omega
            have hrqi : (r : Int) < (q : Int) := by omega
            rcases HH.out with h0 | ⟨yb, yo, rfl, hyb, hyc⟩
            · omega
            · have hc3 : wr.cell? ⟨yb, yo + r, none⟩ = some (.bool true) := by
                rw [show true = h r by unfold hadS at hd; rw [if_pos hrq] at hd; exact hd.symm]
                exact (hwb2.cell (by exact hyb)).trans (hyc r hrq)
              clear hN HW2 HS hwb2 hbw hyc hyb hd
              go_wp2_with (at_builtin; refine wpList_append_run rfl _ _ 28 rfl _ _ rfl rfl hrun ?_; clear hrun)
              go_roundw
              case rel => exact ⟨r + 1, by omega, by go_num, ⟨S + 1, by omega, by go_num, HS2⟩, HN⟩
              case measure => simp [intOf]; omega
          · have hqi : (q : Int) ≤ (r : Int) := by omega
            clear hN HW2 HS hwb2 hbw hd
            go_wp2_with (at_builtin; refine wpList_append_run rfl _ _ 28 rfl _ _ rfl rfl hrun ?_; clear hrun)
            go_roundw
            case rel => exact ⟨r + 1, by omega, by go_num, ⟨S + 1, by omega, by go_num, HS2⟩, HN⟩
            case measure => simp [intOf]; omega
        | false =>
          obtain ⟨V', w3, hrun, hN⟩ := some_put (u := .slice none 0 0) HW2.out hlt hs5 (by unfold someV; rw [hd]; rfl)
          rw [hd] at hrun
          have HN := hid hN
          have HS2 : Hid (S = cnt (hadS h q) (r + 1)) := by rw [cnt_false hd]; exact HS
          by_cases hrq : r < q
          · have hqi : ¬ ((q : Int) ≤ (r : Int)) := by omega
            have hrqi : (r : Int) < (q : Int) := by omega
            rcases HH.out with h0 | ⟨yb, yo, rfl, hyb, hyc⟩
            · omega
            · have hc3 : wr.cell? ⟨yb, yo + r, none⟩ = some (.bool false) := by
                rw [show false = h r by unfold hadS at hd; rw [if_pos hrq] at hd; exact hd.symm]
                exact (hwb2.cell (by exact hyb)).trans (hyc r hrq)
              clear hN HW2 HS hwb2 hbw hyc hyb hd hl1
              go_wp2_with (at_builtin; refine wpList_append_run rfl _ _ 28 rfl _ _ rfl rfl hrun ?_; clear hrun)
              go_roundw
              case rel => exact ⟨r + 1, by omega, by go_num, ⟨S, by omega, rfl, HS2⟩, HN⟩
              case measure => simp [intOf]; omega
          · exact absurd hd (by unfold hadS; rw [if_neg hrq]; simp)
      · obtain rfl : r = s := by omega
        obtain ⟨g0, cy, hV, hG⟩ := HW2.out.grid hs0 HO1.out
        subst hV
        have hj := hjoin wr g0 cy x2.heap.size _ _ E hG rfl HW2.out.bools
        obtain ⟨b0, b1, b2, _⟩ := HF.out wr hbw
        have hSc : S = cc := by rw [HS.out, HP.out]
        have HWW := hid (HW.out.trans (HW2.out.below.mono HW.out.size))
        have hkeep : ∀ v, Below wr.heap.size wr v → v.cell? ⟨w.heap.size, 0, none⟩ = some (.int .i64 (k : Int)) ∧ v.cell? ⟨w.heap.size, 2, none⟩ = some (.slice a n cap) ∧ Below w.heap.size w v := fun v hv => by
          obtain ⟨q0, _, q2, _⟩ := HF.out v (hbw.trans (hv.mono hbw.size))
          exact ⟨q0, q2, HWW.out.trans (hv.mono HWW.out.size)⟩
        clear hjoin HW2 hG HS HP HO1 hbw
        by_cases hck : cc < k
        · have hj1 : Calls Try.prog 15 #[.int .i64 k, .int .i64 m, .int .i64 n, .slice (some ⟨g0, 0, none⟩) r cy, .slice (some ⟨x2.heap.size, 0, none⟩) r r] wr fun e w' => e = .returned (.tuple #[.slice none 0 0, .int .i64 4]) ∧ Below wr.heap.size wr w' :=
            hj.mono fun e w' ⟨q1, q2⟩ => by
              rcases q2 with ⟨_, q2⟩ | ⟨q2, _⟩
              · exact ⟨q2, q1⟩
              · omega
          have hSk : (S : Int) < (k : Int) := by omega
          clear hj hck hSc HR HH
          go_wp2_with (first
            | (go_at_call 15; refine hj1.mono ?_; rintro e x7 ⟨rfl, hb7⟩; clear hj1; obtain ⟨k0, k2, hw7⟩ := hkeep x7 hb7; have HW7 := hid hw7; clear hkeep hb7 hw7)
            | (go_at_call 11; refine (awake_any _).mono ?_; rintro e x8 ⟨rfl, hb8⟩))
          go_ret
          exact ⟨rfl, HW7.out.trans (hb8.mono HW7.out.size)⟩
        · have hj1 : Calls Try.prog 15 #[.int .i64 k, .int .i64 m, .int .i64 n, .slice (some ⟨g0, 0, none⟩) r cy, .slice (some ⟨x2.heap.size, 0, none⟩) r r] wr fun e w' => Below wr.heap.size wr w' ∧ ∃ G, e = .returned (.tuple #[.slice (some ⟨G, 0, none⟩) n n, .int .i64 0]) ∧ RowAt w' (some ⟨G, 0, none⟩) n f :=
            hj.mono fun e w' ⟨q1, q2⟩ => by
              rcases q2 with ⟨q2, _⟩ | ⟨_, q2⟩
              · omega
              · exact ⟨q1, q2⟩
          have hSk : ¬ ((S : Int) < (k : Int)) := by omega
          clear hj hck hSc HH
          go_wp2_with (first
            | (go_at_call 15; refine hj1.mono ?_; rintro e x7 ⟨hb7, G7, rfl, hrow7⟩; clear hj1; obtain ⟨k0, k2, hw7⟩ := hkeep x7 hb7; have HW7 := hid hw7; have v1 := conv_row x7 (some ⟨G7, 0, none⟩) n n f hrow7; have v2 := conv_row x7 a n cap f (HR.out.below hw7); generalize strOfNums (nums f n) = ST at v1 v2; clear hkeep hb7 hw7 hrow7)
            | (go_at_call 11; refine (awake_any _).mono ?_; rintro e x8 ⟨rfl, hb8⟩))
          go_ret
          exact ⟨rfl, HW7.out.trans (hb8.mono HW7.out.size)⟩

theorem walk (K M : Int) (a : Option Addr) (len cap : Nat) (y : Option Addr) (q c : Nat) (f : Nat → Nat) (h : Nat → Bool) (w : World) (g : SLostIn w K M a len cap y q c f h) :
    Calls Try.prog 4 #[.agg #[.int .i64 K, .int .i64 M, .slice a len cap, .slice y q c]] w fun e w' => e = .returned (.bool true) ∧ Below w.heap.size w w' := by
  by_cases hc : CauchyN K M
  · obtain ⟨k, m, rfl, rfl, h1, h2, h3⟩ := code_nat hc
    by_cases hn : 4096 < len
    · exact bad k m 3 a len cap y q c w (by omega) (fun v => rsplit_long k m a len cap v h1 h2 h3 hn)
    · exact good k m len a cap y q c f h w h1 h2 h3 (by omega) g.data.lt g.data.row g.have_
  · exact bad K M 1 a len cap y q c w (by omega) (fun v => rsplit_code K M a len cap v hc)

set_option maxRecDepth 100000 in
theorem lifted (os : Os) (started : os.Started) (H : Type) (enc : TypeId × Value → H) :
    ReturnsInHanded {} Try.checked os 4 .any (Rows.stripeJoinsSpec.pre6 enc Try.prog Try.f4 Rows.stripeJoinsRow.domain false) (Rows.stripeJoinsSpec.post enc Try.prog Try.f4 false true false false) := by
  refine returnsInHanded_of_change_sized (C := Try.checked) own started (by kernel_rfl) Try.func4
    (ChangeSpec.witness6 (enc := enc) (C := Try.checked) false ⟨#[], #[.agg #[.int .i64 0, .int .i64 0, .slice none 0 0, .slice none 0 0]], []⟩ 8 (by kernel_rfl) (by kernel_rfl) (by kernel_rfl) (by kernel_rfl)) ?_
  intro W base args ds gs before hval0 hW hcnd hsz0 _
  have hsz : (DataW.weightsEach Try.prog (Try.f4.params.toList ++ Rows.stripeJoinsSpec.plain.varTypes Try.prog) (ds ++ gs)).all (· ≤ reachBytes) = true := hsz0
  have hval : ∀ (j : Nat) t v, Try.f4.params[j]? = some t → args[j]? = some v → Value.okWide Try.prog W .any base t v := hval0
  have hW' := hW
  obtain ⟨p, q, hA0, hV, rfl, hfz, hnd⟩ := hW
  have hA : DataW.TrodAll enc Try.prog W 0 (fun _ => true) true Try.f4.params.toList args.toList ds p := hA0
  rw [Try.params4] at hA hval hsz
  obtain ⟨v0, vs0, d0, ds0, p0, q0, hargs, rfl, rfl, h0, r0⟩ := trodAll_cons hA
  obtain ⟨rfl, rfl, rfl⟩ := trodAll_nil r0
  obtain rfl : args = #[v0] := by cases args; simp_all
  obtain ⟨rfl, rfl⟩ := trodVars_none hV
  have k0 := h0
  have lt0 : ∀ x ∈ p0, x.block < W.heap.size := by obtain ⟨m, hm⟩ := k0; exact DataW.trod_lt m _ _ _ hm
  have s0 : ∀ x ∈ d0.weights Try.prog 35, x ≤ reachBytes := fun x hx => by
    have := List.all_eq_true.1 hsz x (DataW.weights_mem_each (j := 0) rfl rfl x hx)
    simpa using this
  obtain ⟨K0, M0, a0, len0, cap0, y0, q0, c0, f0, g0, rfl, w0⟩ := slost_in (okWide_struct Try.underlying35 (hval 0 35 v0 rfl rfl)) h0 s0
  clear hA0 hval0
  refine (walk K0 M0 a0 len0 cap0 y0 q0 c0 f0 g0 W w0).mono fun e W' ⟨he, bel⟩ => ?_
  subst he
  exact ⟨_, rfl, _, _, _, [], _, [], hW', trodAll_mk1 (shut_bool Try.underlying4 _), (trodAll_cons_mk (Below.trod laidOut (by kernel_rfl) (of_decide_eq_true (by kernel_rfl)) k0 bel lt0) trodAll_mk0), rfl, bel.frame _, fun h => by cases h⟩

theorem over : Rows.stripeJoinsRow.holds Try.pinned (OpenSpec.ofChange Rows.stripeJoinsSpec) :=
  OpenClaim.holds_of_wide 4 Try.f4 rfl rfl rfl rfl rfl rfl rfl ⟨rfl, rfl, rfl, rfl, rfl⟩ rfl rfl rfl rfl rfl (by kernel_rfl) Try.func4 (by kernel_rfl)
    (of_decide_eq_true (by kernel_rfl)) (by unfold Func.isWrapper; first | (rw [if_pos (by decide +kernel)]; kernel_rfl) | (rw [if_neg (by decide +kernel)]; exact ⟨rfl, rfl⟩))
    (fun os started H enc _ => lifted os started H enc)

theorem proved : Rows.StripeJoinsSaid := over
#print axioms proved
end Go.Proofs.Ytmlaloadeeohbaa.stripeJoins
