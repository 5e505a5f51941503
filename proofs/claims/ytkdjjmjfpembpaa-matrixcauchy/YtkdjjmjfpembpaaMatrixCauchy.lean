/-
  For any K and M package matrix tells the document's Cauchy matrix, or refuses as it does, and any K of its rows, each another one, have an inverse, which it tells: 'mooringlaw02.MatrixCauchy' returns true and leaves its arguments as they were.
  Conditions: none.
-/
import Derived.Test.YtkdjjmjfpembpaaRows
import Derived.WalkKit
import Derived.ProofKit
import Derived.OpenShut
import Derived.SizedLaws
import Derived.ShutString
import Derived.ChangeOld
import Derived.Below
import Derived.Test.YtkdjjmjfpembpaaMxLaw
import Derived.Test.YtkdjjmjfpembpaaMxPick
namespace Go.Proofs.Ytkdjjmjfpembpaa.matrixCauchy
open Go.ChangeShapes Go.WideShapes Go.ChangeAt Go.RowKit
open Gf
set_option linter.unusedVariables false

theorem own : ownKnob Try.prog.godebug = none := by kernel_rfl
theorem laidOut : laidOutB Try.prog = true := by kernel_rfl

theorem below_from_drewN {B m : Nat} {w x : World} (h : Below B (w.drewN m) x) : Below B w x := ⟨h.os, h.tape, h.output, h.size, h.block⟩

theorem conv_int (w : World) (i : Nat) : (convert 5 3 (.int .u8 (i : Int))).run Try.prog w = .ok (.int .i64 (IntKind.i64.wrap (i : Int))) w := by
  have hk : Try.prog.intKind 3 = .i64 := by kernel_rfl
  rw [run_convert_int w 5 3 .u8 (i : Int) (by rw [Try.underlying5]; rfl) (by rw [hk]; exact Try.underlying3), hk]

set_option maxHeartbeats 1000000 in
set_option maxRecDepth 100000 in
theorem none_ (a0 a1 : Int) (y : Option Addr) (p c : Nat) (w : World) (h : ¬ CauchyN a0 a1) :
    Calls Try.prog 6 #[.int .i64 a0, .int .i64 a1, .slice y p c] w fun e w' => e = .returned (.bool true) ∧ Below w.heap.size w w' := by
  have hc := cauchy_no a0 a1 w h
  have hr := rcauchy_no a0 a1 w h
  clear h
  go_enter Try.func6, Try.ntmps6
  go_wp2_with (first
    | (go_at_call 22; refine hc.mono ?_; rintro e w' ⟨rfl, rfl⟩; clear hc)
    | (go_at_call 23; refine hr.mono ?_; rintro e w' ⟨rfl, rfl⟩; clear hr)
    | (go_at_call 15; refine (same_zero _ _ _ _ _).mono ?_; rintro e w' ⟨rfl, rfl⟩)
    | (go_at_call 9; refine (awake_any _).mono ?_; rintro e x6 ⟨rfl, hb6⟩))
  go_ret
  exact ⟨rfl, hb6⟩

set_option maxHeartbeats 1000000 in
set_option maxRecDepth 100000 in
theorem great (k m : Nat) (y : Option Addr) (p c : Nat) (w : World) (h1 : 1 ≤ k) (h2 : 1 ≤ m) (h3 : k + m ≤ 255) (h4 : 24 < k) :
    Calls Try.prog 6 #[.int .i64 k, .int .i64 m, .slice y p c] w fun e w' => e = .returned (.bool true) ∧ Below w.heap.size w w' := by
  have hc := cauchy_yes k m w h1 h2 h3
  have hr : ∀ v, Calls Try.prog 23 #[.int .i64 k, .int .i64 m] v fun e w' => Below v.heap.size v w' ∧
    ∃ B c G1 C1, e = .returned (.tuple #[.slice (some ⟨B, 0, none⟩) (k + m) c, .int .i64 0]) ∧ Own v.heap.size w' B (k + m) k G1 C1 (cauchyF k m) := fun v => rcauchy_yes k m v h1 h2 h3
  obtain ⟨s, hs⟩ : ∃ s, s = k + m := ⟨_, rfl⟩
  have hs5 : s ≤ 255 := by omega
  rw [← hs] at hc
  simp only [← hs] at hr
  have h5 : (24 : Int) < (k : Int) := by omega
  clear hs
  go_enter Try.func6, Try.ntmps6
  go_wp2_with (first
    | (go_at_call 22; refine hc.mono ?_; rintro e x1 ⟨hb1, B1, G1, C1, rfl, ho1⟩; clear hc)
    | (go_at_call 23; refine (hr _).mono ?_; rintro e x2 ⟨hb2, B2, c2, G2, C2, rfl, ho2⟩; clear hr; have hb02 := hb1.trans (hb2.mono hb1.size))
    | (go_at_call 15; refine (same_rows B1 0 B2 0 s k s c2 G1 (fun _ => 0) C1 G2 (fun _ => 0) C2 (cauchyF k m) (cauchyF k m) _ (by omega) (ho1.mat.below (Nat.le_refl _) hb2) ho2.mat (fun _ _ _ _ => rfl)).mono ?_; rintro e x3 ⟨rfl, m3, rfl⟩)
    | (go_at_call 9; refine (awake_any _).mono ?_; rintro e x6 ⟨rfl, hb6⟩))
  go_ret
  exact ⟨rfl, hb02.trans (below_from_drewN (hb6.mono (by exact hb02.size)))⟩

set_option maxHeartbeats 8000000 in
set_option maxRecDepth 100000 in
theorem small (k m : Nat) (y : Option Addr) (p c : Nat) (f : Nat → Nat) (w : World) (h1 : 1 ≤ k) (h2 : 1 ≤ m) (h3 : k + m ≤ 255) (h4 : k ≤ 24) (hy : RowAt w y p f) (hf : ∀ i, f i < 256) (hp : p ≤ 9223372036854775807) :
    Calls Try.prog 6 #[.int .i64 k, .int .i64 m, .slice y p c] w fun e w' => e = .returned (.bool true) ∧ Below w.heap.size w w' := by
  have hc := cauchy_yes k m w h1 h2 h3
  have hr : ∀ v, Calls Try.prog 23 #[.int .i64 k, .int .i64 m] v fun e w' => Below v.heap.size v w' ∧
    ∃ B c G1 C1, e = .returned (.tuple #[.slice (some ⟨B, 0, none⟩) (k + m) c, .int .i64 0]) ∧ Own v.heap.size w' B (k + m) k G1 C1 (cauchyF k m) := fun v => rcauchy_yes k m v h1 h2 h3
  obtain ⟨s, hs⟩ : ∃ s, s = k + m := ⟨_, rfl⟩
  have hs5 : s ≤ 255 := by omega
  have hks : k < s := by omega
  have hsi : (k : Int) + (m : Int) = (s : Int) := by omega
  have hmk := run_make_row' (P := Try.prog) 42 4 (.bool false) 1 Try.underlying42 info_bool rfl .i64 .i64 s (by omega) (by omega)
  rw [← hs] at hc
  simp only [← hs] at hr
  have h5 : ¬ ((24 : Int) < (k : Int)) := by omega
  have HS : Hid (s = k + m) := hs
  have HY : Hid (RowAt w y p f) := hy
  clear hs hy
  go_enter Try.func6, Try.ntmps6
  go_wp2_with (first
    | (go_at_call 22; refine hc.mono ?_; rintro e x1 ⟨hb1, B1, G1, C1, rfl, ho1⟩; clear hc)
    | (go_at_call 23; refine (hr _).mono ?_; rintro e x2 ⟨hb2, B2, c2, G2, C2, rfl, ho2⟩; clear hr; have hb02 := hb1.trans (hb2.mono hb1.size))
    | (go_at_call 15; refine (same_rows B1 0 B2 0 s k s c2 G1 (fun _ => 0) C1 G2 (fun _ => 0) C2 (cauchyF k m) (cauchyF k m) _ (by omega) (ho1.mat.below (Nat.le_refl _) hb2) ho2.mat (fun _ _ _ _ => rfl)).mono ?_; rintro e x3 ⟨rfl, m3, rfl⟩))
  have HM : Hid (Mat x2 B1 0 s k G1 (fun _ => 0) C1 (cauchyF k m)) := ho1.mat.below (Nat.le_refl _) hb2
  have HB : Hid (Below w.heap.size w x2) := hb02
  have HY2 : Hid (RowAt x2 y p f) := HY.out.below hb02
  have HA : Hid (∀ q, Pick x2 (((x2.drewN q).alloc (.cells #[] 3)).alloc (.cells (madeCells #[.bool false] s) 4)) x2.heap.size 0 (x2.heap.size + 1) s 0 (fun _ => 0)) := fun q => pick_start (below_drewN' (Below.refl _ _) q) s _
  obtain ⟨M, hMe⟩ : ∃ M, M = x2.heap.size + 1 := ⟨_, rfl⟩
  clear ho1 ho2 hb1 hb2 hb02 hmk HY
  clear hMe M
  go_loopw [11, 13, 14] (fun L b i wr => ∃ c a lb lc : Nat, c ≤ k ∧ a < s ∧ L = .slice (some ⟨lb, 0, none⟩) c lc ∧ b = .int .i64 a ∧ i = .int .i64 c ∧ Hid (∃ g, Pick x2 wr lb lc (x2.heap.size + 1) s c g)) (fun _ _ i _ => k - (intOf i).toNat)
  case atStart => exact ⟨0, 0, x2.heap.size, 0, by omega, by omega, rfl, rfl, rfl, _, HA.out m3⟩
  case round =>
    clear HA
    obtain ⟨c, a, lb, lc, hck, has, rfl, rfl, rfl, HW⟩ := hrel
    obtain ⟨wo, hwo⟩ : ∃ wo, wo = wr := ⟨_, rfl⟩
    subst hwo
    obtain ⟨g, hP⟩ := HW.out
    have HP : Hid (Pick x2 wo lb lc (x2.heap.size + 1) s c g) := hP
    clear HW
    by_cases hlt : c < k
    · have hckI : (c : Int) < (k : Int) := by omega
      obtain ⟨u, hu1, hu2⟩ := unmet g c s (by omega)
      by_cases hcp : c < p
      · have hcpI : (c : Int) < (p : Int) := by omega
        rcases HY2.out.below hP.below with h0 | ⟨ob, oo, hyo, _, hcell⟩
        · omega
        · subst hyo
          have c1 := hcell c hcp
          have c2 := conv_int wo (f c)
          have hfc := hf c
          obtain ⟨a1, ha1⟩ : ∃ a1, a1 = a + f c := ⟨_, rfl⟩
          have hai : (a : Int) + (f c : Int) = (a1 : Int) := by omega
          have ha5 : a1 ≤ 1000 := by omega
          obtain ⟨r, hr0⟩ : ∃ r, r = a1 % s := ⟨_, rfl⟩
          have hr1 : r < s := by rw [hr0]; exact Nat.mod_lt _ (by omega)
          have hrm : Int.tmod ((a1 : Nat) : Int) (s : Int) = (r : Int) := by rw [hr0, Int.ofNat_tmod]
          clear hr0
          clear hcell ha1 hP hf
          go_wp2_with fail
          go_loopw [13] (fun b wr => ∃ d : Nat, d < s ∧ b = .int .i64 d ∧ wr = wo) (fun b _ => far u s (intOf b).toNat)
          case atStart => exact ⟨r, hr1, rfl, rfl⟩
          case round =>
            obtain ⟨d, hd, rfl, rfl⟩ := hrel
            have hds : (d : Int) < (s : Int) := by omega
            have c5 := HP.out.met.cell hd
            have c6 := HP.out.met.frozen d
            cases hmd : mt g c d with
            | true =>
              rw [hmd] at c5
              obtain ⟨d2, hd2⟩ : ∃ d2, d2 = (d + 1) % s := ⟨_, rfl⟩
              have hd3 : d2 < s := by rw [hd2]; exact Nat.mod_lt _ (by omega)
              have hne : d ≠ u := fun e => by rw [e, hu2] at hmd; cases hmd
              have hfar := far_step hu1 hd hne
              rw [← hd2] at hfar
              have hrm2 : Int.tmod ((d : Int) + 1) (s : Int) = (d2 : Int) := by rw [hd2, ← Int.natCast_one, ← Int.natCast_add, Int.ofNat_tmod]
              have HF : Hid (far u s d2 < far u s d) := hfar
              clear hd2 hfar hmd hne c6 hu1 hu2
              go_wp2_with fail
              go_roundw
              case rel => exact ⟨d2, hd3, rfl, trivial⟩
              case measure => simpa [intOf] using HF.out
            | false =>
              rw [hmd] at c5
              obtain ⟨lb', lc', w7, hrun, g', hP7⟩ := pick_step HP.out (by omega) hd hmd
              have HN : Hid (∃ g, Pick x2 w7 lb' lc' (x2.heap.size + 1) s (c + 1) g) := ⟨g', hP7⟩
              clear hP7 hmd HP hu1 hu2
              go_wp2_with (at_builtin; refine wpList_append_run rfl _ _ 31 rfl _ _ rfl rfl hrun ?_; clear hrun)
              go_roundw
              case rel => exact ⟨c + 1, d, lb', lc', by omega, hd, rfl, rfl, by go_num, HN⟩
              case measure => simp [intOf]; omega
      · have hcpI : ¬ ((c : Int) < (p : Int)) := by omega
        obtain ⟨r, hr0⟩ : ∃ r, r = a % s := ⟨_, rfl⟩
        have hr1 : r < s := by rw [hr0]; exact Nat.mod_lt _ (by omega)
        have hrm : Int.tmod ((a : Nat) : Int) (s : Int) = (r : Int) := by rw [hr0, Int.ofNat_tmod]
        clear hr0
        clear hP hf
        go_wp2_with fail
        go_loopw [13] (fun b wr => ∃ d : Nat, d < s ∧ b = .int .i64 d ∧ wr = wo) (fun b _ => far u s (intOf b).toNat)
        case atStart => exact ⟨r, hr1, rfl, rfl⟩
        case round =>
          obtain ⟨d, hd, rfl, rfl⟩ := hrel
          have hds : (d : Int) < (s : Int) := by omega
          have c5 := HP.out.met.cell hd
          have c6 := HP.out.met.frozen d
          cases hmd : mt g c d with
          | true =>
            rw [hmd] at c5
            obtain ⟨d2, hd2⟩ : ∃ d2, d2 = (d + 1) % s := ⟨_, rfl⟩
            have hd3 : d2 < s := by rw [hd2]; exact Nat.mod_lt _ (by omega)
            have hne : d ≠ u := fun e => by rw [e, hu2] at hmd; cases hmd
            have hfar := far_step hu1 hd hne
            rw [← hd2] at hfar
            have hrm2 : Int.tmod ((d : Int) + 1) (s : Int) = (d2 : Int) := by rw [hd2, ← Int.natCast_one, ← Int.natCast_add, Int.ofNat_tmod]
            have HF : Hid (far u s d2 < far u s d) := hfar
            clear hd2 hfar hmd hne c6 hu1 hu2
            go_wp2_with fail
            go_roundw
            case rel => exact ⟨d2, hd3, rfl, trivial⟩
            case measure => simpa [intOf] using HF.out
          | false =>
            rw [hmd] at c5
            obtain ⟨lb', lc', w7, hrun, g', hP7⟩ := pick_step HP.out (by omega) hd hmd
            have HN : Hid (∃ g, Pick x2 w7 lb' lc' (x2.heap.size + 1) s (c + 1) g) := ⟨g', hP7⟩
            clear hP7 hmd HP hu1 hu2
            go_wp2_with (at_builtin; refine wpList_append_run rfl _ _ 31 rfl _ _ rfl rfl hrun ?_; clear hrun)
            go_roundw
            case rel => exact ⟨c + 1, d, lb', lc', by omega, hd, rfl, rfl, by go_num, HN⟩
            case measure => simp [intOf]; omega
    · obtain rfl : c = k := by omega
      have hcl := pick_cells hP
      have hb3 := hP.below
      have hM3 := HM.out.below (Nat.le_refl _) hb3
      have hrows := rows_yes B1 0 lb 0 s c c s lc G1 (fun _ => 0) C1 (cauchyF c m) g wo hM3 (by omega) hs5 h1 (by omega) h1 (by omega) hcl.1 hcl.2 hP.lt
      have hturn := cauchy_turns c m g h3 (fun r hr => by have := hP.lt r hr; have := HS.out; omega) hP.inj
      obtain ⟨F, hF⟩ : ∃ F : Nat → Nat → Nat, F = fun r => cauchyF c m (g r) := ⟨_, rfl⟩
      rw [← hF] at hrows hturn
      have hFlt : ∀ r j, F r j < 256 := fun r j => by rw [hF]; exact cauchyF_lt c m (g r) j
      have hinv : ∀ v B G C q, Mat v B 0 c c G (fun _ => 0) C F → Calls Try.prog 21 #[.slice (some ⟨B, 0, none⟩) c q] v fun e w' => ∃ B' G' C', e = .returned (.tuple #[.slice (some ⟨B', 0, none⟩) c c, .int .i64 0]) ∧ Below v.heap.size v w' ∧ Own v.heap.size w' B' c c G' C' (right F c) := fun v B G C q hMv =>
        (inverse_any B 0 c q G (fun _ => 0) C F v hMv h1 (by omega)).mono fun e w' h => by
          rcases h.2 with ⟨h0, _⟩ | ⟨_, B', G', C', he, ho⟩
          · omega
          · exact ⟨B', G', C', he, h.1, ho⟩
      have HR : Hid (∀ r, r < c → ∀ j, j < c → mulF F (right F c) c r j = delta r j) := fun r hr j hj => inv_right hFlt hturn hr hj
      have HB3 : Hid (Below w.heap.size w wo) := HB.out.trans (hb3.mono HB.out.size)
      have hc255 : c ≤ 255 := by omega
      clear hcl hb3 hM3 hturn hF hP HP HM HY2 hf hFlt HB
      go_wp2_with (first
        | (go_at_call 18; refine hrows.mono ?_; rintro e y1 ⟨hb1, D1, P1, Q1, rfl, ho1⟩; clear hrows)
        | (go_at_call 21; refine (hinv _ D1 P1 Q1 _ ho1.mat).mono ?_; rintro e y2 ⟨D2, P2, Q2, rfl, hb2, ho2⟩; clear hinv; have ho12 := ho1.below (Nat.le_refl _) hb2; clear ho1; have hmul := rmulm_yes D1 0 D2 0 c c c c c P1 (fun _ => 0) Q1 P2 (fun _ => 0) Q2 F (right F c) y2 ho12.mat ho2.mat h1 hc255 h1 hc255 h1 hc255)
        | (go_at_call 11; refine hmul.mono ?_; rintro e y3 ⟨hb3, D3, q3, P3, Q3, rfl, ho3⟩; clear hmul)
        | (go_at_call 17; refine (rident_any c _ h1 hc255).mono ?_; rintro e y4 ⟨V4, P4, Q4, rfl, hgr⟩; have hb4 := hgr.below; obtain ⟨D4, q4, hV, ho4⟩ := grow_own hgr (by omega); subst hV; clear hgr; have hs1 := same_rows D3 0 D4 0 c c q3 q4 P3 (fun _ => 0) Q3 P4 (fun _ => 0) Q4 (mulF F (right F c) c) delta y4 (by omega) (ho3.mat.below (Nat.le_refl _) hb4) ho4.mat HR.out)
        | (go_at_call 15; refine hs1.mono ?_; rintro e y5 ⟨rfl, m5, rfl⟩; clear hs1)
        | (go_at_call 9; refine (awake_any _).mono ?_; rintro e y6 ⟨rfl, hb6⟩))
      go_ret
      have k1 := HB3.out.trans (hb1.mono HB3.out.size)
      have k2 := k1.trans (hb2.mono k1.size)
      have k3 := k2.trans (hb3.mono k2.size)
      have k4 := k3.trans (hb4.mono k3.size)
      exact ⟨rfl, k4.trans (below_from_drewN (hb6.mono (by exact k4.size)))⟩

theorem walk (a0 : Int) (a1 : Int) (a2 : Option Addr) (len2 cap2 : Nat) (f2 : Nat → Nat) (w : World) (w0 : (Lit.int .i64 a0).wf = true) (w1 : (Lit.int .i64 a1).wf = true) (w2 : RowAt w a2 len2 f2 ∧ (∀ i, f2 i < 256) ∧ len2 ≤ 9223372036854775807) :
    Calls Try.prog 6 #[.int .i64 a0, .int .i64 a1, .slice a2 len2 cap2] w fun e w' => e = .returned (.bool true) ∧ Below w.heap.size w w' := by
  by_cases h : CauchyN a0 a1
  · have h' := h
    unfold CauchyN at h'
    obtain ⟨k, rfl⟩ : ∃ k : Nat, a0 = k := ⟨a0.toNat, by omega⟩
    obtain ⟨m, rfl⟩ : ∃ m : Nat, a1 = m := ⟨a1.toNat, by omega⟩
    by_cases h4 : 24 < k
    · exact great k m a2 len2 cap2 w (by omega) (by omega) (by omega) h4
    · exact small k m a2 len2 cap2 f2 w (by omega) (by omega) (by omega) (by omega) w2.1 w2.2.1 w2.2.2
  · exact none_ a0 a1 a2 len2 cap2 w h

set_option maxRecDepth 100000 in
theorem lifted (os : Os) (started : os.Started) (H : Type) (enc : TypeId × Value → H) :
    ReturnsInHanded {} Try.checked os 6 .any (Rows.matrixCauchySpec.pre6 enc Try.prog Try.f6 Rows.matrixCauchyRow.domain false) (Rows.matrixCauchySpec.post enc Try.prog Try.f6 false true false false) := by
  refine returnsInHanded_of_change (C := Try.checked) own started (by kernel_rfl) Try.func6
    (ChangeSpec.witness6 (enc := enc) (C := Try.checked) false ⟨#[], #[.int .i64 0, .int .i64 0, .slice none 0 0], []⟩ 8 (by kernel_rfl) (by kernel_rfl) (by kernel_rfl) (by kernel_rfl)) ?_
  intro W base args ds gs before hval0 hW hcnd _
  have hval : ∀ (j : Nat) t v, Try.f6.params[j]? = some t → args[j]? = some v → Value.okWide Try.prog W .any base t v := hval0
  have hW' := hW
  obtain ⟨p, q, hA0, hV, rfl, hfz, hnd⟩ := hW
  have hA : DataW.TrodAll enc Try.prog W 0 (fun _ => true) true Try.f6.params.toList args.toList ds p := hA0
  rw [Try.params6] at hA hval
  obtain ⟨v0, vs0, d0, ds0, p0, q0, hargs, rfl, rfl, h0, r0⟩ := trodAll_cons hA
  obtain ⟨v1, vs1, d1, ds1, p1, q1, rfl, rfl, rfl, h1, r1⟩ := trodAll_cons r0
  obtain ⟨v2, vs2, d2, ds2, p2, q2, rfl, rfl, rfl, h2, r2⟩ := trodAll_cons r1
  obtain ⟨rfl, rfl, rfl⟩ := trodAll_nil r2
  obtain rfl : args = #[v0, v1, v2] := by cases args; simp_all
  obtain ⟨rfl, rfl⟩ := trodVars_none hV
  obtain ⟨a0, rfl, rfl, rfl, w0⟩ := open_int Try.underlying3 (hval 0 3 v0 rfl rfl) h0
  obtain ⟨a1, rfl, rfl, rfl, w1⟩ := open_int Try.underlying3 (hval 1 3 v1 rfl rfl) h1
  obtain ⟨a2, len2, cap2, rfl⟩ := okWide_slice Try.underlying34 (hval 2 34 v2 rfl rfl)
  have k2 := h2
  have lt2 : ∀ x ∈ p2, x.block < W.heap.size := by obtain ⟨m, hm⟩ := k2; exact DataW.trod_lt m _ _ _ hm
  obtain ⟨f2, w2⟩ := bytes_of h2
  clear hA0 hval0
  refine (walk a0 a1 a2 len2 cap2 f2 W w0 w1 w2).mono fun e W' ⟨he, bel⟩ => ?_
  subst he
  exact ⟨_, rfl, _, _, _, [], _, [], hW', trodAll_mk1 (shut_bool Try.underlying4 _), (trodAll_cons_mk (shut_int Try.underlying3 w0) (trodAll_cons_mk (shut_int Try.underlying3 w1) (trodAll_cons_mk (Below.trod laidOut (by kernel_rfl) (of_decide_eq_true (by kernel_rfl)) k2 bel lt2) trodAll_mk0))), rfl, bel.frame _, fun h => by cases h⟩

theorem over : Rows.matrixCauchyRow.holds Try.pinned (OpenSpec.ofChange Rows.matrixCauchySpec) :=
  OpenClaim.holds_of_wide 6 Try.f6 rfl rfl rfl rfl rfl rfl rfl ⟨rfl, rfl, rfl, rfl, rfl⟩ rfl rfl rfl rfl rfl (by kernel_rfl) Try.func6 (by kernel_rfl)
    (of_decide_eq_true (by kernel_rfl)) (by unfold Func.isWrapper; first | (rw [if_pos (by decide +kernel)]; kernel_rfl) | (rw [if_neg (by decide +kernel)]; exact ⟨rfl, rfl⟩))
    (fun os started H enc _ => lifted os started H enc)

theorem proved : Rows.MatrixCauchySaid := over
#print axioms proved
end Go.Proofs.Ytkdjjmjfpembpaa.matrixCauchy
