/-
  Whatever is written, one thing behind the other, has just its bytes, behind what was there: 'mooringlaw05.WireWrites' returns true and leaves its arguments as they were, where they are together of bulk at most 1048576.
  Conditions: the bulk's bound.
-/
import Derived.Test.YtjodeceaogngfaaRows
import Derived.WalkKit
import Derived.ProofKit
import Derived.OpenShut
import Derived.SizedLaws
import Derived.ShutString
import Derived.ChangeOld
import Derived.Below
import Derived.JoinedCond
import Derived.Test.YtjodeceaogngfaaByUpto
import Derived.Test.YtjodeceaogngfaaByRows
import Derived.Test.YtjodeceaogngfaaWiItem
import Derived.Test.YtjodeceaogngfaaWiPush
namespace Go.Proofs.Ytjodeceaogngfaa.wireWrites
open Go.ChangeShapes Go.WideShapes Go.ChangeAt Go.RowKit By
open Wi
set_option linter.unusedVariables false
set_option linter.unusedSimpArgs false
set_option maxRecDepth 100000

theorem own : ownKnob Try.prog.godebug = none := by kernel_rfl
theorem laidOut : laidOutB Try.prog = true := by kernel_rfl

theorem hide {a : Prop} (h : a) : Hid a := h

def St (w wr : World) (b wn : Value) (T : List Nat) : Prop :=
  IsSl wr b T ∧ OwnL wr w.heap.size wn T ∧ Below w.heap.size w wr ∧ ∀ g, b.ownBlock = some g → g < wr.heap.size ∧ wn.ownBlock ≠ some g

theorem st_start (w : World) (x : Option Addr) (n c : Nat) (l : List Nat) (hl : Sl w x n c l) (hn : n ≤ 1048576) :
    ∃ R1 w1 R2 w2, (Builtin.append_ #[22, 22] 22 #[.slice none 0 0, .slice x n c]).run Try.prog w = .ok R1 w1 ∧ (Builtin.append_ #[22, 22] 22 #[.slice none 0 0, .slice x n c]).run Try.prog w1 = .ok R2 w2 ∧ St w w2 R1 R2 l := by
  obtain ⟨R1, w1, h1, o1, b1, _, _⟩ := push_kept w w w.heap.size (.slice none 0 0) [] (OwnL.start w _) (Nat.le_refl _) (Below.refl _ _) x n c l hl (by simp; omega)
  obtain ⟨R2, w2, h2, o2, b2, k2, p2⟩ := push_kept w1 w w.heap.size (.slice none 0 0) [] (OwnL.start w1 _) b1.size b1 x n c l (hl.below b1) (by simp; omega)
  rw [List.nil_append] at o1 o2
  refine ⟨R1, w1, R2, w2, h1, h2, (IsSl.of_own o1 hl.lt).kept k2.1 k2.2 (fun g _ => by simp [Value.ownBlock]), o2, b2, fun g hg => ?_⟩
  have hlt := (World.ownsRow.lt o1 g hg).2
  refine ⟨Nat.lt_of_lt_of_le hlt k2.1, fun e => ?_⟩
  rcases p2 g e with h | h
  · simp [Value.ownBlock] at h
  · omega

theorem st_step {w wr : World} {b wn : Value} {T : List Nat} (h : St w wr b wn T) (y : Option Addr) (m d N : Nat) (k : List Nat) (D M : Int) (hk : Sl wr y m d k) (hN : N < 18446744073709551616) (hm : m ≤ 1048576) (hT : T.length ≤ 100000000000000) :
    ∃ xb cb, b = .slice xb T.length cb ∧ Calls Try.prog 8 #[.slice xb T.length cb, .agg #[.int .i64 D, .int .u64 (N : Int), .slice y m d, .int .i64 M]] wr fun ed w2 =>
      ∃ x1 c1 x2 m2 c2 x3 c3 w3 t, ed = .returned (.tuple #[.slice x1 t c1, .slice x2 m2 c2]) ∧ (Builtin.append_ #[22, 22] 22 #[wn, .slice x2 m2 c2]).run Try.prog w2 = .ok (.slice x3 t c3) w3 ∧
        (Calls Try.prog 9 #[.slice x1 t c1, .slice x3 t c3] w3 fun e v => e = .returned (.bool true) ∧ v = w3) ∧ St w w3 (.slice x1 t c1) (.slice x3 t c3) (T ++ enI D N k) := by
  obtain ⟨hb, ho, hB, hg⟩ := h
  obtain ⟨xb, cb, rfl, hsb⟩ := hb
  have hlen := enI_len D N k hN (by rw [hk.len]; omega)
  rw [hk.len] at hlen
  refine ⟨xb, cb, rfl, (written_any T.length cb m d N xb y T k D M wr hsb hk hN (by omega)).mono fun ed w2 ⟨v1, v2, he, q1, q2, q3, q4⟩ => ?_⟩
  have hB2 := hB.trans (q3.mono hB.size)
  obtain ⟨x2, c2, rfl, s2⟩ := q2
  obtain ⟨R3, w3, hr, o3, b3, k3, p3⟩ := push_kept w2 w w.heap.size wn T (ho.below q3) hB2.size hB2 x2 _ c2 (enI D N k) s2 (by omega)
  have hlt : ∀ u ∈ T ++ enI D N k, u < 256 := by
    obtain ⟨_, _, _, s1⟩ := q1
    exact s1.lt
  have hne : ∀ g, v1.ownBlock = some g → g < w2.heap.size ∧ some g ≠ wn.ownBlock := fun g hg1 => by
    rcases q4 g hg1 with ⟨a, ha, hag⟩ | ⟨h1, h2⟩
    · have := hg g (by rw [ha]; simp [Value.ownBlock, hag])
      exact ⟨Nat.lt_of_lt_of_le this.1 q3.size, fun e => this.2 e.symm⟩
    · refine ⟨h2, fun e => ?_⟩
      have := (World.ownsRow.lt ho g e.symm).2
      omega
  have q1' := q1.kept k3.1 k3.2 (fun g hg1 => (hne g hg1).2)
  obtain ⟨x3, c3, rfl, s3, _⟩ := o3.sl hlt
  have h9 : ∀ g, v1.ownBlock = some g → g < w3.heap.size ∧ (Value.slice x3 (T ++ enI D N k).length c3).ownBlock ≠ some g := fun g hg1 => by
    obtain ⟨h1, h2⟩ := hne g hg1
    refine ⟨Nat.lt_of_lt_of_le h1 k3.1, fun e => ?_⟩
    rcases p3 g e with h | h
    · exact h2 h.symm
    · omega
  obtain ⟨x1, c1, rfl, s1⟩ := q1'
  exact ⟨x1, c1, x2, _, c2, x3, c3, w3, _, he, hr, same_any x1 x3 _ _ c1 c3 _ _ true w3 s1 s3 (by simp), ⟨x1, c1, rfl, s1⟩, o3, b3, h9⟩

set_option maxHeartbeats 2000000 in
set_option maxRecDepth 100000 in
theorem walk (x : Option Addr) (n c : Nat) (f : Nat → Nat) (a : Option Addr) (len cap : Nat) (D N : Nat → Int) (X : Nat → Option Addr) (Ln C : Nat → Nat) (F : Nat → Nat → Nat) (M : Nat → Int) (w : World) (h0 : BytesIn w x n c f) (m0 : n ≤ 1048576) (h1 : ItemsIn w a len cap D N X Ln C F M) (m1 : len ≤ 1048576 ∧ ∀ i, i < len → Ln i ≤ 1048576) :
    Calls Try.prog 3 #[.slice x n c, .slice a len cap] w fun e w' => e = .returned (.bool true) ∧ Below w.heap.size w w' := by
  have hl := Sl.of_in h0
  obtain ⟨l, hll⟩ : ∃ l, l = (List.range n).map f := ⟨_, rfl⟩
  rw [← hll] at hl
  obtain ⟨R1, w1, R2, w2, hr1, hr2, hst⟩ := st_start w x n c l hl m0
  have hlen := hl.len
  have H1 : Hid (ItemsIn w a len cap D N X Ln C F M ∧ ∀ i, i < len → Ln i ≤ 1048576) := ⟨h1, m1.2⟩
  have hlm := m1.1
  have HS : Hid (∃ T, St w w2 R1 R2 T ∧ T.length ≤ 1048576 + 0 * 1048600) := ⟨l, hst, by omega⟩
  clear h0 h1 hll hl hst m1 hlen
  go_enter Try.func3, Try.ntmps3
  go_wp2_with (first
    | (at_builtin; refine wpList_append_run rfl _ _ 22 rfl _ _ rfl rfl hr1 ?_; clear hr1)
    | (at_builtin; refine wpList_append_run rfl _ _ 22 rfl _ _ rfl rfl hr2 ?_; clear hr2))
  go_loopw [5, 6, 7] (fun b wn i wr => ∃ k : Nat, k ≤ len ∧ i = .int .i64 k ∧ Hid (∃ T, St w wr b wn T ∧ T.length ≤ 1048576 + k * 1048600)) (fun _ _ i _ => len - (intOf i).toNat)
  case atStart => exact ⟨0, by omega, rfl, HS.out⟩
  case round =>
    obtain ⟨k, hk, rfl, HR⟩ := hrel
    clear HS
    by_cases hlt : k < len
    · obtain ⟨T, hT, hTl⟩ := HR.out
      have hb := hT.2.2.1
      rcases H1.out.1.row with h0 | ⟨b, o, rfl, hbl, hcells⟩
      · omega
      obtain ⟨f0, f1, f2, f3⟩ := hcells k hlt
      have k0 := (hb.cell (p := ⟨b, o + k * 4, none⟩) hbl).trans f0
      have k1 := (hb.cell (p := ⟨b, o + k * 4 + 1, none⟩) hbl).trans f1
      have k2 := (hb.cell (p := ⟨b, o + k * 4 + 2, none⟩) hbl).trans f2
      have k3 := (hb.cell (p := ⟨b, o + k * 4 + 3, none⟩) hbl).trans f3
      have hit := H1.out.1.item k hlt
      have hNb := bounds_u64 hit.n_
      obtain ⟨N1, hN1⟩ : ∃ N1 : Nat, N k = (N1 : Int) := ⟨(N k).toNat, by omega⟩
      have hNl : N1 < 18446744073709551616 := by omega
      rw [hN1] at k1
      have hmk := H1.out.2 k hlt
      have hsl := (Sl.of_in hit.bytes).below hb
      have hke := enI_len (D k) N1 ((List.range (Ln k)).map (F k)) hNl (by simp; omega)
      have hkm : k * 1048600 ≤ 1048576 * 1048600 := Nat.mul_le_mul_right _ (by omega)
      obtain ⟨xb, cb, rfl, hcall⟩ := st_step hT (X k) (Ln k) (C k) N1 ((List.range (Ln k)).map (F k)) (D k) (M k) hsl hNl hmk (by omega)
      have HT : Hid ((T ++ enI (D k) N1 ((List.range (Ln k)).map (F k))).length ≤ 1048576 + (k + 1) * 1048600) := by
        show (T ++ _).length ≤ _
        rw [List.length_append]
        simp at hke
        omega
      generalize enI (D k) N1 ((List.range (Ln k)).map (F k)) = E at *
      clear hT hb HR f0 f1 f2 f3 hcells hit hNb hN1 hsl hke hkm hTl
      generalize D k = D1 at *
      generalize N k = N0 at *
      generalize X k = X1 at *
      generalize Ln k = L1 at *
      generalize C k = C1 at *
      generalize M k = M1 at *
      generalize T.length = tl at *
      go_wp2_with (first
        | (go_at_call 8; refine hcall.mono ?_; rintro e w4 ⟨x1, c1, x2, m2, c2, x3, c3, w5, t, rfl, hrun, hsame, hst⟩; have HST := hide hst; clear hcall hst)
        | (at_builtin; refine wpList_append_run rfl _ _ 22 rfl _ _ rfl rfl hrun ?_; clear hrun)
        | (go_at_call 9; refine hsame.mono ?_; rintro e v ⟨rfl, rfl⟩; clear hsame))
      go_roundw
      case rel => exact ⟨k + 1, by omega, by go_num, _, HST.out, HT.out⟩
      case measure => simp [intOf]; omega
    · have hk2 : k = len := by omega
      subst hk2
      obtain ⟨T, hT, _⟩ := HR.out
      have HB : Hid (Below w.heap.size w wr) := hT.2.2.1
      clear HR hT
      go_wp2_with (go_at_call 10; refine (awake_any _).mono ?_; rintro e w9 ⟨rfl, hb9⟩)
      go_ret
      exact ⟨rfl, HB.out.trans (hb9.mono HB.out.size)⟩

set_option maxRecDepth 100000 in
theorem lifted (os : Os) (started : os.Started) (H : Type) (enc : TypeId × Value → H) (F : Stop.Interp) :
    ReturnsInHanded {} Try.checked os 3 .any ((Rows.OpenSpec.upto Rows.wireWritesSpec).pre6 enc Try.prog Try.f3 Rows.wireWritesUptoRow.domain false) (((Rows.OpenSpec.upto Rows.wireWritesSpec).at F).post enc Try.prog Try.f3 false true false false) := by
  refine returnsInHanded_of_cond (C := Try.checked) (s := Rows.OpenSpec.upto Rows.wireWritesSpec) (k := Rows.uptoSmall) rfl own started (by kernel_rfl) Try.func3
    (OpenSpec.witness (enc := enc) (C := Try.checked) (s := Rows.OpenSpec.upto Rows.wireWritesSpec) (k := Rows.uptoSmall) rfl false ⟨#[], #[.slice none 0 0, .slice none 0 0], []⟩ 8 (by kernel_rfl) (by kernel_rfl) (by kernel_rfl)
      (x := ([.nil, .nil], [], [])) (by kernel_rfl) rfl (by kernel_rfl)) ?_
  intro W base args ds gs before hval0 hW _ hk0 _
  have hk : Rows.uptoBulkAll (ds ++ gs) ≤ 1048576 := of_decide_eq_true hk0
  have hval : ∀ (j : Nat) t v, Try.f3.params[j]? = some t → args[j]? = some v → Value.okWide Try.prog W .any base t v := hval0
  have hW' := hW
  obtain ⟨p, q, hA0, hV, rfl, hfz, hnd⟩ := hW
  have hA : DataW.TrodAll enc Try.prog W 0 (fun _ => true) true Try.f3.params.toList args.toList ds p := hA0
  rw [Try.params3] at hA hval
  obtain ⟨v0, vs0, d0, ds0, p0, q0, hargs, rfl, rfl, h0, r0⟩ := trodAll_cons hA
  obtain ⟨v1, vs1, d1, ds1, p1, q1, rfl, rfl, rfl, h1, r1⟩ := trodAll_cons r0
  obtain ⟨rfl, rfl, rfl⟩ := trodAll_nil r1
  obtain rfl : args = #[v0, v1] := by cases args; simp_all
  obtain ⟨rfl, rfl⟩ := trodVars_none hV
  simp only [List.append_nil, Rows.uptoBulkAll] at hk
  have k0 := h0
  have lt0 : ∀ x ∈ p0, x.block < W.heap.size := by obtain ⟨m, hm⟩ := k0; exact DataW.trod_lt m _ _ _ hm
  have s0 : Rows.uptoBulk d0 ≤ 1048576 := by omega
  obtain ⟨b0, nn0, cc0, rfl⟩ := okWide_slice Try.underlying22 (hval 0 22 v0 rfl rfl)
  obtain ⟨fu0, hf0⟩ := h0
  obtain ⟨a0, len0, cap0, f0, e0, w0, m0⟩ := bytes_in_upto hf0 s0
  simp [Value.cells] at e0
  obtain ⟨rfl, rfl, rfl⟩ := e0
  have k1 := h1
  have lt1 : ∀ x ∈ p1, x.block < W.heap.size := by obtain ⟨m, hm⟩ := k1; exact DataW.trod_lt m _ _ _ hm
  have s1 : Rows.uptoBulk d1 ≤ 1048576 := by omega
  obtain ⟨b1, nn1, cc1, rfl⟩ := okWide_slice Try.underlying23 (hval 1 23 v1 rfl rfl)
  obtain ⟨fu1, hf1⟩ := h1
  obtain ⟨a1, len1, cap1, D1, N1, X1, L1, C1, F1, M1, e1, w1, m1⟩ := items_in_upto hf1 s1
  simp [Value.cells] at e1
  obtain ⟨rfl, rfl, rfl⟩ := e1
  clear hA0 hval0
  refine (walk b0 nn0 cc0 f0 b1 nn1 cc1 D1 N1 X1 L1 C1 F1 M1 W w0 m0 w1 m1).mono fun e W' ⟨he, bel⟩ => ?_
  subst he
  exact ⟨_, rfl, _, _, _, [], _, [], hW', trodAll_mk1 (shut_bool Try.underlying4 _), (trodAll_cons_mk (Below.trod laidOut (by kernel_rfl) (of_decide_eq_true (by kernel_rfl)) k0 bel lt0) (trodAll_cons_mk (Below.trod laidOut (by kernel_rfl) (of_decide_eq_true (by kernel_rfl)) k1 bel lt1) trodAll_mk0)), rfl, bel.frame _, fun h => by cases h⟩

theorem over : Rows.wireWritesUptoRow.holds Try.pinned (Rows.OpenSpec.upto Rows.wireWritesSpec) :=
  OpenClaim.holds_of_cond 3 Try.f3 rfl rfl rfl rfl rfl rfl rfl ⟨rfl, rfl, rfl, rfl, rfl⟩ rfl rfl rfl rfl rfl (by kernel_rfl) Try.func3 (by kernel_rfl)
    (of_decide_eq_true (by kernel_rfl)) (by unfold Func.isWrapper; first | (rw [if_pos (by decide +kernel)]; kernel_rfl) | (rw [if_neg (by decide +kernel)]; exact ⟨rfl, rfl⟩))
    (fun os started H enc _ F => lifted os started H enc F)

theorem proved : Rows.WireWritesUptoSaid := over
#print axioms proved
end Go.Proofs.Ytjodeceaogngfaa.wireWrites
