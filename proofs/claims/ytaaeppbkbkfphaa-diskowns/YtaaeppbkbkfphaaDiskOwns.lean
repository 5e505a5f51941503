/-
  A disk keeps bytes of its own: what is told may be turned: 'mooringlaw07.DiskOwns' returns true and leaves its arguments as they were.
  Conditions: none.
-/
import Derived.Test.YtaaeppbkbkfphaaRows
import Derived.WalkKit
import Derived.ProofKit
import Derived.OpenShut
import Derived.SizedLaws
import Derived.ShutString
import Derived.ChangeOld
import Derived.Below
import Derived.Test.YtaaeppbkbkfphaaByRows
import Derived.Test.YtaaeppbkbkfphaaDkItem
import Derived.Test.YtaaeppbkbkfphaaDkBump
namespace Go.Proofs.Ytaaeppbkbkfphaa.diskOwns
open Go.ChangeShapes Go.WideShapes Go.ChangeAt Go.RowKit By
open Dk
set_option linter.unusedVariables false
set_option linter.unusedSimpArgs false

theorem own : ownKnob Try.prog.godebug = none := by kernel_rfl
theorem laidOut : laidOutB Try.prog = true := by kernel_rfl

set_option maxHeartbeats 2000000 in
set_option maxRecDepth 100000 in
theorem walk_no (z : Int) (x : Option Addr) (l c : Nat) (f : Nat → Nat) (w : World) (hno : ¬ (0 ≤ z ∧ z < 4 ∧ l = 64)) (hl : l ≤ 140737488351232) :
    Calls Try.prog 5 #[.int .i64 z, .slice x l c] w fun e w' => e = .returned (.bool true) ∧ Below w.heap.size w w' := by
  have hN := dnew 4 4 rfl w (by omega) (by omega)
  obtain ⟨t, ht⟩ : ∃ t : Bool, t = decide (0 ≤ z ∧ z < 4) := ⟨_, rfl⟩
  have hH : ∀ p w1 F f A D, Dsk w.heap.size w w1 F p 4 0 f A D → Calls Try.prog 17 #[.pointer (some ⟨p, 0, none⟩), .int .i64 z, .slice x l c] w1 fun e w' => e = .returned (.int .i64 1) ∧ w' = w1 := fun p w1 F f A D h => by
    obtain ⟨gs, gn, R, s, q, hd⟩ := h.pd
    refine write_no _ z x l c t w1 (has_any _ 4 z t w1 (size_any p 4 4 _ w1 hd.c2) (fun h1 h2 => by rw [ht]; simpa using ⟨h1, h2⟩) (fun h1 => by rw [ht]; simpa using h1)) (fun h1 h2 => ?_)
    rw [ht] at h1
    have := of_decide_eq_true h1
    exact hno ⟨this.1, this.2, h2⟩
  clear ht hno
  go_enter Try.func5, Try.ntmps5
  go_wp2_with (first
    | (go_at_call 7; refine hN.mono ?_; rintro e w1 ⟨p, F, rfl, d1⟩; clear hN; have hW := hH p w1 F _ _ _ d1; have HB := hid d1.bel; clear hH d1)
    | (go_at_call 17; refine hW.mono ?_; rintro e w' ⟨rfl, hw⟩; subst w'; clear hW)
    | (go_at_call 9; refine (awake_any _).mono ?_; rintro e w5 ⟨rfl, hb5⟩))
  go_ret
  exact ⟨rfl, HB.out.trans (hb5.mono HB.out.size)⟩

set_option maxHeartbeats 4000000 in
set_option maxRecDepth 100000 in
theorem walk_yes (a : Nat) (x : Option Addr) (c : Nat) (g : Nat → Nat) (w : World) (ha : a < 4) (hx : RowAt w x 64 g) (hg : ∀ i, g i < 256) :
    Calls Try.prog 5 #[.int .i64 (a : Int), .slice x 64 c] w fun e w' => e = .returned (.bool true) ∧ Below w.heap.size w w' := by
  have hN := dnew 4 4 rfl w (by omega) (by omega)
  have HX := hid hx
  obtain ⟨S, hS⟩ : ∃ S, S = strOfNums (nums g 64) := ⟨_, rfl⟩
  have HS := hid hS
  have HG := hid hg
  clear hx hS hg
  go_enter Try.func5, Try.ntmps5
  go_wp2_with (first
    | (go_at_call 7; refine hN.mono ?_; rintro e w1 ⟨p, F, rfl, d1⟩; clear hN
       have hW := dwrite _ _ _ _ a c _ _ _ g _ x (a : Int) rfl w w1 d1 ha (HX.out.below d1.bel) HG.out (by omega)
       clear d1)
    | (go_at_call 17; refine hW.mono ?_; rintro e w2 ⟨rfl, t2, d2⟩; clear hW t2
       generalize grow F w1 w2 = F2 at d2
       have HF2 := hid d2.pd.flt
       have HS2 := hid d2.size
       have hR1 := dread _ _ _ _ a _ _ _ _ (a : Int) rfl w w2 d2 ha
       clear d2)
    | (go_at_call 12; refine hR1.mono ?_; rintro e w3 ⟨rfl, b3, d3, k3⟩; clear hR1
       have HD3 := hid d3
       have HK3 := hid k3
       have HB3 := hid b3
       clear b3 d3 k3))
  go_loopw [9] (fun i wr => ∃ k : Nat, k ≤ 64 ∧ i = .int .i64 k ∧ Hid (Turns (fun j => j = w2.heap.size) w3 wr ∧ Bump wr w2.heap.size 64)) (fun i _ => 64 - (intOf i).toNat)
  case atStart => exact ⟨0, by omega, rfl, Turns.refl _ _, Bump.blk HK3.out⟩
  case round =>
    obtain ⟨k, hk, rfl, HR⟩ := hrel
    by_cases hlt : k < 64
    · have hk6 : (k : Int) < 64 := by omega
      obtain ⟨T, hb⟩ := HR.out
      obtain ⟨⟨Z, c1⟩, f1⟩ := hb k hlt
      have HN : ∀ V : Int, Hid (Turns (fun j => j = w2.heap.size) w3 (wr.setCell ⟨w2.heap.size, k, none⟩ (.int .u8 V)) ∧ Bump (wr.setCell ⟨w2.heap.size, k, none⟩ (.int .u8 V)) w2.heap.size 64) := fun V => ⟨T.setCell (p := ⟨w2.heap.size, k, none⟩) (.inl rfl) _, hb.set k V⟩
      clear T hb HR
      go_wp2_with fail
      go_roundw
      case rel => exact ⟨k + 1, by omega, by go_num, HN _⟩
      case measure => simp [intOf]; omega
    · have hk2 : k = 64 := by omega
      subst hk2
      obtain ⟨T, hb⟩ := HR.out
      have hd4 := HD3.out.turns T (fun k hk => by rw [hk]; exact HS2.out) (fun k hk e => by have := HF2.out k hk; omega)
      have l3 : w2.heap.size < wr.heap.size := Nat.lt_of_lt_of_le HK3.out.lt T.size
      have HL3 := hid l3
      have hR2 := dread _ _ _ _ a _ _ _ _ (a : Int) rfl w wr hd4 ha
      clear T hb HR HD3 HK3 HB3 hd4 l3
      obtain ⟨w4, hw4⟩ : ∃ w4, w4 = wr := ⟨_, rfl⟩
      subst hw4
      go_wp2_with (first
        | (go_at_call 12; refine hR2.mono ?_; rintro e w5 ⟨rfl, b5, d5, k5⟩; clear hR2
           have hF1 := dflush _ _ _ _ _ _ _ _ w w5 d5
           have HK5 := hid k5
           clear b5 d5 k5)
        | (go_at_call 18; refine hF1.mono ?_; rintro e w6 ⟨rfl, t6, d6⟩; clear hF1
           have k6 := t6.far HK5.out (fun i hi => Nat.lt_trans (HF2.out i hi) HL3.out)
           have HK6 := hid k6
           have HD6 := hid d6
           have hDu := dump_any _ _ _ _ _ _ _ w6 d6.pd
           clear t6 d6 HK5 k6)
        | (go_at_call 14; refine hDu.mono ?_; rintro e w7 ⟨s, hs, rfl, b7, k7⟩; clear hDu
           obtain rfl : s = 256 := by omega
           have HD7 := hid (HD6.out.below b7)
           have k67 := HK6.out.of_heap (b7.block _ HK6.out.lt)
           have HK67 := hid k67
           have HK7 := hid k7
           have HL6 := hid (show w4.heap.size < w6.heap.size from HK6.out.lt)
           have HS6 := hid HD6.out.size
           have HFl := hid HD6.out.pd.flt
           clear b7 k7 k67 HK6 HD6 hs))
      go_loopw [13] (fun i wr => ∃ k : Nat, k ≤ 256 ∧ i = .int .i64 k ∧ Hid (Turns (fun j => j = w6.heap.size) w7 wr ∧ Bump wr w6.heap.size 256)) (fun i _ => 256 - (intOf i).toNat)
      case atStart => exact ⟨0, by omega, rfl, Turns.refl _ _, Bump.blk HK7.out⟩
      case round =>
        obtain ⟨k, hk, rfl, HR⟩ := hrel
        by_cases hlt : k < 256
        · have hk6 : (k : Int) < 256 := by omega
          obtain ⟨T, hb⟩ := HR.out
          obtain ⟨⟨Z, c1⟩, f1⟩ := hb k hlt
          have HN : ∀ V : Int, Hid (Turns (fun j => j = w6.heap.size) w7 (wr.setCell ⟨w6.heap.size, k, none⟩ (.int .u8 V)) ∧ Bump (wr.setCell ⟨w6.heap.size, k, none⟩ (.int .u8 V)) w6.heap.size 256) := fun V => ⟨T.setCell (p := ⟨w6.heap.size, k, none⟩) (.inl rfl) _, hb.set k V⟩
          clear T hb HR
          go_wp2_with fail
          go_roundw
          case rel => exact ⟨k + 1, by omega, by go_num, HN _⟩
          case measure => simp [intOf]; omega
        · have hk2 : k = 256 := by omega
          subst hk2
          obtain ⟨T, hb⟩ := HR.out
          have hd8 := HD7.out.turns T (fun k hk => by rw [hk]; exact HS6.out) (fun k hk e => by have := HFl.out k hk; omega)
          have ky := T.blk HK67.out (fun e => by have := HL6.out; omega)
          have HKy := hid ky
          have hR3 := dread _ _ _ _ a _ _ _ _ (a : Int) rfl w wr hd8 ha
          clear T hb HR HD7 HK67 HK7 hd8 ky
          have hfin : ∀ v, Below wr.heap.size wr v → Below w.heap.size w v → Blk v wr.heap.size 5 64 (fun i => .int .u8 (now (kept (fun _ => 0) (ext (fun _ => 0) 0 a) (ext (fun _ _ => 0) 0 g) (fun _ => true) (0 + 1)) (ext (fun _ => 0) 0 a) (ext (fun _ _ => 0) 0 g) a 0 i : Int)) →
              (convert 32 9 (.slice (some ⟨w4.heap.size, 0, none⟩) 64 64)).run Try.prog v = .ok (.string S) v ∧ (convert 32 9 (.slice (some ⟨wr.heap.size, 0, none⟩) 64 64)).run Try.prog v = .ok (.string S) v ∧ (convert 32 9 (.slice x 64 c)).run Try.prog v = .ok (.string S) v := fun v h1 h2 h3 => by
            refine ⟨?_, ?_, ?_⟩
            · rw [conv_row v _ 64 64 _ (HKy.out.of_heap (h1.block _ HKy.out.lt)).row, HS.out, str_congr (g := g) fun i hi => ?_]
              rw [now_ext]; simp
            · rw [conv_row v _ 64 64 _ h3.row, HS.out, str_congr (g := g) fun i hi => ?_]
              rw [now_zero, kept_all _ _ _ _ _ i hi, now_ext]; simp
            · rw [conv_row v _ 64 c g (HX.out.below h2), HS.out]
          go_wp2_with (first
            | (go_at_call 12; refine hR3.mono ?_; rintro e w8 ⟨rfl, b8, d8, k8⟩; clear hR3
               obtain ⟨v1, v2, v3⟩ := hfin w8 b8 d8.bel k8
               have HB8 := hid d8.bel
               clear b8 d8 k8 hfin)
            | (go_at_call 9; refine (awake_any _).mono ?_; rintro e w9 ⟨rfl, hb9⟩))
          go_ret
          exact ⟨rfl, HB8.out.trans (hb9.mono HB8.out.size)⟩

theorem walk (z : Int) (x : Option Addr) (l c : Nat) (f : Nat → Nat) (w : World) (hz : (Lit.int .i64 z).wf = true) (h : BytesIn w x l c f) :
    Calls Try.prog 5 #[.int .i64 z, .slice x l c] w fun e w' => e = .returned (.bool true) ∧ Below w.heap.size w w' := by
  by_cases hy : 0 ≤ z ∧ z < 4 ∧ l = 64
  · obtain ⟨h1, h2, rfl⟩ := hy
    obtain ⟨a, rfl⟩ : ∃ a : Nat, z = (a : Int) := ⟨z.toNat, by omega⟩
    exact walk_yes a x c f w (by omega) h.row h.lt
  · exact walk_no z x l c f w hy (by have := h.le; have := h.small; omega)

set_option maxRecDepth 100000 in
theorem lifted (os : Os) (started : os.Started) (H : Type) (enc : TypeId × Value → H) :
    ReturnsInHanded {} Try.checked os 5 .any (Rows.diskOwnsSpec.pre6 enc Try.prog Try.f5 Rows.diskOwnsRow.domain false) (Rows.diskOwnsSpec.post enc Try.prog Try.f5 false true false false) := by
  refine returnsInHanded_of_change_sized (C := Try.checked) own started (by kernel_rfl) Try.func5
    (ChangeSpec.witness6 (enc := enc) (C := Try.checked) false ⟨#[], #[.int .i64 0, .slice none 0 0], []⟩ 8 (by kernel_rfl) (by kernel_rfl) (by kernel_rfl) (by kernel_rfl)) ?_
  intro W base args ds gs before hval0 hW hcnd hsz0 _
  have hsz : (DataW.weightsEach Try.prog (Try.f5.params.toList ++ Rows.diskOwnsSpec.plain.varTypes Try.prog) (ds ++ gs)).all (· ≤ reachBytes) = true := hsz0
  have hval : ∀ (j : Nat) t v, Try.f5.params[j]? = some t → args[j]? = some v → Value.okWide Try.prog W .any base t v := hval0
  have hW' := hW
  obtain ⟨p, q, hA0, hV, rfl, hfz, hnd⟩ := hW
  have hA : DataW.TrodAll enc Try.prog W 0 (fun _ => true) true Try.f5.params.toList args.toList ds p := hA0
  rw [Try.params5] at hA hval hsz
  obtain ⟨v0, vs0, d0, ds0, p0, q0, hargs, rfl, rfl, h0, r0⟩ := trodAll_cons hA
  obtain ⟨v1, vs1, d1, ds1, p1, q1, rfl, rfl, rfl, h1, r1⟩ := trodAll_cons r0
  obtain ⟨rfl, rfl, rfl⟩ := trodAll_nil r1
  obtain rfl : args = #[v0, v1] := by cases args; simp_all
  obtain ⟨rfl, rfl⟩ := trodVars_none hV
  obtain ⟨a0, rfl, rfl, rfl, w0⟩ := open_int Try.underlying3 (hval 0 3 v0 rfl rfl) h0
  have k1 := h1
  have lt1 : ∀ x ∈ p1, x.block < W.heap.size := by obtain ⟨m, hm⟩ := k1; exact DataW.trod_lt m _ _ _ hm
  have s1 : ∀ x ∈ d1.weights Try.prog 32, x ≤ reachBytes := fun x hx => by
    have := List.all_eq_true.1 hsz x (DataW.weights_mem_each (j := 1) rfl rfl x hx)
    simpa using this
  obtain ⟨b1, nn1, cc1, rfl⟩ := okWide_slice Try.underlying32 (hval 1 32 v1 rfl rfl)
  obtain ⟨fu1, hf1⟩ := h1
  obtain ⟨a1, len1, cap1, f1, e1, w1⟩ := bytes_in hf1 s1
  simp [Value.cells] at e1
  obtain ⟨rfl, rfl, rfl⟩ := e1
  clear hA0 hval0
  refine (walk a0 b1 nn1 cc1 f1 W w0 w1).mono fun e W' ⟨he, bel⟩ => ?_
  subst he
  exact ⟨_, rfl, _, _, _, [], _, [], hW', trodAll_mk1 (shut_bool Try.underlying4 _), (trodAll_cons_mk (shut_int Try.underlying3 w0) (trodAll_cons_mk (Below.trod laidOut (by kernel_rfl) (of_decide_eq_true (by kernel_rfl)) k1 bel lt1) trodAll_mk0)), rfl, bel.frame _, fun h => by cases h⟩

theorem over : Rows.diskOwnsRow.holds Try.pinned (OpenSpec.ofChange Rows.diskOwnsSpec) :=
  OpenClaim.holds_of_wide 5 Try.f5 rfl rfl rfl rfl rfl rfl rfl ⟨rfl, rfl, rfl, rfl, rfl⟩ rfl rfl rfl rfl rfl (by kernel_rfl) Try.func5 (by kernel_rfl)
    (of_decide_eq_true (by kernel_rfl)) (by unfold Func.isWrapper; first | (rw [if_pos (by decide +kernel)]; kernel_rfl) | (rw [if_neg (by decide +kernel)]; exact ⟨rfl, rfl⟩))
    (fun os started H enc _ => lifted os started H enc)

theorem proved : Rows.DiskOwnsSaid := over
#print axioms proved
end Go.Proofs.Ytaaeppbkbkfphaa.diskOwns
