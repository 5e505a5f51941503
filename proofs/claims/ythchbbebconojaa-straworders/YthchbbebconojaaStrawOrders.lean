/-
  In which order those of any list stand does not matter, if no two draw alike: 'mooringlaw16.StrawOrders' returns true and leaves its arguments as they were.
  Conditions: none.
-/
import Derived.Test.YthchbbebconojaaRows
import Derived.WalkKit
import Derived.ProofKit
import Derived.OpenShut
import Derived.SizedLaws
import Derived.ShutString
import Derived.ChangeOld
import Derived.Below
import Derived.Test.YthchbbebconojaaByRows
import Derived.Test.YthchbbebconojaaSrItem
import Derived.Test.YthchbbebconojaaSrMap
import Derived.Lib.AppendZerosOnto
namespace Go.Proofs.Ythchbbebconojaa.strawOrders
open Go.ChangeShapes Go.WideShapes Go.ChangeAt Go.RowKit By
open Fl Mi Sr
set_option linter.unusedVariables false
set_option linter.unusedSimpArgs false
set_option maxRecDepth 100000

theorem own : ownKnob Try.prog.godebug = none := by kernel_rfl
theorem laidOut : laidOutB Try.prog = true := by kernel_rfl

set_option maxHeartbeats 1600000 in
theorem walk (x : Option Addr) (n c : Nat) (L : List Wd) (a1 a2 : Int) (w : World) (h : Ws w x n c L) (w1 : (Lit.int .u32 a1).wf = true) (w2 : (Lit.int .u32 a2).wf = true) :
    Calls Try.prog 7 #[.slice x n c, .int .u32 a1, .int .u32 a2] w fun e w' => e = .returned (.bool true) ∧ Below w.heap.size w w' := by
  have b1 := bounds_u32 w1
  obtain ⟨y, rfl⟩ := Int.eq_ofNat_of_zero_le b1.1
  have hy : y < 4294967296 := by omega
  have b2 := bounds_u32 w2
  obtain ⟨r, rfl⟩ := Int.eq_ofNat_of_zero_le b2.1
  have hr : r < 4294967296 := by omega
  clear w1 w2 b1 b2
  have hm := h.small
  have HO : Hid (Ws w x n c L) := h
  have HL : Hid (L.length = n) := h.len
  clear h
  have H0 : Hid (Bk w ((w.alloc (.cells #[] 23)).alloc (.map #[] 0)) y r n L (w.heap.size + 1) n (.slice (some ⟨w.heap.size, 0, none⟩) 0 0) 0 (.map []) (fun _ => false)) := by
    have e1 := Own.empty w (B := w.heap.size) (Nat.le_refl _) 23 2 enW
    have m1 := BmAt.new (w.alloc (.cells #[] 23))
    rw [show (w.alloc (.cells #[] 23)).heap.size = w.heap.size + 1 by simp] at m1
    refine ⟨on (al _ _) (al _ _), ?_, m1, by omega, by omega, fun d => ⟨(fun e => by cases e), (fun ⟨q, q1, q2, _⟩ => by omega)⟩, fun p q d p1 p2 => by omega⟩
    rw [List.drop_eq_nil_of_le (by rw [HL.out]; exact Nat.le_refl _)]
    exact e1.below (al _ _)
  have hmk : ∀ W : World, (Instr.makeMap 36 none).run Try.prog W = .ok (.map (some W.heap.size)) (W.alloc (.map #[] 0)) := fun W => by kernel_rfl
  go_enter Try.func7, Try.ntmps7
  go_wp2_with fail
  go_loopw [9, 7] (fun i R wr => ∃ j nb D M Q, j ≤ n ∧ i = .int .i64 ((j : Int) - 1) ∧ R = Q ∧ Hid (Bk w wr y r n L (w.heap.size + 1) j Q nb D M)) (fun i _ _ => (intOf i + 1).toNat)
  case atStart => exact ⟨n, 0, .map [], _, _, Nat.le_refl _, rfl, rfl, H0.out⟩
  case round =>
    obtain ⟨j, nb, D, M, R, hj, rfl, eR, HR⟩ := hrel
    have eR2 := eR.symm
    clear eR
    subst eR2
    by_cases hlt : 0 < j
    · obtain ⟨k, rfl⟩ : ∃ k, j = k + 1 := ⟨j - 1, by omega⟩
      rw [show ((k + 1 : Nat) : Int) - 1 = (k : Int) by omega]
      have hkn : (k : Int) < (n : Int) := by omega
      obtain ⟨m, hLm⟩ : ∃ m, L[k]? = some m := ⟨L[k]'(by have := HL.out; omega), List.getElem?_eq_getElem (by have := HL.out; omega)⟩
      have HM := hid hLm
      rcases HO.out.row with h0 | ⟨b, o, rfl, hbl, hcell⟩
      · omega
      have HC := hid (hcell k m hLm)
      have k0 := keep HR.out.bel HC.out.1
      have k1 := keep HR.out.bel HC.out.2
      have c1 := fun W => draw_any m y r W hy hr
      have hdl := dr_lt y r m
      unfold dV at c1
      clear hLm hcell H0
      cases hok : okB m with
      | false =>
        rw [hok] at c1
        simp only [Bool.false_eq_true, if_false] at c1
        have HK := hid hok
        clear hok
        obtain ⟨id, wt⟩ := m
        unfold vW at c1
        dsimp only at k0 k1 c1
        go_wp2_with (first
          | (go_at_call 8; refine (c1 _).mono ?_; rintro e w1 ⟨rfl, hb1⟩; clear c1; have j0 := keep hb1 k0; have j1 := keep hb1 k1; obtain ⟨R', wp, hap, HP⟩ := (HR.out.below hb1).skip HL.out hm HM.out HK.out; dsimp only at hap)
          | (at_builtin; refine Lib.wpList_append_run _ rfl _ _ _ _ rfl _ _ rfl rfl _ _ hap ?_))
        go_roundw
        case rel => exact ⟨k, nb, D, M, _, by omega, by go_num, rfl, HP.out⟩
        case measure => simp [intOf]
      | true =>
        rw [hok] at c1
        simp only [if_true] at c1
        cases hmet : M (dr y r m) with
        | true =>
          have HK : Hid (M (dr y r m) = true) := hmet
          clear hok hmet
          obtain ⟨d, hd⟩ : ∃ d, d = dr y r m := ⟨_, rfl⟩
          rw [← hd] at c1 HK hdl
          clear hd HM
          obtain ⟨id, wt⟩ := m
          unfold vW at c1
          dsimp only at k0 k1 c1
          go_wp2_with (first
            | (go_at_call 8; refine (c1 _).mono ?_; rintro e w1 ⟨rfl, hb1⟩; clear c1; have hlk := (HR.out.below hb1).map.look d hdl; rw [HK.out] at hlk)
            | (go_at_call 10; refine (awake_any _).mono ?_; rintro e w4 ⟨rfl, hb4⟩))
          go_ret
          exact ⟨rfl, on (on HR.out.bel hb1) hb4⟩
        | false =>
          have HK : Hid (M (dr y r m) = false) := hmet
          have HT : Hid (∀ W, Below wr.heap.size wr W → ∃ wm, (Instr.mapUpdate 36 (.map (some (w.heap.size + 1))) (.int .i64 (dr y r m : Int)) (.bool true)).run Try.prog W = .ok () wm ∧ Below w.heap.size w wm ∧ ∃ R' w', (Builtin.append_ #[29, 29] 29 #[R, .slice (some ⟨wm.heap.size, 0, none⟩) 1 1]).run Try.prog (wm.alloc (.cells #[.int .i64 m.id, .int .i64 m.wt] 23)) = .ok R' w' ∧
              Hid (∃ D' M', Bk w w' y r n L (w.heap.size + 1) k R' (nb + 1) D' M')) := fun W hb => by
            obtain ⟨wm, q1, q2, _, R', w', q3, q4⟩ := (HR.out.below hb).take HL.out hm HM.out hok hmet
            exact ⟨wm, q1, q2, R', w', q3, q4⟩
          clear hok hmet
          obtain ⟨d, hd⟩ : ∃ d, d = dr y r m := ⟨_, rfl⟩
          rw [← hd] at c1 HK hdl HT
          clear hd HM
          obtain ⟨id, wt⟩ := m
          unfold vW at c1
          dsimp only at k0 k1 c1 HT HC
          go_wp2_with (first
            | (go_at_call 8; refine (c1 _).mono ?_; rintro e w1 ⟨rfl, hb1⟩; clear c1; have hlk := (HR.out.below hb1).map.look d hdl; rw [HK.out] at hlk; obtain ⟨wm, hup, hbm, R', wp, hap, HP⟩ := HT.out _ hb1; have j0 := keep hbm HC.out.1; have j1 := keep hbm HC.out.2)
            | (at_builtin; refine Lib.wpList_append_run _ rfl _ _ _ _ rfl _ _ rfl rfl _ _ hap ?_))
          go_roundw
          case rel =>
            obtain ⟨D', M', q⟩ := HP.out
            exact ⟨k, nb + 1, D', M', _, by omega, by go_num, rfl, q⟩
          case measure => simp [intOf]
    · have hj0 : j = 0 := by omega
      subst hj0
      have own := HR.out.own
      rw [List.drop_zero] at own
      obtain ⟨x2, c2, rfl, _, _, _⟩ := own.form
      rw [List.length_reverse, HL.out] at own ⊢
      have HW : Hid (Ws wr x2 n c2 L.reverse) := own_ws own (by rw [List.length_reverse, HL.out]; exact hm)
      have d1 := choose_any (HO.out.below HR.out.bel) y r hy hr
      have D2 : Hid (∀ W, Below wr.heap.size wr W → Calls Try.prog 11 #[.slice x2 n c2, .int .u32 (y : Nat), .int .u32 (r : Nat)] W fun e w' => e = .returned (.int .i64 (cho (DL y r L.reverse) n)) ∧ Below W.heap.size W w') := fun W hb => choose_any (HW.out.below hb) y r hy hr
      have hq := turned (D := DL y r L) (E := DL y r L.reverse) (n := n) (fun k hk => by rw [DL_rev L k (by rw [HL.out]; exact hk), HL.out]) (fun p q d hp hq e1 e2 => HR.out.one p q d (Nat.zero_le _) hp (Nat.zero_le _) hq e1 e2)
      have g1 := cho_ge (DL y r L) n
      have g2 := cho_ge (DL y r L.reverse) n
      have HB := hid HR.out.bel
      clear own HW HR H0
      generalize cho (DL y r L) n = S at *
      generalize cho (DL y r L.reverse) n = P at *
      rcases hq with ⟨e1, e2⟩ | ⟨e1, e2, e3⟩
      · obtain rfl : S = -1 := by omega
        obtain rfl : P = -1 := by omega
        clear g1 g2 e1 e2
        go_wp2_with (first
          | (go_at_call 11; refine d1.mono ?_; rintro e w1 ⟨rfl, hb1⟩; have d2 := D2.out _ hb1; clear d1)
          | (go_at_call 11; refine d2.mono ?_; rintro e w2 ⟨rfl, hb2⟩)
          | (go_at_call 10; refine (awake_any _).mono ?_; rintro e w4 ⟨rfl, hb4⟩))
        go_ret
        exact ⟨rfl, on HB.out (on (on hb1 hb2) hb4)⟩
      · subst e3
        obtain ⟨p, rfl⟩ := Int.eq_ofNat_of_zero_le e2
        have l1 : (p : Int) < (n : Int) := g2.2
        clear g1 g2
        go_wp2_with (first
          | (go_at_call 11; refine d1.mono ?_; rintro e w1 ⟨rfl, hb1⟩; have d2 := D2.out _ hb1; clear d1)
          | (go_at_call 11; refine d2.mono ?_; rintro e w2 ⟨rfl, hb2⟩)
          | (go_at_call 10; refine (awake_any _).mono ?_; rintro e w4 ⟨rfl, hb4⟩))
        go_ret
        exact ⟨rfl, on HB.out (on (on hb1 hb2) hb4)⟩

set_option maxRecDepth 100000 in
theorem lifted (os : Os) (started : os.Started) (H : Type) (enc : TypeId × Value → H) :
    ReturnsInHanded {} Try.checked os 7 .any (Rows.strawOrdersSpec.pre6 enc Try.prog Try.f7 Rows.strawOrdersRow.domain false) (Rows.strawOrdersSpec.post enc Try.prog Try.f7 false true false false) := by
  refine returnsInHanded_of_change_sized (C := Try.checked) own started (by kernel_rfl) Try.func7
    (ChangeSpec.witness6 (enc := enc) (C := Try.checked) false ⟨#[], #[.slice none 0 0, .int .u32 0, .int .u32 0], []⟩ 8 (by kernel_rfl) (by kernel_rfl) (by kernel_rfl) (by kernel_rfl)) ?_
  intro W base args ds gs before hval0 hW hcnd hsz0 _
  have hsz : (DataW.weightsEach Try.prog (Try.f7.params.toList ++ Rows.strawOrdersSpec.plain.varTypes Try.prog) (ds ++ gs)).all (· ≤ reachBytes) = true := hsz0
  have hval : ∀ (j : Nat) t v, Try.f7.params[j]? = some t → args[j]? = some v → Value.okWide Try.prog W .any base t v := hval0
  have hW' := hW
  obtain ⟨p, q, hA0, hV, rfl, hfz, hnd⟩ := hW
  have hA : DataW.TrodAll enc Try.prog W 0 (fun _ => true) true Try.f7.params.toList args.toList ds p := hA0
  rw [Try.params7] at hA hval hsz
  obtain ⟨v0, vs0, d0, ds0, p0, q0, hargs, rfl, rfl, h0, r0⟩ := trodAll_cons hA
  obtain ⟨v1, vs1, d1, ds1, p1, q1, rfl, rfl, rfl, h1, r1⟩ := trodAll_cons r0
  obtain ⟨v2, vs2, d2, ds2, p2, q2, rfl, rfl, rfl, h2, r2⟩ := trodAll_cons r1
  obtain ⟨rfl, rfl, rfl⟩ := trodAll_nil r2
  obtain rfl : args = #[v0, v1, v2] := by cases args; simp_all
  obtain ⟨rfl, rfl⟩ := trodVars_none hV
  have k0 := h0
  have lt0 : ∀ x ∈ p0, x.block < W.heap.size := by obtain ⟨m, hm⟩ := k0; exact DataW.trod_lt m _ _ _ hm
  have s0 : ∀ x ∈ d0.weights Try.prog 29, x ≤ reachBytes := fun x hx => by
    have := List.all_eq_true.1 hsz x (DataW.weights_mem_each (j := 0) rfl rfl x hx)
    simpa using this
  obtain ⟨b0, nn0, cc0, rfl⟩ := okWide_slice Try.underlying29 (hval 0 29 v0 rfl rfl)
  obtain ⟨fu0, hf0⟩ := h0
  obtain ⟨a0, len0, cap0, V0, e0, w0⟩ := Sr.ws_in hf0 s0
  simp [Value.cells] at e0
  obtain ⟨rfl, rfl, rfl⟩ := e0
  obtain ⟨a1, rfl, rfl, rfl, w1⟩ := open_int Try.underlying24 (hval 1 24 v1 rfl rfl) h1
  obtain ⟨a2, rfl, rfl, rfl, w2⟩ := open_int Try.underlying24 (hval 2 24 v2 rfl rfl) h2
  clear hA0 hval0
  refine (walk b0 nn0 cc0 V0 a1 a2 W w0 w1 w2).mono fun e W' ⟨he, bel⟩ => ?_
  subst he
  exact ⟨_, rfl, _, _, _, [], _, [], hW', trodAll_mk1 (shut_bool Try.underlying4 _), (trodAll_cons_mk (Below.trod laidOut (by kernel_rfl) (of_decide_eq_true (by kernel_rfl)) k0 bel lt0) (trodAll_cons_mk (shut_int Try.underlying24 w1) (trodAll_cons_mk (shut_int Try.underlying24 w2) trodAll_mk0))), rfl, bel.frame _, fun h => by cases h⟩

theorem over : Rows.strawOrdersRow.holds Try.pinned (OpenSpec.ofChange Rows.strawOrdersSpec) :=
  OpenClaim.holds_of_wide 7 Try.f7 rfl rfl rfl rfl rfl rfl rfl ⟨rfl, rfl, rfl, rfl, rfl⟩ rfl rfl rfl rfl rfl (by kernel_rfl) Try.func7 (by kernel_rfl)
    (of_decide_eq_true (by kernel_rfl)) (by unfold Func.isWrapper; first | (rw [if_pos (by decide +kernel)]; kernel_rfl) | (rw [if_neg (by decide +kernel)]; exact ⟨rfl, rfl⟩))
    (fun os started H enc _ => lifted os started H enc)

theorem proved : Rows.StrawOrdersSaid := over
#print axioms proved
end Go.Proofs.Ythchbbebconojaa.strawOrders
