/-
  Whoever of any list is chosen stays so, if its weight grows, and who is not stays so, if its weight falls: 'mooringlaw16.StrawGrows' returns true and leaves its arguments as they were.
  Conditions: none.
-/
import Derived.Test.YthchbbebconojaaRows
import Derived.WalkKit
import Derived.ProofKit
import Derived.OpenShut
import Derived.SizedLaws
import Derived.ShutString
import Derived.ChangeOld
import Derived.Below
import Derived.Test.YthchbbebconojaaByRows
import Derived.Test.YthchbbebconojaaSrItem
import Derived.Test.YthchbbebconojaaSrWeight
import Derived.Lib.AppendZerosOnto
namespace Go.Proofs.Ythchbbebconojaa.strawGrows
open Go.ChangeShapes Go.WideShapes Go.ChangeAt Go.RowKit By
open Fl Mi Sr
set_option linter.unusedVariables false
set_option linter.unusedSimpArgs false
set_option maxRecDepth 100000

theorem own : ownKnob Try.prog.godebug = none := by kernel_rfl
theorem laidOut : laidOutB Try.prog = true := by kernel_rfl

set_option maxHeartbeats 8000000 in
theorem walk (x : Option Addr) (n c : Nat) (L : List Wd) (a b : Int) (a2 : Int) (w : World) (h : Ws w x n c L) (w2 : (Lit.int .u32 a2).wf = true) :
    Calls Try.prog 6 #[.slice x n c, .agg #[.int .i64 a, .int .i64 b], .int .u32 a2] w fun e w' => e = .returned (.bool true) ∧ Below w.heap.size w w' := by
  have b2 := bounds_u32 w2
  obtain ⟨y, rfl⟩ := Int.eq_ofNat_of_zero_le b2.1
  have hy : y < 4294967296 := by omega
  clear w2 b2
  have hm := h.small
  have b0 := al w (.cells #[.int .i64 a, .int .i64 b] 33)
  by_cases h0 : n = 0
  · subst h0
    go_enter Try.func6, Try.ntmps6
    go_wp2_with (go_at_call 10; refine (awake_any _).mono ?_; rintro e w4 ⟨rfl, hb4⟩)
    go_ret
    exact ⟨rfl, on b0 hb4⟩
  have hn1 : 1 ≤ n := by omega
  have hn0 : ((n : Int) == 0) = false := by simp; omega
  obtain ⟨q0, q1, i, hi, hT⟩ := place_of a n hn1
  obtain ⟨x', c', wC, hcp, HC⟩ := copy_big (h.below b0)
  rw [show (w.alloc (.cells #[.int .i64 a, .int .i64 b] 33)).heap.size = w.heap.size + 1 by simp] at hcp
  have HCC : Hid (Own wC (w.heap.size + 1) 23 2 enW (.slice x' n c') L) := by
    have := HC.out.1
    rw [show (w.alloc (.cells #[.int .i64 a, .int .i64 b] 33)).heap.size = w.heap.size + 1 by simp] at this
    exact this
  have hBC := HC.out.2
  clear HC
  obtain ⟨g, rfl, hg1, hg2, hcc⟩ := own_some HCC.out h.len hn1
  obtain ⟨m, hLm⟩ : ∃ m, L[i]? = some m := ⟨L[i]'(by have := h.len; omega), List.getElem?_eq_getElem (by have := h.len; omega)⟩
  have k1 := keep hBC (b := w.heap.size) (o := 1) (x := .int .i64 b) (by go_simp)
  have hfz : wC.frozen? ⟨g, i * 2 + 1, none⟩ = false := HCC.out.frozen
  have hkc : ∃ v, wC.cell? ⟨g, i * 2 + 1, none⟩ = some v := ⟨_, HCC.out.cell wrow.len hLm (j := 1) rfl⟩
  obtain ⟨v1, k2⟩ := hkc
  have HB : Hid (Below w.heap.size w (wC.setCell ⟨g, i * 2 + 1, none⟩ (.int .i64 b))) := (on b0 hBC).setCell (p := ⟨g, i * 2 + 1, none⟩) (show w.heap.size ≤ g by omega) _
  have ow : Own (wC.setCell ⟨g, i * 2 + 1, none⟩ (.int .i64 b)) (w.heap.size + 1) 23 2 enW (.slice (some ⟨g, 0, none⟩) n c') (L.set i ⟨m.id, b⟩) := own_turn HCC.out hLm b
  have HK : Hid (Ws (wC.setCell ⟨g, i * 2 + 1, none⟩ (.int .i64 b)) (some ⟨g, 0, none⟩) n c' (L.set i ⟨m.id, b⟩)) := own_ws ow (by rw [List.length_set, h.len]; exact hm)
  have c1 := choose_any (h.below HB.out) y 1 hy (by omega)
  have C2 : Hid (∀ W, Below (wC.setCell ⟨g, i * 2 + 1, none⟩ (.int .i64 b)).heap.size (wC.setCell ⟨g, i * 2 + 1, none⟩ (.int .i64 b)) W → Calls Try.prog 11 #[.slice (some ⟨g, 0, none⟩) n c', .int .u32 (y : Nat), .int .u32 1] W fun e w' => e = .returned (.int .i64 (cho (DL y 1 (L.set i ⟨m.id, b⟩)) n)) ∧ Below W.heap.size W w') := fun W hb => choose_any (HK.out.below hb) y 1 hy (by omega)
  have eqd : ∀ k, k ≠ i → DL y 1 L k = DL y 1 (L.set i ⟨m.id, b⟩) k := fun k hk => (DL_set (y := y) (r := 1) L ⟨m.id, b⟩ hk).symm
  have ea : DL y 1 L i = dO y 1 m := by unfold DL; rw [hLm]; rfl
  have eb : DL y 1 (L.set i ⟨m.id, b⟩) i = dO y 1 ⟨m.id, b⟩ := DL_at _ (by rw [h.len]; exact hi)
  have G1 : wv m ≤ wv ⟨m.id, b⟩ → cho (DL y 1 L) n = (i : Int) → cho (DL y 1 (L.set i ⟨m.id, b⟩)) n = (i : Int) := fun q => stays eqd ea eb rfl q
  have G2 : wv ⟨m.id, b⟩ ≤ wv m → cho (DL y 1 (L.set i ⟨m.id, b⟩)) n = (i : Int) → cho (DL y 1 L) n = (i : Int) := fun q => stays (fun k hk => (eqd k hk).symm) eb ea rfl q
  have hfin : (wv m < wv ⟨m.id, b⟩ ∧ cho (DL y 1 L) n = i ∧ cho (DL y 1 (L.set i ⟨m.id, b⟩)) n = i) ∨ (wv m < wv ⟨m.id, b⟩ ∧ (cho (DL y 1 L) n == (i : Int)) = false) ∨ (wv ⟨m.id, b⟩ = wv m ∧ cho (DL y 1 L) n = i ∧ cho (DL y 1 (L.set i ⟨m.id, b⟩)) n = i) ∨
      (wv ⟨m.id, b⟩ = wv m ∧ (cho (DL y 1 L) n == (i : Int)) = false ∧ (cho (DL y 1 (L.set i ⟨m.id, b⟩)) n != (i : Int)) = true) ∨ (wv ⟨m.id, b⟩ < wv m ∧ cho (DL y 1 L) n = i) ∨ (wv ⟨m.id, b⟩ < wv m ∧ (cho (DL y 1 L) n == (i : Int)) = false ∧ (cho (DL y 1 (L.set i ⟨m.id, b⟩)) n != (i : Int)) = true) := by
    by_cases e1 : cho (DL y 1 L) n = (i : Int)
    · rcases Int.lt_trichotomy (wv m) (wv ⟨m.id, b⟩) with q | q | q
      · exact .inl ⟨q, e1, G1 (by omega) e1⟩
      · exact .inr (.inr (.inl ⟨q.symm, e1, G1 (by omega) e1⟩))
      · exact .inr (.inr (.inr (.inr (.inl ⟨q, e1⟩))))
    · have e2 : (cho (DL y 1 L) n == (i : Int)) = false := by simpa using e1
      rcases Int.lt_trichotomy (wv m) (wv ⟨m.id, b⟩) with q | q | q
      · exact .inr (.inl ⟨q, e2⟩)
      · exact .inr (.inr (.inr (.inl ⟨q.symm, e2, by simpa using fun e3 => e1 (G2 (by omega) e3)⟩)))
      · exact .inr (.inr (.inr (.inr (.inr ⟨q, e2, by simpa using fun e3 => e1 (G2 (by omega) e3)⟩))))
  have d1 := fun W => weight_any m W
  have d2 := fun W => weight_any ⟨m.id, b⟩ W
  have HK0 : Hid ((wC.setCell ⟨g, i * 2 + 1, none⟩ (.int .i64 b)).cell? ⟨g, i * 2, none⟩ = some (.int .i64 m.id) ∧ (wC.setCell ⟨g, i * 2 + 1, none⟩ (.int .i64 b)).cell? ⟨g, i * 2 + 1, none⟩ = some (.int .i64 b)) := by
    have hs : (L.set i ⟨m.id, b⟩)[i]? = some ⟨m.id, b⟩ := List.getElem?_set_self (by rw [h.len]; exact hi)
    exact ⟨ow.cell wrow.len hs (j := 0) rfl, ow.cell wrow.len hs (j := 1) rfl⟩
  rcases (h.below HB.out).row with q | ⟨lb, lo, rfl, hlb, hcell⟩
  · omega
  have HK1 := hid (hcell i m hLm)
  clear ow hLm h HK HCC hcell G1 G2 eqd ea eb
  generalize cho (DL y 1 (L.set i ⟨m.id, b⟩)) n = R at *
  generalize cho (DL y 1 L) n = S at *
  have hii : (i : Int) < (n : Int) := by omega
  have hncc : (n : Int) ≤ (c' : Int) := by omega
  obtain ⟨T, eT⟩ : ∃ T, a.tmod (n : Int) = T := ⟨_, rfl⟩
  rw [eT] at hT q0 q1
  obtain ⟨id, wt⟩ := m
  unfold vW at d1 d2
  dsimp only at *
  obtain ⟨P, hP⟩ : ∃ P, wv ⟨id, wt⟩ = P := ⟨_, rfl⟩
  obtain ⟨I, hI⟩ : ∃ I, wv ⟨id, b⟩ = I := ⟨_, rfl⟩
  rw [hP] at d1 hfin
  rw [hI] at d2 hfin
  clear h0 hn1 hP hI
  rcases hT with ⟨ht, HT⟩ | ⟨ht, rfl⟩
  all_goals (
    rcases hfin with ⟨f1, rfl, rfl⟩ | ⟨f1, f2⟩ | ⟨rfl, rfl, rfl⟩ | ⟨rfl, f2, f3⟩ | ⟨f1, rfl⟩ | ⟨f1, f2, f3⟩
    all_goals (
      go_enter Try.func6, Try.ntmps6
      go_wp2_with (first
        | (at_builtin; refine Lib.wpList_append_run _ rfl _ _ _ _ rfl _ _ rfl rfl _ _ hcp ?_)
        | (go_at_call 11; refine c1.mono ?_; rintro e w1 ⟨rfl, hb1⟩; have c2 := C2.out _ hb1; clear c1)
        | (go_at_call 11; refine c2.mono ?_; rintro e w2 ⟨rfl, hb2⟩))
      have p0 := After.cell (keep (on hb1 hb2) HK0.out.1)
      have p1 := After.cell (keep (on hb1 hb2) HK0.out.2)
      have p2 := After.cell (keep (on hb1 hb2) HK1.out.1)
      have p3 := After.cell (keep (on hb1 hb2) HK1.out.2)
      have HBB := hid (on HB.out (on hb1 hb2))
      clear hcp k1 k2 hfz hBC c2 b0 hb1 hb2 HB C2 HK0 HK1
      haveI := After.ne w2
      refine wp_region_after (by kernel_rfl) (by kernel_rfl) ?_
      repeat (go_big_quiet_step ((first | (go_at_call 14; with_reducible refine Calls.after_of (d1 _)) | (go_at_call 14; with_reducible refine Calls.after_of (d2 _)))))
      refine wpQuiet_nil ?_
      rintro _ ⟨p, rfl⟩
      clear d1 d2 p0 p1 p2 p3
      go_wp2_with (go_at_call 10; refine (awake_any _).mono ?_; rintro e w4 ⟨rfl, hb4⟩)
      go_ret
      exact ⟨rfl, on HBB.out (on p.h hb4)⟩))

set_option maxRecDepth 100000 in
theorem lifted (os : Os) (started : os.Started) (H : Type) (enc : TypeId × Value → H) :
    ReturnsInHanded {} Try.checked os 6 .any (Rows.strawGrowsSpec.pre6 enc Try.prog Try.f6 Rows.strawGrowsRow.domain false) (Rows.strawGrowsSpec.post enc Try.prog Try.f6 false true false false) := by
  refine returnsInHanded_of_change_sized (C := Try.checked) own started (by kernel_rfl) Try.func6
    (ChangeSpec.witness6 (enc := enc) (C := Try.checked) false ⟨#[], #[.slice none 0 0, .agg #[.int .i64 0, .int .i64 0], .int .u32 0], []⟩ 8 (by kernel_rfl) (by kernel_rfl) (by kernel_rfl) (by kernel_rfl)) ?_
  intro W base args ds gs before hval0 hW hcnd hsz0 _
  have hsz : (DataW.weightsEach Try.prog (Try.f6.params.toList ++ Rows.strawGrowsSpec.plain.varTypes Try.prog) (ds ++ gs)).all (· ≤ reachBytes) = true := hsz0
  have hval : ∀ (j : Nat) t v, Try.f6.params[j]? = some t → args[j]? = some v → Value.okWide Try.prog W .any base t v := hval0
  have hW' := hW
  obtain ⟨p, q, hA0, hV, rfl, hfz, hnd⟩ := hW
  have hA : DataW.TrodAll enc Try.prog W 0 (fun _ => true) true Try.f6.params.toList args.toList ds p := hA0
  rw [Try.params6] at hA hval hsz
  obtain ⟨v0, vs0, d0, ds0, p0, q0, hargs, rfl, rfl, h0, r0⟩ := trodAll_cons hA
  obtain ⟨v1, vs1, d1, ds1, p1, q1, rfl, rfl, rfl, h1, r1⟩ := trodAll_cons r0
  obtain ⟨v2, vs2, d2, ds2, p2, q2, rfl, rfl, rfl, h2, r2⟩ := trodAll_cons r1
  obtain ⟨rfl, rfl, rfl⟩ := trodAll_nil r2
  obtain rfl : args = #[v0, v1, v2] := by cases args; simp_all
  obtain ⟨rfl, rfl⟩ := trodVars_none hV
  have k0 := h0
  have lt0 : ∀ x ∈ p0, x.block < W.heap.size := by obtain ⟨m, hm⟩ := k0; exact DataW.trod_lt m _ _ _ hm
  have s0 : ∀ x ∈ d0.weights Try.prog 29, x ≤ reachBytes := fun x hx => by
    have := List.all_eq_true.1 hsz x (DataW.weights_mem_each (j := 0) rfl rfl x hx)
    simpa using this
  obtain ⟨b0, nn0, cc0, rfl⟩ := okWide_slice Try.underlying29 (hval 0 29 v0 rfl rfl)
  obtain ⟨fu0, hf0⟩ := h0
  obtain ⟨a0, len0, cap0, V0, e0, w0⟩ := Sr.ws_in hf0 s0
  simp [Value.cells] at e0
  obtain ⟨rfl, rfl, rfl⟩ := e0
  have k1 := h1
  have lt1 : ∀ x ∈ p1, x.block < W.heap.size := by obtain ⟨m, hm⟩ := k1; exact DataW.trod_lt m _ _ _ hm
  have s1 : ∀ x ∈ d1.weights Try.prog 33, x ≤ reachBytes := fun x hx => by
    have := List.all_eq_true.1 hsz x (DataW.weights_mem_each (j := 1) rfl rfl x hx)
    simpa using this
  obtain ⟨V1, U1, rfl⟩ := Sr.two_in (Sr.okWide_array Try.underlying33 (hval 1 33 v1 rfl rfl)) h1
  obtain ⟨a2, rfl, rfl, rfl, w2⟩ := open_int Try.underlying24 (hval 2 24 v2 rfl rfl) h2
  clear hA0 hval0
  refine (walk b0 nn0 cc0 V0 V1 U1 a2 W w0 w2).mono fun e W' ⟨he, bel⟩ => ?_
  subst he
  exact ⟨_, rfl, _, _, _, [], _, [], hW', trodAll_mk1 (shut_bool Try.underlying4 _), (trodAll_cons_mk (Below.trod laidOut (by kernel_rfl) (of_decide_eq_true (by kernel_rfl)) k0 bel lt0) (trodAll_cons_mk (Below.trod laidOut (by kernel_rfl) (of_decide_eq_true (by kernel_rfl)) k1 bel lt1) (trodAll_cons_mk (shut_int Try.underlying24 w2) trodAll_mk0))), rfl, bel.frame _, fun h => by cases h⟩

theorem over : Rows.strawGrowsRow.holds Try.pinned (OpenSpec.ofChange Rows.strawGrowsSpec) :=
  OpenClaim.holds_of_wide 6 Try.f6 rfl rfl rfl rfl rfl rfl rfl ⟨rfl, rfl, rfl, rfl, rfl⟩ rfl rfl rfl rfl rfl (by kernel_rfl) Try.func6 (by kernel_rfl)
    (of_decide_eq_true (by kernel_rfl)) (by unfold Func.isWrapper; first | (rw [if_pos (by decide +kernel)]; kernel_rfl) | (rw [if_neg (by decide +kernel)]; exact ⟨rfl, rfl⟩))
    (fun os started H enc _ => lifted os started H enc)

theorem proved : Rows.StrawGrowsSaid := over
#print axioms proved
end Go.Proofs.Ythchbbebconojaa.strawGrows
