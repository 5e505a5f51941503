/-
  2 texts of this proof, one behind the other: AtSame, AtSame2.
-/
import Derived.Test.YtnddhlkdemibgaaJ02
/-
  Whether maps are alike: slices.Equal, atlas.Same, the document's Same.
  Conditions: lists lie in memory.
-/
namespace Go.Proofs.Ytnddhlkdemibgaa.At
open Go.RowKit By Fl
set_option linter.unusedVariables false
set_option linter.unusedSimpArgs false
set_option maxRecDepth 100000

theorem neq_osd (a b : Osd) (w : World) : (binOp .neq 28 (vO a) (vO b)).run Try.prog w = .ok (.bool (!eqO a b)) w := by
  obtain ⟨a0, a1, a2, a3, a4, a5, a6, a7⟩ := a
  obtain ⟨b0, b1, b2, b3, b4, b5, b6, b7⟩ := b
  unfold vO eqO
  dsimp only
  go_simp
  by_cases e0 : a0 = b0 <;> by_cases e1 : a1 = b1 <;> by_cases e2 : a2 = b2 <;> by_cases e3 : a3 = b3 <;> by_cases e4 : a4 = b4 <;> by_cases e5 : a5 = b5 <;> by_cases e6 : a6 = b6 <;> by_cases e7 : a7 = b7 <;> simp [e0, e1, e2, e3, e4, e5, e6, e7]

theorem eq_pool (a b : Pool) (w : World) : (binOp .eql 23 (vP a) (vP b)).run Try.prog w = .ok (.bool (eqP a b)) w := by
  obtain ⟨a0, a1, a2, a3⟩ := a
  obtain ⟨b0, b1, b2, b3⟩ := b
  unfold vP eqP
  dsimp only
  go_simp
  by_cases e0 : a0 = b0 <;> by_cases e1 : a1 = b1 <;> by_cases e2 : a2 = b2 <;> by_cases e3 : a3 = b3 <;> simp [e0, e1, e2, e3]

theorem neq_pool (a b : Pool) (w : World) : (binOp .neq 23 (vP a) (vP b)).run Try.prog w = .ok (.bool (!eqP a b)) w := by
  obtain ⟨a0, a1, a2, a3⟩ := a
  obtain ⟨b0, b1, b2, b3⟩ := b
  unfold vP eqP
  dsimp only
  go_simp
  by_cases e0 : a0 = b0 <;> by_cases e1 : a1 = b1 <;> by_cases e2 : a2 = b2 <;> by_cases e3 : a3 = b3 <;> simp [e0, e1, e2, e3]

theorem eqL_len {a b : List Osd} (h : a.length ≠ b.length) : eqL a b = false := by
  cases hq : eqL a b with
  | false => rfl
  | true => exact absurd (congrArg List.length ((eqL_iff a b).1 hq)) h

theorem eqL_bad {a b : List Osd} {k : Nat} {u v : Osd} (hu : a[k]? = some u) (hv : b[k]? = some v) (h : eqO u v = false) : eqL a b = false := by
  cases hq : eqL a b with
  | false => rfl
  | true =>
    have := (eqL_iff a b).1 hq
    subst this
    have := Option.some.inj (hu.symm.trans hv)
    subst this
    rw [(eqO_iff u u).2 rfl] at h
    cases h

def SameTo (a b : List Osd) (k : Nat) : Prop := ∀ (j : Nat) (u v : Osd), j < k → a[j]? = some u → b[j]? = some v → eqO u v = true

theorem SameTo.all {a b : List Osd} (h : SameTo a b a.length) (hl : a.length = b.length) : eqL a b = true := by
  rw [eqL_iff]
  apply List.ext_getElem?
  intro i
  by_cases hi : i < a.length
  · rw [List.getElem?_eq_getElem hi, List.getElem?_eq_getElem (by omega)]
    exact congrArg some ((eqO_iff _ _).1 (h i _ _ hi (List.getElem?_eq_getElem hi) (List.getElem?_eq_getElem (by omega))))
  · rw [List.getElem?_eq_none (by omega), List.getElem?_eq_none (by omega)]

theorem SameTo.step {a b : List Osd} {k : Nat} {u v : Osd} (h : SameTo a b k) (hu : a[k]? = some u) (hv : b[k]? = some v) (he : eqO u v = true) : SameTo a b (k + 1) := fun j u' v' hj hu' hv' => by
  by_cases e : j = k
  · subst e
    have h1 := Option.some.inj (hu.symm.trans hu')
    have h2 := Option.some.inj (hv.symm.trans hv')
    subst h1 h2
    exact he
  · exact h j u' v' (by omega) hu' hv'

set_option maxHeartbeats 1600000 in
theorem equal_any {w : World} {x y : Option Addr} {n c n' c' : Nat} {L M : List Osd} (h : Os w x n c L) (h' : Os w y n' c' M) :
    Calls Try.prog 42 #[.slice x n c, .slice y n' c'] w fun e w' => e = .returned (.bool (eqL L M)) ∧ Below w.heap.size w w' := by
  have hm := h.small
  have hm' := h'.small
  have HL := hid h.len
  have HM := hid h'.len
  by_cases hn : n = n'
  · subst hn
    have HO := hid h
    have HO' := hid h'
    clear h h'
    go_enter Try.func42, Try.ntmps42
    go_wp2_with fail
    go_loopw [13, 5] (fun i _ wr => ∃ q : Nat, q ≤ n ∧ i = .int .i64 q ∧ Hid (Below w.heap.size w wr ∧ SameTo L M q)) (fun i _ _ => n - (intOf i).toNat)
    case atStart => exact ⟨0, by omega, rfl, Below.refl _ _, fun j u v hj => by omega⟩
    case round =>
      obtain ⟨q, hq, rfl, HR⟩ := hrel
      by_cases hlt : q < n
      · have hqn : (q : Int) < (n : Int) := by omega
        obtain ⟨u, hu⟩ : ∃ a, L[q]? = some a := ⟨L[q]'(by have := HL.out; omega), List.getElem?_eq_getElem (by have := HL.out; omega)⟩
        obtain ⟨v, hv⟩ : ∃ a, M[q]? = some a := ⟨M[q]'(by have := HM.out; omega), List.getElem?_eq_getElem (by have := HM.out; omega)⟩
        have ho := HO.out.below HR.out.1
        have ho' := HO'.out.below HR.out.1
        rcases ho.row with h0 | ⟨b, o, rfl, hbl, hcell⟩
        · omega
        rcases ho'.row with h0 | ⟨b', o', rfl, hbl', hcell'⟩
        · omega
        obtain ⟨k0, k1, k2, k3, k4, k5, k6, k7⟩ := Os.at (n := n) (c := c) hcell hu
        obtain ⟨l0, l1, l2, l3, l4, l5, l6, l7⟩ := Os.at (n := n) (c := c) hcell' hv
        have hE := fun W => neq_osd u v W
        obtain ⟨t, ht⟩ : ∃ t, t = eqO u v := ⟨_, rfl⟩
        rw [← ht] at hE
        have HA := hid (show L[q]? = some u ∧ M[q]? = some v ∧ t = eqO u v from ⟨hu, hv, ht⟩)
        clear hcell hcell' hu hv ht ho ho'
        obtain ⟨u0, u1, u2, u3, u4, u5, u6, u7⟩ := u
        obtain ⟨v0, v1, v2, v3, v4, v5, v6, v7⟩ := v
        unfold vO at hE
        dsimp only at k0 k1 k2 k3 k4 k5 k6 k7 l0 l1 l2 l3 l4 l5 l6 l7 hE
        cases t with
        | true =>
          go_wp2_with fail
          go_quiet (fail)
          go_wp2_with fail
          go_roundw
          case rel => exact ⟨q + 1, by omega, by go_num, below_drewN' HR.out.1 _, HR.out.2.step HA.out.1 HA.out.2.1 HA.out.2.2.symm⟩
          case measure => simp [intOf]; omega
        | false =>
          go_wp2_with fail
          go_quiet (fail)
          go_wp2_with fail
          go_ret
          exact ⟨by rw [eqL_bad HA.out.1 HA.out.2.1 HA.out.2.2.symm]; rfl, below_drewN' HR.out.1 _⟩
      · have hq2 : q = n := by omega
        subst hq2
        go_wp2_with fail
        go_ret
        exact ⟨by rw [SameTo.all (by rw [HL.out]; exact HR.out.2) (by rw [HL.out, HM.out])]; rfl, HR.out.1⟩
  · have hne : (n : Int) ≠ (n' : Int) := by omega
    have HF : Hid (eqL L M = false) := eqL_len (by rw [h.len, h'.len]; exact hn)
    clear h h' hn
    go_enter Try.func42, Try.ntmps42
    go_wp2_with fail
    go_ret
    exact ⟨by rw [HF.out]; rfl, Below.refl _ _⟩

end Go.Proofs.Ytnddhlkdemibgaa.At

/-
  Whether maps are alike: atlas.Same, the document's Same.
  Conditions: lists lie in memory.
-/
namespace Go.Proofs.Ytnddhlkdemibgaa.At
open Go.RowKit By Fl
set_option linter.unusedVariables false
set_option linter.unusedSimpArgs false
set_option maxRecDepth 100000

set_option maxHeartbeats 1600000 in
theorem same_any {w : World} {x y : Option Addr} {n c n' c' : Nat} (a b : Mp) (h : Os w x n c a.osds) (h' : Os w y n' c' b.osds) :
    Calls Try.prog 22 #[vM a.ep a.pool x n c, vM b.ep b.pool y n' c'] w fun e w' => e = .returned (.bool (eqM a b)) ∧ Below w.heap.size w w' := by
  obtain ⟨ea, pa, L⟩ := a
  obtain ⟨eb, pb, M⟩ := b
  have hE := fun W => eq_pool pa pb W
  unfold eqM
  dsimp only at h h' ⊢
  have b0 := on (al w (.cells #[.int .i64 ea, .int .i64 pa.k, .int .i64 pa.m, .int .i64 pa.pgs, .int .i64 pa.dom, .slice x n c] 26)) (al _ (.cells #[.int .i64 eb, .int .i64 pb.k, .int .i64 pb.m, .int .i64 pb.pgs, .int .i64 pb.dom, .slice y n' c'] 26))
  have hQ := equal_any (h.below b0) (h'.below b0)
  generalize eqP pa pb = t1 at *
  generalize eqL L M = t2 at *
  obtain ⟨a1, a2, a3, a4⟩ := pa
  obtain ⟨b1, b2, b3, b4⟩ := pb
  unfold vM
  unfold vP at hE
  dsimp only at hE hQ b0 ⊢
  clear h h'
  by_cases e : ea = eb
  · subst e
    cases t1 with
    | false =>
      go_enter Try.func22, Try.ntmps22
      go_wp2_with fail
      go_ret
      exact ⟨by simp, b0⟩
    | true =>
      go_enter Try.func22, Try.ntmps22
      go_wp2_with (go_at_call 42; refine hQ.mono ?_; rintro e w2 ⟨rfl, hb2⟩; clear hQ)
      go_ret
      exact ⟨by simp, on b0 hb2⟩
  · have hne : ea ≠ eb := e
    go_enter Try.func22, Try.ntmps22
    go_wp2_with fail
    go_ret
    exact ⟨by simp [e], b0⟩

set_option maxHeartbeats 1600000 in
theorem rsame_any {w : World} {x y : Option Addr} {n c n' c' : Nat} (a b : Mp) (h : Os w x n c a.osds) (h' : Os w y n' c' b.osds) :
    Calls Try.prog 14 #[vM a.ep a.pool x n c, vM b.ep b.pool y n' c'] w fun e w' => e = .returned (.bool (eqM a b)) ∧ Below w.heap.size w w' := by
  obtain ⟨ea, pa, L⟩ := a
  obtain ⟨eb, pb, M⟩ := b
  have hE := fun W => neq_pool pa pb W
  unfold eqM
  dsimp only at h h' ⊢
  have hm := h.small
  have hm' := h'.small
  have b0 := on (al w (.cells #[.int .i64 ea, .int .i64 pa.k, .int .i64 pa.m, .int .i64 pa.pgs, .int .i64 pa.dom, .slice x n c] 26)) (al _ (.cells #[.int .i64 eb, .int .i64 pb.k, .int .i64 pb.m, .int .i64 pb.pgs, .int .i64 pb.dom, .slice y n' c'] 26))
  have HO := hid (h.below b0)
  have HO' := hid (h'.below b0)
  have HL := hid h.len
  have HM := hid h'.len
  have k5 : ((w.alloc (.cells #[.int .i64 ea, .int .i64 pa.k, .int .i64 pa.m, .int .i64 pa.pgs, .int .i64 pa.dom, .slice x n c] 26)).alloc (.cells #[.int .i64 eb, .int .i64 pb.k, .int .i64 pb.m, .int .i64 pb.pgs, .int .i64 pb.dom, .slice y n' c'] 26)).cell? ⟨w.heap.size, 5, none⟩ = some (.slice x n c) := by go_simp
  have l5 : ((w.alloc (.cells #[.int .i64 ea, .int .i64 pa.k, .int .i64 pa.m, .int .i64 pa.pgs, .int .i64 pa.dom, .slice x n c] 26)).alloc (.cells #[.int .i64 eb, .int .i64 pb.k, .int .i64 pb.m, .int .i64 pb.pgs, .int .i64 pb.dom, .slice y n' c'] 26)).cell? ⟨w.heap.size + 1, 5, none⟩ = some (.slice y n' c') := by go_simp
  have HK := hid (And.intro k5 l5)
  generalize eqP pa pb = t1 at *
  obtain ⟨a1, a2, a3, a4⟩ := pa
  obtain ⟨b1, b2, b3, b4⟩ := pb
  unfold vM
  unfold vP at hE
  have HB := hid b0
  dsimp only at hE HB HK HO HO' ⊢
  clear h h' k5 l5 b0
  by_cases e : ea = eb
  · subst e
    cases t1 with
    | false =>
      go_enter Try.func14, Try.ntmps14
      go_wp2_with fail
      go_ret
      exact ⟨by simp, HB.out⟩
    | true =>
      by_cases hn : n = n'
      · subst hn
        go_enter Try.func14, Try.ntmps14
        go_wp2_with fail
        generalize (w.alloc (.cells #[.int .i64 ea, .int .i64 a1, .int .i64 a2, .int .i64 a3, .int .i64 a4, .slice x n c] 26)).alloc (.cells #[.int .i64 ea, .int .i64 b1, .int .i64 b2, .int .i64 b3, .int .i64 b4, .slice y n c'] 26) = w0 at *
        go_loopw [5] (fun i wr => ∃ q : Nat, q ≤ n ∧ i = .int .i64 q ∧ Hid (Below w0.heap.size w0 wr ∧ SameTo L M q)) (fun i _ => n - (intOf i).toNat)
        case atStart => exact ⟨0, by omega, rfl, Below.refl _ _, fun j u v hj => by omega⟩
        case round =>
          obtain ⟨q, hq, rfl, HR⟩ := hrel
          have k5 := keep HR.out.1 HK.out.1
          have j5 := keep HR.out.1 HK.out.2
          by_cases hlt : q < n
          · have hqn : (q : Int) < (n : Int) := by omega
            obtain ⟨u, hu⟩ : ∃ a, L[q]? = some a := ⟨L[q]'(by have := HL.out; omega), List.getElem?_eq_getElem (by have := HL.out; omega)⟩
            obtain ⟨v, hv⟩ : ∃ a, M[q]? = some a := ⟨M[q]'(by have := HM.out; omega), List.getElem?_eq_getElem (by have := HM.out; omega)⟩
            have ho := HO.out.below HR.out.1
            have ho' := HO'.out.below HR.out.1
            rcases ho.row with h0 | ⟨b, o, rfl, hbl, hcell⟩
            · omega
            rcases ho'.row with h0 | ⟨b', o', rfl, hbl', hcell'⟩
            · omega
            obtain ⟨k0, k1, k2, k3, k4, k5', k6, k7⟩ := Os.at (n := n) (c := c) hcell hu
            obtain ⟨l0, l1, l2, l3, l4, l5', l6, l7⟩ := Os.at (n := n) (c := c) hcell' hv
            have hE2 := fun W => neq_osd u v W
            obtain ⟨t, ht⟩ : ∃ t, t = eqO u v := ⟨_, rfl⟩
            rw [← ht] at hE2
            have HA := hid (show L[q]? = some u ∧ M[q]? = some v ∧ t = eqO u v from ⟨hu, hv, ht⟩)
            clear hcell hcell' hu hv ht ho ho' hE
            obtain ⟨u0, u1, u2, u3, u4, u5, u6, u7⟩ := u
            obtain ⟨v0, v1, v2, v3, v4, v5, v6, v7⟩ := v
            unfold vO at hE2
            dsimp only at k0 k1 k2 k3 k4 k5' k6 k7 l0 l1 l2 l3 l4 l5' l6 l7 hE2
            cases t with
            | true =>
              go_wp2_with fail
              go_quiet (fail)
              go_wp2_with fail
              go_roundw
              case rel => exact ⟨q + 1, by omega, by go_num, below_drewN' HR.out.1 _, HR.out.2.step HA.out.1 HA.out.2.1 HA.out.2.2.symm⟩
              case measure => simp [intOf]; omega
            | false =>
              go_wp2_with fail
              go_quiet (fail)
              go_wp2_with fail
              go_ret
              exact ⟨by rw [eqL_bad HA.out.1 HA.out.2.1 HA.out.2.2.symm]; simp, on HB.out (below_drewN' HR.out.1 _)⟩
          · have hq2 : q = n := by omega
            subst hq2
            go_wp2_with fail
            go_ret
            exact ⟨by rw [SameTo.all (by rw [HL.out]; exact HR.out.2) (by rw [HL.out, HM.out])]; simp, on HB.out HR.out.1⟩
      · have hne : (n : Int) ≠ (n' : Int) := by omega
        have HF : Hid (eqL L M = false) := eqL_len (by rw [HL.out, HM.out]; exact hn)
        clear hn
        go_enter Try.func14, Try.ntmps14
        go_wp2_with fail
        go_ret
        exact ⟨by rw [HF.out]; simp, HB.out⟩
  · have hne : ea ≠ eb := e
    go_enter Try.func14, Try.ntmps14
    go_wp2_with fail
    go_ret
    exact ⟨by simp [e], HB.out⟩

end Go.Proofs.Ytnddhlkdemibgaa.At
