/-
  2 texts of this proof, one behind the other: AtRefMay, AtRefApp1.
-/
import Derived.Test.YtnddhlkdemibgaaJ07
/-
  The document's May.
  Conditions: the list lies in memory.
-/
namespace Go.Proofs.Ytnddhlkdemibgaa.At
open Go.RowKit By Fl
set_option linter.unusedVariables false
set_option linter.unusedSimpArgs false
set_option maxRecDepth 100000

/- The i-th one is as it should be, as far as the first q of the list tell. -/
def LowTo (L : List Osd) (a : Osd) (q : Nat) : Prop := ∀ (j : Nat) (b : Osd), j < q → L[j]? = some b → lowB a b = true

set_option maxHeartbeats 6400000 in
theorem rmay_any {w : World} {x : Option Addr} {n c : Nat} (m : Mp) (h : Os w x n c m.osds) :
    Calls Try.prog 16 #[vM m.ep m.pool x n c] w fun e w' => e = .returned (.bool (mayM m)) ∧ Below w.heap.size w w' := by
  obtain ⟨ep, p, L⟩ := m
  have hW := fun n a b W => rwithin_any n a b W
  have hP := fun W => rpool_any p W
  have HL := hid h.len
  have hm := h.small
  unfold mayM osdsB
  dsimp only at h HL ⊢
  generalize poolB p = tp at *
  obtain ⟨k, mm, g, d⟩ := p
  unfold vM
  unfold vP at hP
  dsimp only at hP ⊢
  have b0 := al w (.cells #[.int .i64 ep, .int .i64 k, .int .i64 mm, .int .i64 g, .int .i64 d, .slice x n c] 26)
  have k5 : (w.alloc (.cells #[.int .i64 ep, .int .i64 k, .int .i64 mm, .int .i64 g, .int .i64 d, .slice x n c] 26)).cell? ⟨w.heap.size, 5, none⟩ = some (.slice x n c) := by go_simp
  have HK := hid k5
  have HO := hid (h.below b0)
  have HB := hid b0
  clear h k5 b0
  cases hwi : wi ep 0 1048576 with
  | false =>
    clear hP
    go_enter Try.func16, Try.ntmps16
    go_wp2_with (go_at_call 35; refine (hW _ _ _ _).mono ?_; rintro e w1 ⟨rfl, rfl⟩)
    go_ret
    exact ⟨by simp, HB.out⟩
  | true =>
  cases tp with
  | false =>
    go_enter Try.func16, Try.ntmps16
    go_wp2_with (first
      | (go_at_call 35; refine (hW _ _ _ _).mono ?_; rintro e w1 ⟨rfl, rfl⟩)
      | (go_at_call 13; refine (hP _).mono ?_; rintro e w2 ⟨rfl, hb2⟩; clear hP))
    go_ret
    exact ⟨by simp, on HB.out hb2⟩
  | true =>
  by_cases h64 : 64 < n
  · have i64 : (64 : Int) < (n : Int) := by omega
    go_enter Try.func16, Try.ntmps16
    go_wp2_with (first
      | (go_at_call 35; refine (hW _ _ _ _).mono ?_; rintro e w1 ⟨rfl, rfl⟩)
      | (go_at_call 13; refine (hP _).mono ?_; rintro e w2 ⟨rfl, hb2⟩; clear hP; have q5 := keep hb2 HK.out))
    go_ret
    exact ⟨by rw [HL.out, decide_eq_false (by omega)]; simp, on HB.out hb2⟩
  have i64 : (n : Int) ≤ 64 := by omega
  have h64' : n ≤ 64 := by omega
  go_enter Try.func16, Try.ntmps16
  go_wp2_with (first
    | (go_at_call 35; refine (hW _ _ _ _).mono ?_; rintro e w1 ⟨rfl, rfl⟩)
    | (go_at_call 13; refine (hP _).mono ?_; rintro e w2 ⟨rfl, hb2⟩; clear hP; have q5 := keep hb2 HK.out))
  have HO2 := hid (HO.out.below hb2)
  have HB2 := hid (on HB.out hb2)
  have HQ := hid q5
  have HF : Hid (∀ t, (true && true && (decide (L.length ≤ 64) && t)) = t) := fun t => by rw [HL.out, decide_eq_true h64']; simp
  clear hW hb2 q5 h64
  go_loopw [3, 4] (fun i _ wr => ∃ q : Nat, q ≤ n ∧ i = .int .i64 q ∧ Hid (Below w2.heap.size w2 wr ∧ GoodTo L q)) (fun i _ _ => n - (intOf i).toNat)
  case atStart => exact ⟨0, by omega, rfl, Below.refl _ _, fun i a hi => by omega⟩
  case round =>
    obtain ⟨q, hq, rfl, HR⟩ := hrel
    have q5 := keep HR.out.1 HQ.out
    by_cases hlt : q < n
    · have hqn : (q : Int) < (n : Int) := by omega
      obtain ⟨a, ha⟩ : ∃ a, L[q]? = some a := ⟨L[q]'(by have := HL.out; omega), List.getElem?_eq_getElem (by have := HL.out; omega)⟩
      have ho := HO2.out.below HR.out.1
      rcases ho.row with h0 | ⟨b, o, rfl, hbl, hcell⟩
      · omega
      obtain ⟨k0, k1, k2, k3, k4, k5, k6, k7⟩ := Os.at (n := n) (c := c) hcell ha
      have hS := rosd_any a wr
      obtain ⟨t, ht⟩ : ∃ t, t = osdB a := ⟨_, rfl⟩
      rw [← ht] at hS
      have HA := hid (show L[q]? = some a ∧ t = osdB a from ⟨ha, ht⟩)
      have HC := hid hcell
      clear hcell ha ht ho
      obtain ⟨a0, a1, a2, a3, a4, a5, a6, a7⟩ := a
      unfold vO at hS
      dsimp only at k0 k1 k2 k3 k4 k5 k6 k7 hS
      cases t with
      | false =>
        go_wp2_with (go_at_call 38; refine hS.mono ?_; rintro e w3 ⟨rfl, hb3⟩; clear hS)
        go_ret
        exact ⟨by rw [HF.out, goodB_false HA.out.1 (.inl HA.out.2.symm)]; rfl, on HB2.out (on HR.out.1 hb3)⟩
      | true =>
        go_wp2_with (go_at_call 38; refine hS.mono ?_; rintro e w3 ⟨rfl, hb3⟩; clear hS)
        have HB3 := hid (on HR.out.1 hb3)
        have HC3 : Hid (∀ (k : Nat) (a : Osd), L[k]? = some a → ∀ (j : Nat) (v : Value), (enO a)[j]? = some v → w3.cell? ⟨b, o + k * 8 + j, none⟩ = some v) := fun k a hk j v hv => keep hb3 (HC.out k a hk j v hv)
        have HQ3 := hid (keep hb3 q5)
        clear hb3 q5 k0 k1 k2 k3 k4 k5 k6 k7 HC
        obtain ⟨wo, hwo⟩ : ∃ wo, wo = wr := ⟨_, rfl⟩
        subst hwo
        go_loopw [4] (fun i wr => ∃ r : Nat, r ≤ q ∧ i = .int .i64 r ∧ Hid (Below w3.heap.size w3 wr ∧ LowTo L ⟨a0, a1, a2, a3, a4, a5, a6, a7⟩ r)) (fun i _ => q - (intOf i).toNat)
        case atStart => exact ⟨0, by omega, rfl, Below.refl _ _, fun j b hj => by omega⟩
        case round =>
          obtain ⟨r, hr, rfl, HI⟩ := hrel
          have r5 := keep HI.out.1 HQ3.out
          by_cases hrq : r < q
          · have hrqI : (r : Int) < (q : Int) := by omega
            have hrnI : (r : Int) < (n : Int) := by omega
            obtain ⟨e, he⟩ : ∃ a, L[r]? = some a := ⟨L[r]'(by have := HL.out; omega), List.getElem?_eq_getElem (by have := HL.out; omega)⟩
            obtain ⟨k0, k1, k2, k3, k4, k5, k6, k7⟩ := Os.at (n := n) (c := c) (fun k a hk j v hv => keep HI.out.1 (HC3.out k a hk j v hv)) HA.out.1
            obtain ⟨l0, l1, l2, l3, l4, l5, l6, l7⟩ := Os.at (n := n) (c := c) (fun k a hk j v hv => keep HI.out.1 (HC3.out k a hk j v hv)) he
            clear k1 k2 k3 k4 k5 l1 l2 l3 l4 l5
            have HE := hid he
            clear he
            obtain ⟨e0, e1, e2, e3, e4, e5, e6, e7⟩ := e
            dsimp only at k0 k6 k7 l0 l6 l7
            by_cases h1 : a0 ≤ e0
            · go_wp2_with fail
              go_quiet (fail)
              go_wp2_with fail
              go_ret
              exact ⟨by rw [HF.out, goodB_false HA.out.1 (.inr ⟨r, _, hrq, HE.out, by unfold lowB; dsimp only; rw [decide_eq_false (by omega)]; rfl⟩)]; rfl, on HB2.out (on HB3.out (below_drewN' HI.out.1 _))⟩
            · have h1' : e0 < a0 := by omega
              by_cases h2 : e6 = a6
              · subst h2
                by_cases h3 : e7 = a7
                · subst h3
                  go_wp2_with fail
                  go_quiet (fail)
                  go_wp2_with fail
                  go_roundw
                  case rel =>
                    refine ⟨r + 1, by omega, by go_num, below_drewN' HI.out.1 _, fun j bb hj hb => ?_⟩
                    by_cases hjr : j = r
                    · subst hjr
                      have := Option.some.inj (HE.out.symm.trans hb)
                      subst this
                      exact (lowB_iff _ _).2 ⟨h1', fun _ => rfl⟩
                    · exact HI.out.2 j bb (by omega) hb
                  case measure => simp [intOf]; omega
                · have h3' : (e7 != a7) = true := by simpa using h3
                  go_wp2_with fail
                  go_quiet (fail)
                  go_wp2_with fail
                  go_ret
                  exact ⟨by rw [HF.out, goodB_false HA.out.1 (.inr ⟨r, _, hrq, HE.out, by
                    cases hq : lowB _ _ with
                    | false => rfl
                    | true => exact absurd (((lowB_iff _ _).1 hq).2 rfl) h3⟩)]; rfl, on HB2.out (on HB3.out (below_drewN' HI.out.1 _))⟩
              · have h2' : e6 ≠ a6 := h2
                go_wp2_with fail
                go_quiet (fail)
                go_wp2_with fail
                go_roundw
                case rel =>
                  refine ⟨r + 1, by omega, by go_num, below_drewN' HI.out.1 _, fun j bb hj hb => ?_⟩
                  by_cases hjr : j = r
                  · subst hjr
                    have := Option.some.inj (HE.out.symm.trans hb)
                    subst this
                    exact (lowB_iff _ _).2 ⟨h1', fun e => absurd e h2⟩
                  · exact HI.out.2 j bb (by omega) hb
                case measure => simp [intOf]; omega
          · have hrq2 : r = q := by omega
            subst hrq2
            go_wp2_with fail
            go_roundw
            case rel =>
              refine ⟨r + 1, by omega, by go_num, on HB3.out HI.out.1, fun i a hi hia => ?_⟩
              by_cases hir : i = r
              · subst hir
                have := Option.some.inj (HA.out.1.symm.trans hia)
                subst this
                exact ⟨HA.out.2.symm, fun j b hj hb => HI.out.2 j b hj hb⟩
              · exact HR.out.2 i a (by omega) hia
            case measure => simp [intOf]; omega
    · have hq2 : q = n := by omega
      subst hq2
      go_wp2_with fail
      go_ret
      exact ⟨by rw [HF.out, GoodTo.all (by rw [HL.out]; exact HR.out.2)]; rfl, on HB2.out HR.out.1⟩

end Go.Proofs.Ytnddhlkdemibgaa.At

/-
  The document's Apply: what is refused.
  Conditions: lists lie in memory.
-/
namespace Go.Proofs.Ytnddhlkdemibgaa.At
open Go.RowKit By Fl
set_option linter.unusedVariables false
set_option linter.unusedSimpArgs false
set_option maxRecDepth 100000

theorem applyP_bad {m : Mp} {c : Ch} (h : mayM m = false ∨ mayC c = false ∨ m.ep = 1048576) : applyP m c = (1, noM) := by
  by_cases hm : mayM m = true
  · have : advP m c = (1, m) := advP_no (by
      rcases h with h | h | h
      · rw [hm] at h; cases h
      · exact .inl h
      · exact .inr h)
    unfold applyP
    rw [if_pos hm, this, if_neg (by simp)]
  · unfold applyP
    rw [if_neg hm]

theorem applyP_err {m : Mp} {c : Ch} {r : Int × List Osd} (h : mayM m = true) (hc : mayC c = true) (h2 : m.ep ≠ 1048576) (hr : doP c.kind m.osds c.osd = r) (h3 : r.1 ≠ 0) : applyP m c = (r.1, noM) := by
  have := advP_err hc h2 hr h3
  unfold applyP
  rw [if_pos h, this, if_neg h3]

theorem applyP_ok {m : Mp} {c : Ch} {r : Int × List Osd} (h : mayM m = true) (hc : mayC c = true) (h2 : m.ep ≠ 1048576) (hr : doP c.kind m.osds c.osd = r) (h3 : r.1 = 0) : applyP m c = (0, ⟨m.ep + 1, m.pool, r.2⟩) := by
  have := advP_ok hc h2 hr h3
  unfold applyP
  rw [if_pos h, this, if_pos rfl]

set_option maxHeartbeats 3200000 in
theorem rapply_bad {w : World} {x : Option Addr} {n c : Nat} (m : Mp) (ch : Ch) (h : Os w x n c m.osds) (hno : mayM m = false ∨ mayC ch = false ∨ m.ep = 1048576) :
    Calls Try.prog 21 #[vM m.ep m.pool x n c, vC ch] w fun e w' => ∃ y yn yc, e = .returned (.tuple #[vM (applyP m ch).2.ep (applyP m ch).2.pool y yn yc, .int .i64 (applyP m ch).1]) ∧ Hid (Told w w' y yn yc (applyP m ch).2.osds) := by
  have HA := hid (applyP_bad hno)
  have hM := fun W (hW : Os W x n c m.osds) => rmay_any m hW
  have hC := fun W => rmayChange_any ch W
  have hP := fun W (hW : Os W x n c m.osds) => place_any m ch.osd.id hW
  have HS : Hid (∀ W, Below w.heap.size w W → Os W x n c m.osds) := fun W hW => h.below hW
  have HL := hid h.len
  have b0 := on (on (al w (.cells #[.int .i64 m.ep, .int .i64 m.pool.k, .int .i64 m.pool.m, .int .i64 m.pool.pgs, .int .i64 m.pool.dom, .slice x n c] 26)) (al _ (.cells #[.int .i64 ch.kind, .int .i64 ch.osd.id, .bool ch.osd.up, .bool ch.osd.inn, .int .i64 ch.osd.wt, .int .i64 ch.osd.life, .int .i64 ch.osd.boot, .int .i64 ch.osd.host, .int .i64 ch.osd.rack] 30))) (al _ (.cells #[.int .i64 0, .int .i64 0, .int .i64 0, .int .i64 0, .int .i64 0, .slice none 0 0] 26))
  have hM0 := hM _ (HS.out _ b0)
  have HB := hid b0
  have HX := hid (box3 w (.cells #[.int .i64 m.ep, .int .i64 m.pool.k, .int .i64 m.pool.m, .int .i64 m.pool.pgs, .int .i64 m.pool.dom, .slice x n c] 26) (.cells #[.int .i64 ch.kind, .int .i64 ch.osd.id, .bool ch.osd.up, .bool ch.osd.inn, .int .i64 ch.osd.wt, .int .i64 ch.osd.life, .int .i64 ch.osd.boot, .int .i64 ch.osd.host, .int .i64 ch.osd.rack] 30) (.cells #[.int .i64 0, .int .i64 0, .int .i64 0, .int .i64 0, .int .i64 0, .slice none 0 0] 26))
  have hsm := h.small
  clear hM h b0
  cases h1 : mayM m with
  | false =>
      rw [h1] at hM0
      clear hno h1
      obtain ⟨ep, ⟨pk, pm, pg, pd⟩, L⟩ := m
      obtain ⟨ck, c0, c1, c2, c3, c4, c5, c6, c7⟩ := ch
      unfold vM vC at *
      dsimp only at hM0 hC hP HB HX HS HA ⊢
      go_enter Try.func21, Try.ntmps21
      go_wp2_with (first
      | (
         go_at_call 16; refine hM0.mono ?_; rintro e w1 ⟨rfl, hb1⟩; clear hM0
         have em := (hb1.block _ (Array.getElem?_eq_some_iff.1 HX.out.1).1).trans HX.out.1
         have ec := (hb1.block _ (Array.getElem?_eq_some_iff.1 HX.out.2.1).1).trans HX.out.2.1
         have er := (hb1.block _ (Array.getElem?_eq_some_iff.1 HX.out.2.2).1).trans HX.out.2.2
         have HE1 := hid (And.intro em (And.intro ec er))
         have B1 := hid (on HB.out hb1)
         have l1 : w.heap.size + 1 + 1 < w1.heap.size := (Array.getElem?_eq_some_iff.1 er).1
         have d0 : w1.cell? ⟨w.heap.size + 1 + 1, 0, none⟩ = some (.int .i64 0) := cell_heap er rfl
         have d1 : w1.cell? ⟨w.heap.size + 1 + 1, 1, none⟩ = some (.int .i64 0) := cell_heap er rfl
         have d2 : w1.cell? ⟨w.heap.size + 1 + 1, 2, none⟩ = some (.int .i64 0) := cell_heap er rfl
         have d3 : w1.cell? ⟨w.heap.size + 1 + 1, 3, none⟩ = some (.int .i64 0) := cell_heap er rfl
         have d4 : w1.cell? ⟨w.heap.size + 1 + 1, 4, none⟩ = some (.int .i64 0) := cell_heap er rfl
         have d5 : w1.cell? ⟨w.heap.size + 1 + 1, 5, none⟩ = some (.slice none 0 0) := cell_heap er rfl
         have g0 := fr_heap er 0
         have g1 := fr_heap er 1
         have g2 := fr_heap er 2
         have g3 := fr_heap er 3
         have g4 := fr_heap er 4
         have g5 := fr_heap er 5
         clear hb1 em ec er))
      refine bodyPost_ret (v := .tuple #[.agg #[.int .i64 0, .int .i64 0, .int .i64 0, .int .i64 0, .int .i64 0, .slice none 0 0], .int .i64 1]) ?_ rfl ?_
      · rw [results_cell2 rfl]
        go_simp
      · rw [HA.out]
        refine ⟨none, 0, 0, rfl, ?_, os_none _⟩
        repeat (first | with_reducible exact B1.out | (with_reducible refine Below.setCell ?_ (by first | (simp; done) | (simp; omega) | omega) _) | (with_reducible refine Below.alloc ?_ (by first | (simp; done) | (simp; omega) | omega) _))
  | true =>
      rw [h1] at hM0
      cases h2 : mayC ch with
      | false =>
          rw [h2] at hC
          clear hno h1 h2
          obtain ⟨ep, ⟨pk, pm, pg, pd⟩, L⟩ := m
          obtain ⟨ck, c0, c1, c2, c3, c4, c5, c6, c7⟩ := ch
          unfold vM vC at *
          dsimp only at hM0 hC hP HB HX HS HA ⊢
          go_enter Try.func21, Try.ntmps21
          go_wp2_with (first
          | (
             go_at_call 16; refine hM0.mono ?_; rintro e w1 ⟨rfl, hb1⟩; clear hM0
             have em := (hb1.block _ (Array.getElem?_eq_some_iff.1 HX.out.1).1).trans HX.out.1
             have ec := (hb1.block _ (Array.getElem?_eq_some_iff.1 HX.out.2.1).1).trans HX.out.2.1
             have er := (hb1.block _ (Array.getElem?_eq_some_iff.1 HX.out.2.2).1).trans HX.out.2.2
             have HE1 := hid (And.intro em (And.intro ec er))
             have B1 := hid (on HB.out hb1)
             have l1 : w.heap.size + 1 + 1 < w1.heap.size := (Array.getElem?_eq_some_iff.1 er).1
             have j0 : w1.cell? ⟨w.heap.size + 1, 0, none⟩ = some (.int .i64 ck) := cell_heap ec rfl
             have j1 : w1.cell? ⟨w.heap.size + 1, 1, none⟩ = some (.int .i64 c0) := cell_heap ec rfl
             have j2 : w1.cell? ⟨w.heap.size + 1, 2, none⟩ = some (.bool c1) := cell_heap ec rfl
             have j3 : w1.cell? ⟨w.heap.size + 1, 3, none⟩ = some (.bool c2) := cell_heap ec rfl
             have j4 : w1.cell? ⟨w.heap.size + 1, 4, none⟩ = some (.int .i64 c3) := cell_heap ec rfl
             have j5 : w1.cell? ⟨w.heap.size + 1, 5, none⟩ = some (.int .i64 c4) := cell_heap ec rfl
             have j6 : w1.cell? ⟨w.heap.size + 1, 6, none⟩ = some (.int .i64 c5) := cell_heap ec rfl
             have j7 : w1.cell? ⟨w.heap.size + 1, 7, none⟩ = some (.int .i64 c6) := cell_heap ec rfl
             have j8 : w1.cell? ⟨w.heap.size + 1, 8, none⟩ = some (.int .i64 c7) := cell_heap ec rfl
             clear hb1 em ec er)
          | (
             go_at_call 18; refine (hC _).mono ?_; rintro e w2 ⟨rfl, hb2⟩; clear hC
             have em := (hb2.block _ (Array.getElem?_eq_some_iff.1 HE1.out.1).1).trans HE1.out.1
             have ec := (hb2.block _ (Array.getElem?_eq_some_iff.1 HE1.out.2.1).1).trans HE1.out.2.1
             have er := (hb2.block _ (Array.getElem?_eq_some_iff.1 HE1.out.2.2).1).trans HE1.out.2.2
             have HE2 := hid (And.intro em (And.intro ec er))
             have B2 := hid (on B1.out hb2)
             have l2 : w.heap.size + 1 + 1 < w2.heap.size := (Array.getElem?_eq_some_iff.1 er).1
             have m0 : w2.cell? ⟨w.heap.size, 0, none⟩ = some (.int .i64 ep) := cell_heap em rfl
             have m1 : w2.cell? ⟨w.heap.size, 1, none⟩ = some (.int .i64 pk) := cell_heap em rfl
             have m2 : w2.cell? ⟨w.heap.size, 2, none⟩ = some (.int .i64 pm) := cell_heap em rfl
             have m3 : w2.cell? ⟨w.heap.size, 3, none⟩ = some (.int .i64 pg) := cell_heap em rfl
             have m4 : w2.cell? ⟨w.heap.size, 4, none⟩ = some (.int .i64 pd) := cell_heap em rfl
             have m5 : w2.cell? ⟨w.heap.size, 5, none⟩ = some (.slice x n c) := cell_heap em rfl
             have q1 : w2.cell? ⟨w.heap.size + 1, 1, none⟩ = some (.int .i64 c0) := cell_heap ec rfl
             have d0 : w2.cell? ⟨w.heap.size + 1 + 1, 0, none⟩ = some (.int .i64 0) := cell_heap er rfl
             have d1 : w2.cell? ⟨w.heap.size + 1 + 1, 1, none⟩ = some (.int .i64 0) := cell_heap er rfl
             have d2 : w2.cell? ⟨w.heap.size + 1 + 1, 2, none⟩ = some (.int .i64 0) := cell_heap er rfl
             have d3 : w2.cell? ⟨w.heap.size + 1 + 1, 3, none⟩ = some (.int .i64 0) := cell_heap er rfl
             have d4 : w2.cell? ⟨w.heap.size + 1 + 1, 4, none⟩ = some (.int .i64 0) := cell_heap er rfl
             have d5 : w2.cell? ⟨w.heap.size + 1 + 1, 5, none⟩ = some (.slice none 0 0) := cell_heap er rfl
             have g0 := fr_heap er 0
             have g1 := fr_heap er 1
             have g2 := fr_heap er 2
             have g3 := fr_heap er 3
             have g4 := fr_heap er 4
             have g5 := fr_heap er 5
             clear hb2 em ec er))
          refine bodyPost_ret (v := .tuple #[.agg #[.int .i64 0, .int .i64 0, .int .i64 0, .int .i64 0, .int .i64 0, .slice none 0 0], .int .i64 1]) ?_ rfl ?_
          · rw [results_cell2 rfl]
            go_simp
          · rw [HA.out]
            refine ⟨none, 0, 0, rfl, ?_, os_none _⟩
            repeat (first | with_reducible exact B2.out | (with_reducible refine Below.setCell ?_ (by first | (simp; done) | (simp; omega) | omega) _) | (with_reducible refine Below.alloc ?_ (by first | (simp; done) | (simp; omega) | omega) _))
      | true =>
          rw [h2] at hC
          have he : m.ep = 1048576 := by
            rcases hno with q | q | q
            · rw [h1] at q; cases q
            · rw [h2] at q; cases q
            · exact q
          clear hno h1 h2
          obtain ⟨ep, ⟨pk, pm, pg, pd⟩, L⟩ := m
          obtain ⟨ck, c0, c1, c2, c3, c4, c5, c6, c7⟩ := ch
          unfold vM vC at *
          dsimp only at hM0 hC hP HB HX HS HA he ⊢
          subst he
          go_enter Try.func21, Try.ntmps21
          go_wp2_with (first
          | (
             go_at_call 16; refine hM0.mono ?_; rintro e w1 ⟨rfl, hb1⟩; clear hM0
             have em := (hb1.block _ (Array.getElem?_eq_some_iff.1 HX.out.1).1).trans HX.out.1
             have ec := (hb1.block _ (Array.getElem?_eq_some_iff.1 HX.out.2.1).1).trans HX.out.2.1
             have er := (hb1.block _ (Array.getElem?_eq_some_iff.1 HX.out.2.2).1).trans HX.out.2.2
             have HE1 := hid (And.intro em (And.intro ec er))
             have B1 := hid (on HB.out hb1)
             have l1 : w.heap.size + 1 + 1 < w1.heap.size := (Array.getElem?_eq_some_iff.1 er).1
             have j0 : w1.cell? ⟨w.heap.size + 1, 0, none⟩ = some (.int .i64 ck) := cell_heap ec rfl
             have j1 : w1.cell? ⟨w.heap.size + 1, 1, none⟩ = some (.int .i64 c0) := cell_heap ec rfl
             have j2 : w1.cell? ⟨w.heap.size + 1, 2, none⟩ = some (.bool c1) := cell_heap ec rfl
             have j3 : w1.cell? ⟨w.heap.size + 1, 3, none⟩ = some (.bool c2) := cell_heap ec rfl
             have j4 : w1.cell? ⟨w.heap.size + 1, 4, none⟩ = some (.int .i64 c3) := cell_heap ec rfl
             have j5 : w1.cell? ⟨w.heap.size + 1, 5, none⟩ = some (.int .i64 c4) := cell_heap ec rfl
             have j6 : w1.cell? ⟨w.heap.size + 1, 6, none⟩ = some (.int .i64 c5) := cell_heap ec rfl
             have j7 : w1.cell? ⟨w.heap.size + 1, 7, none⟩ = some (.int .i64 c6) := cell_heap ec rfl
             have j8 : w1.cell? ⟨w.heap.size + 1, 8, none⟩ = some (.int .i64 c7) := cell_heap ec rfl
             clear hb1 em ec er)
          | (
             go_at_call 18; refine (hC _).mono ?_; rintro e w2 ⟨rfl, hb2⟩; clear hC
             have em := (hb2.block _ (Array.getElem?_eq_some_iff.1 HE1.out.1).1).trans HE1.out.1
             have ec := (hb2.block _ (Array.getElem?_eq_some_iff.1 HE1.out.2.1).1).trans HE1.out.2.1
             have er := (hb2.block _ (Array.getElem?_eq_some_iff.1 HE1.out.2.2).1).trans HE1.out.2.2
             have HE2 := hid (And.intro em (And.intro ec er))
             have B2 := hid (on B1.out hb2)
             have l2 : w.heap.size + 1 + 1 < w2.heap.size := (Array.getElem?_eq_some_iff.1 er).1
             have m0 : w2.cell? ⟨w.heap.size, 0, none⟩ = some (.int .i64 1048576) := cell_heap em rfl
             have m1 : w2.cell? ⟨w.heap.size, 1, none⟩ = some (.int .i64 pk) := cell_heap em rfl
             have m2 : w2.cell? ⟨w.heap.size, 2, none⟩ = some (.int .i64 pm) := cell_heap em rfl
             have m3 : w2.cell? ⟨w.heap.size, 3, none⟩ = some (.int .i64 pg) := cell_heap em rfl
             have m4 : w2.cell? ⟨w.heap.size, 4, none⟩ = some (.int .i64 pd) := cell_heap em rfl
             have m5 : w2.cell? ⟨w.heap.size, 5, none⟩ = some (.slice x n c) := cell_heap em rfl
             have q1 : w2.cell? ⟨w.heap.size + 1, 1, none⟩ = some (.int .i64 c0) := cell_heap ec rfl
             have d0 : w2.cell? ⟨w.heap.size + 1 + 1, 0, none⟩ = some (.int .i64 0) := cell_heap er rfl
             have d1 : w2.cell? ⟨w.heap.size + 1 + 1, 1, none⟩ = some (.int .i64 0) := cell_heap er rfl
             have d2 : w2.cell? ⟨w.heap.size + 1 + 1, 2, none⟩ = some (.int .i64 0) := cell_heap er rfl
             have d3 : w2.cell? ⟨w.heap.size + 1 + 1, 3, none⟩ = some (.int .i64 0) := cell_heap er rfl
             have d4 : w2.cell? ⟨w.heap.size + 1 + 1, 4, none⟩ = some (.int .i64 0) := cell_heap er rfl
             have d5 : w2.cell? ⟨w.heap.size + 1 + 1, 5, none⟩ = some (.slice none 0 0) := cell_heap er rfl
             have g0 := fr_heap er 0
             have g1 := fr_heap er 1
             have g2 := fr_heap er 2
             have g3 := fr_heap er 3
             have g4 := fr_heap er 4
             have g5 := fr_heap er 5
             clear hb2 em ec er))
          refine bodyPost_ret (v := .tuple #[.agg #[.int .i64 0, .int .i64 0, .int .i64 0, .int .i64 0, .int .i64 0, .slice none 0 0], .int .i64 1]) ?_ rfl ?_
          · rw [results_cell2 rfl]
            go_simp
          · rw [HA.out]
            refine ⟨none, 0, 0, rfl, ?_, os_none _⟩
            repeat (first | with_reducible exact B2.out | (with_reducible refine Below.setCell ?_ (by first | (simp; done) | (simp; omega) | omega) _) | (with_reducible refine Below.alloc ?_ (by first | (simp; done) | (simp; omega) | omega) _))

set_option maxHeartbeats 3200000 in
theorem rapply_dup {w : World} {x : Option Addr} {n c : Nat} (m : Mp) (ch : Ch) (h : Os w x n c m.osds) (h1 : mayM m = true) (h2 : mayC ch = true) (h3 : m.ep ≠ 1048576) (hk : ch.kind = 1) {q : Nat} (hf : m.osds.findIdx? (isId ch.osd.id) = some q) :
    Calls Try.prog 21 #[vM m.ep m.pool x n c, vC ch] w fun e w' => ∃ y yn yc, e = .returned (.tuple #[vM (applyP m ch).2.ep (applyP m ch).2.pool y yn yc, .int .i64 (applyP m ch).1]) ∧ Hid (Told w w' y yn yc (applyP m ch).2.osds) := by
  have hd : doP ch.kind m.osds ch.osd = (6, m.osds) := by unfold doP addP; rw [if_pos hk, hf]; rfl
  have HA := hid (applyP_err h1 h2 h3 hd (by simp))
  have hM := fun W (hW : Os W x n c m.osds) => rmay_any m hW
  have hC := fun W => rmayChange_any ch W
  have hP := fun W (hW : Os W x n c m.osds) => place_any m ch.osd.id hW
  have HS : Hid (∀ W, Below w.heap.size w W → Os W x n c m.osds) := fun W hW => h.below hW
  have HL := hid h.len
  have b0 := on (on (al w (.cells #[.int .i64 m.ep, .int .i64 m.pool.k, .int .i64 m.pool.m, .int .i64 m.pool.pgs, .int .i64 m.pool.dom, .slice x n c] 26)) (al _ (.cells #[.int .i64 ch.kind, .int .i64 ch.osd.id, .bool ch.osd.up, .bool ch.osd.inn, .int .i64 ch.osd.wt, .int .i64 ch.osd.life, .int .i64 ch.osd.boot, .int .i64 ch.osd.host, .int .i64 ch.osd.rack] 30))) (al _ (.cells #[.int .i64 0, .int .i64 0, .int .i64 0, .int .i64 0, .int .i64 0, .slice none 0 0] 26))
  have hM0 := hM _ (HS.out _ b0)
  have HB := hid b0
  have HX := hid (box3 w (.cells #[.int .i64 m.ep, .int .i64 m.pool.k, .int .i64 m.pool.m, .int .i64 m.pool.pgs, .int .i64 m.pool.dom, .slice x n c] 26) (.cells #[.int .i64 ch.kind, .int .i64 ch.osd.id, .bool ch.osd.up, .bool ch.osd.inn, .int .i64 ch.osd.wt, .int .i64 ch.osd.life, .int .i64 ch.osd.boot, .int .i64 ch.osd.host, .int .i64 ch.osd.rack] 30) (.cells #[.int .i64 0, .int .i64 0, .int .i64 0, .int .i64 0, .int .i64 0, .slice none 0 0] 26))
  have hsm := h.small
  clear hM h b0
  rw [h1] at hM0
  rw [h2] at hC
  rw [show idx (isId ch.osd.id) m.osds = (q : Int) by unfold idx; rw [hf]] at hP
  have hq0 : (0 : Int) ≤ (q : Int) := by omega
  clear hf
  obtain ⟨e0, e1⟩ := (may_parts h1).1
  have hwr : IntKind.i64.wrap (m.ep + 1) = m.ep + 1 := by rw [IntKind.wrap_i64]; omega
  have hne : (m.ep == 1048576) = false := by simpa using h3
  clear h1 h2 h3 e0 e1 hd
  obtain ⟨ep, ⟨pk, pm, pg, pd⟩, L⟩ := m
  obtain ⟨ck, c0, c1, c2, c3, c4, c5, c6, c7⟩ := ch
  unfold vM vC at *
  dsimp only at hM0 hC hP HB HX HS HA hwr hne hk ⊢
  subst hk
  go_enter Try.func21, Try.ntmps21
  go_wp2_with (first
      | (
         go_at_call 16; refine hM0.mono ?_; rintro e w1 ⟨rfl, hb1⟩; clear hM0
         have em := (hb1.block _ (Array.getElem?_eq_some_iff.1 HX.out.1).1).trans HX.out.1
         have ec := (hb1.block _ (Array.getElem?_eq_some_iff.1 HX.out.2.1).1).trans HX.out.2.1
         have er := (hb1.block _ (Array.getElem?_eq_some_iff.1 HX.out.2.2).1).trans HX.out.2.2
         have HE1 := hid (And.intro em (And.intro ec er))
         have B1 := hid (on HB.out hb1)
         have l1 : w.heap.size + 1 + 1 < w1.heap.size := (Array.getElem?_eq_some_iff.1 er).1
         have j0 : w1.cell? ⟨w.heap.size + 1, 0, none⟩ = some (.int .i64 1) := cell_heap ec rfl
         have j1 : w1.cell? ⟨w.heap.size + 1, 1, none⟩ = some (.int .i64 c0) := cell_heap ec rfl
         have j2 : w1.cell? ⟨w.heap.size + 1, 2, none⟩ = some (.bool c1) := cell_heap ec rfl
         have j3 : w1.cell? ⟨w.heap.size + 1, 3, none⟩ = some (.bool c2) := cell_heap ec rfl
         have j4 : w1.cell? ⟨w.heap.size + 1, 4, none⟩ = some (.int .i64 c3) := cell_heap ec rfl
         have j5 : w1.cell? ⟨w.heap.size + 1, 5, none⟩ = some (.int .i64 c4) := cell_heap ec rfl
         have j6 : w1.cell? ⟨w.heap.size + 1, 6, none⟩ = some (.int .i64 c5) := cell_heap ec rfl
         have j7 : w1.cell? ⟨w.heap.size + 1, 7, none⟩ = some (.int .i64 c6) := cell_heap ec rfl
         have j8 : w1.cell? ⟨w.heap.size + 1, 8, none⟩ = some (.int .i64 c7) := cell_heap ec rfl
         clear hb1 em ec er)
      | (
         go_at_call 18; refine (hC _).mono ?_; rintro e w2 ⟨rfl, hb2⟩; clear hC
         have em := (hb2.block _ (Array.getElem?_eq_some_iff.1 HE1.out.1).1).trans HE1.out.1
         have ec := (hb2.block _ (Array.getElem?_eq_some_iff.1 HE1.out.2.1).1).trans HE1.out.2.1
         have er := (hb2.block _ (Array.getElem?_eq_some_iff.1 HE1.out.2.2).1).trans HE1.out.2.2
         have HE2 := hid (And.intro em (And.intro ec er))
         have B2 := hid (on B1.out hb2)
         have l2 : w.heap.size + 1 + 1 < w2.heap.size := (Array.getElem?_eq_some_iff.1 er).1
         have m0 : w2.cell? ⟨w.heap.size, 0, none⟩ = some (.int .i64 ep) := cell_heap em rfl
         have m1 : w2.cell? ⟨w.heap.size, 1, none⟩ = some (.int .i64 pk) := cell_heap em rfl
         have m2 : w2.cell? ⟨w.heap.size, 2, none⟩ = some (.int .i64 pm) := cell_heap em rfl
         have m3 : w2.cell? ⟨w.heap.size, 3, none⟩ = some (.int .i64 pg) := cell_heap em rfl
         have m4 : w2.cell? ⟨w.heap.size, 4, none⟩ = some (.int .i64 pd) := cell_heap em rfl
         have m5 : w2.cell? ⟨w.heap.size, 5, none⟩ = some (.slice x n c) := cell_heap em rfl
         have q1 : w2.cell? ⟨w.heap.size + 1, 1, none⟩ = some (.int .i64 c0) := cell_heap ec rfl
         have hP2 := hP w2 (HS.out w2 B2.out)
         clear hb2 em ec er)
      | (
         go_at_call 34; refine hP2.mono ?_; rintro e w3 ⟨rfl, hb3⟩; clear hP2
         have em := (hb3.block _ (Array.getElem?_eq_some_iff.1 HE2.out.1).1).trans HE2.out.1
         have ec := (hb3.block _ (Array.getElem?_eq_some_iff.1 HE2.out.2.1).1).trans HE2.out.2.1
         have er := (hb3.block _ (Array.getElem?_eq_some_iff.1 HE2.out.2.2).1).trans HE2.out.2.2
         have HE3 := hid (And.intro em (And.intro ec er))
         have B3 := hid (on B2.out hb3)
         have l3 : w.heap.size + 1 + 1 < w3.heap.size := (Array.getElem?_eq_some_iff.1 er).1
         have l3a : w.heap.size < w3.heap.size := (Array.getElem?_eq_some_iff.1 em).1
         have l3b : w.heap.size + 1 < w3.heap.size := (Array.getElem?_eq_some_iff.1 ec).1
         have m0 : w3.cell? ⟨w.heap.size, 0, none⟩ = some (.int .i64 ep) := cell_heap em rfl
         have m1 : w3.cell? ⟨w.heap.size, 1, none⟩ = some (.int .i64 pk) := cell_heap em rfl
         have m2 : w3.cell? ⟨w.heap.size, 2, none⟩ = some (.int .i64 pm) := cell_heap em rfl
         have m3 : w3.cell? ⟨w.heap.size, 3, none⟩ = some (.int .i64 pg) := cell_heap em rfl
         have m4 : w3.cell? ⟨w.heap.size, 4, none⟩ = some (.int .i64 pd) := cell_heap em rfl
         have m5 : w3.cell? ⟨w.heap.size, 5, none⟩ = some (.slice x n c) := cell_heap em rfl
         have q0 : w3.cell? ⟨w.heap.size + 1, 0, none⟩ = some (.int .i64 1) := cell_heap ec rfl
         have q1 : w3.cell? ⟨w.heap.size + 1, 1, none⟩ = some (.int .i64 c0) := cell_heap ec rfl
         have q2 : w3.cell? ⟨w.heap.size + 1, 2, none⟩ = some (.bool c1) := cell_heap ec rfl
         have q3 : w3.cell? ⟨w.heap.size + 1, 3, none⟩ = some (.bool c2) := cell_heap ec rfl
         have q4 : w3.cell? ⟨w.heap.size + 1, 4, none⟩ = some (.int .i64 c3) := cell_heap ec rfl
         have q5 : w3.cell? ⟨w.heap.size + 1, 5, none⟩ = some (.int .i64 c4) := cell_heap ec rfl
         have q6 : w3.cell? ⟨w.heap.size + 1, 6, none⟩ = some (.int .i64 c5) := cell_heap ec rfl
         have q7 : w3.cell? ⟨w.heap.size + 1, 7, none⟩ = some (.int .i64 c6) := cell_heap ec rfl
         have q8 : w3.cell? ⟨w.heap.size + 1, 8, none⟩ = some (.int .i64 c7) := cell_heap ec rfl
         have d0 : w3.cell? ⟨w.heap.size + 1 + 1, 0, none⟩ = some (.int .i64 0) := cell_heap er rfl
         have d1 : w3.cell? ⟨w.heap.size + 1 + 1, 1, none⟩ = some (.int .i64 0) := cell_heap er rfl
         have d2 : w3.cell? ⟨w.heap.size + 1 + 1, 2, none⟩ = some (.int .i64 0) := cell_heap er rfl
         have d3 : w3.cell? ⟨w.heap.size + 1 + 1, 3, none⟩ = some (.int .i64 0) := cell_heap er rfl
         have d4 : w3.cell? ⟨w.heap.size + 1 + 1, 4, none⟩ = some (.int .i64 0) := cell_heap er rfl
         have d5 : w3.cell? ⟨w.heap.size + 1 + 1, 5, none⟩ = some (.slice none 0 0) := cell_heap er rfl
         have g0 := fr_heap er 0
         have g1 := fr_heap er 1
         have g2 := fr_heap er 2
         have g3 := fr_heap er 3
         have g4 := fr_heap er 4
         have g5 := fr_heap er 5
         clear hb3 em ec er))
  refine bodyPost_ret (v := .tuple #[.agg #[.int .i64 0, .int .i64 0, .int .i64 0, .int .i64 0, .int .i64 0, .slice none 0 0], .int .i64 6]) ?_ rfl ?_
  · rw [results_cell2 rfl]
    go_simp
  · rw [HA.out]
    refine ⟨none, 0, 0, rfl, ?_, os_none _⟩
    repeat (first | with_reducible exact B3.out | (with_reducible refine Below.setCell ?_ (by first | (simp; done) | (simp; omega) | omega) _) | (with_reducible refine Below.alloc ?_ (by first | (simp; done) | (simp; omega) | omega) _))

set_option maxHeartbeats 3200000 in
theorem rapply_full {w : World} {x : Option Addr} {n c : Nat} (m : Mp) (ch : Ch) (h : Os w x n c m.osds) (h1 : mayM m = true) (h2 : mayC ch = true) (h3 : m.ep ≠ 1048576) (hk : ch.kind = 1) (hf : m.osds.findIdx? (isId ch.osd.id) = none) (hl : 64 ≤ m.osds.length) :
    Calls Try.prog 21 #[vM m.ep m.pool x n c, vC ch] w fun e w' => ∃ y yn yc, e = .returned (.tuple #[vM (applyP m ch).2.ep (applyP m ch).2.pool y yn yc, .int .i64 (applyP m ch).1]) ∧ Hid (Told w w' y yn yc (applyP m ch).2.osds) := by
  have hd : doP ch.kind m.osds ch.osd = (2, m.osds) := by unfold doP addP; rw [if_pos hk, hf, if_neg (by simp), if_pos hl]
  have HA := hid (applyP_err h1 h2 h3 hd (by simp))
  have hM := fun W (hW : Os W x n c m.osds) => rmay_any m hW
  have hC := fun W => rmayChange_any ch W
  have hP := fun W (hW : Os W x n c m.osds) => place_any m ch.osd.id hW
  have HS : Hid (∀ W, Below w.heap.size w W → Os W x n c m.osds) := fun W hW => h.below hW
  have HL := hid h.len
  have b0 := on (on (al w (.cells #[.int .i64 m.ep, .int .i64 m.pool.k, .int .i64 m.pool.m, .int .i64 m.pool.pgs, .int .i64 m.pool.dom, .slice x n c] 26)) (al _ (.cells #[.int .i64 ch.kind, .int .i64 ch.osd.id, .bool ch.osd.up, .bool ch.osd.inn, .int .i64 ch.osd.wt, .int .i64 ch.osd.life, .int .i64 ch.osd.boot, .int .i64 ch.osd.host, .int .i64 ch.osd.rack] 30))) (al _ (.cells #[.int .i64 0, .int .i64 0, .int .i64 0, .int .i64 0, .int .i64 0, .slice none 0 0] 26))
  have hM0 := hM _ (HS.out _ b0)
  have HB := hid b0
  have HX := hid (box3 w (.cells #[.int .i64 m.ep, .int .i64 m.pool.k, .int .i64 m.pool.m, .int .i64 m.pool.pgs, .int .i64 m.pool.dom, .slice x n c] 26) (.cells #[.int .i64 ch.kind, .int .i64 ch.osd.id, .bool ch.osd.up, .bool ch.osd.inn, .int .i64 ch.osd.wt, .int .i64 ch.osd.life, .int .i64 ch.osd.boot, .int .i64 ch.osd.host, .int .i64 ch.osd.rack] 30) (.cells #[.int .i64 0, .int .i64 0, .int .i64 0, .int .i64 0, .int .i64 0, .slice none 0 0] 26))
  have hsm := h.small
  clear hM h b0
  rw [h1] at hM0
  rw [h2] at hC
  rw [show idx (isId ch.osd.id) m.osds = -1 by unfold idx; rw [hf]] at hP
  have hq0 : (64 : Int) ≤ (n : Int) := by rw [← HL.out]; omega
  clear hf hl
  obtain ⟨e0, e1⟩ := (may_parts h1).1
  have hwr : IntKind.i64.wrap (m.ep + 1) = m.ep + 1 := by rw [IntKind.wrap_i64]; omega
  have hne : (m.ep == 1048576) = false := by simpa using h3
  clear h1 h2 h3 e0 e1 hd
  obtain ⟨ep, ⟨pk, pm, pg, pd⟩, L⟩ := m
  obtain ⟨ck, c0, c1, c2, c3, c4, c5, c6, c7⟩ := ch
  unfold vM vC at *
  dsimp only at hM0 hC hP HB HX HS HA hwr hne hk ⊢
  subst hk
  go_enter Try.func21, Try.ntmps21
  go_wp2_with (first
      | (
         go_at_call 16; refine hM0.mono ?_; rintro e w1 ⟨rfl, hb1⟩; clear hM0
         have em := (hb1.block _ (Array.getElem?_eq_some_iff.1 HX.out.1).1).trans HX.out.1
         have ec := (hb1.block _ (Array.getElem?_eq_some_iff.1 HX.out.2.1).1).trans HX.out.2.1
         have er := (hb1.block _ (Array.getElem?_eq_some_iff.1 HX.out.2.2).1).trans HX.out.2.2
         have HE1 := hid (And.intro em (And.intro ec er))
         have B1 := hid (on HB.out hb1)
         have l1 : w.heap.size + 1 + 1 < w1.heap.size := (Array.getElem?_eq_some_iff.1 er).1
         have j0 : w1.cell? ⟨w.heap.size + 1, 0, none⟩ = some (.int .i64 1) := cell_heap ec rfl
         have j1 : w1.cell? ⟨w.heap.size + 1, 1, none⟩ = some (.int .i64 c0) := cell_heap ec rfl
         have j2 : w1.cell? ⟨w.heap.size + 1, 2, none⟩ = some (.bool c1) := cell_heap ec rfl
         have j3 : w1.cell? ⟨w.heap.size + 1, 3, none⟩ = some (.bool c2) := cell_heap ec rfl
         have j4 : w1.cell? ⟨w.heap.size + 1, 4, none⟩ = some (.int .i64 c3) := cell_heap ec rfl
         have j5 : w1.cell? ⟨w.heap.size + 1, 5, none⟩ = some (.int .i64 c4) := cell_heap ec rfl
         have j6 : w1.cell? ⟨w.heap.size + 1, 6, none⟩ = some (.int .i64 c5) := cell_heap ec rfl
         have j7 : w1.cell? ⟨w.heap.size + 1, 7, none⟩ = some (.int .i64 c6) := cell_heap ec rfl
         have j8 : w1.cell? ⟨w.heap.size + 1, 8, none⟩ = some (.int .i64 c7) := cell_heap ec rfl
         clear hb1 em ec er)
      | (
         go_at_call 18; refine (hC _).mono ?_; rintro e w2 ⟨rfl, hb2⟩; clear hC
         have em := (hb2.block _ (Array.getElem?_eq_some_iff.1 HE1.out.1).1).trans HE1.out.1
         have ec := (hb2.block _ (Array.getElem?_eq_some_iff.1 HE1.out.2.1).1).trans HE1.out.2.1
         have er := (hb2.block _ (Array.getElem?_eq_some_iff.1 HE1.out.2.2).1).trans HE1.out.2.2
         have HE2 := hid (And.intro em (And.intro ec er))
         have B2 := hid (on B1.out hb2)
         have l2 : w.heap.size + 1 + 1 < w2.heap.size := (Array.getElem?_eq_some_iff.1 er).1
         have m0 : w2.cell? ⟨w.heap.size, 0, none⟩ = some (.int .i64 ep) := cell_heap em rfl
         have m1 : w2.cell? ⟨w.heap.size, 1, none⟩ = some (.int .i64 pk) := cell_heap em rfl
         have m2 : w2.cell? ⟨w.heap.size, 2, none⟩ = some (.int .i64 pm) := cell_heap em rfl
         have m3 : w2.cell? ⟨w.heap.size, 3, none⟩ = some (.int .i64 pg) := cell_heap em rfl
         have m4 : w2.cell? ⟨w.heap.size, 4, none⟩ = some (.int .i64 pd) := cell_heap em rfl
         have m5 : w2.cell? ⟨w.heap.size, 5, none⟩ = some (.slice x n c) := cell_heap em rfl
         have q1 : w2.cell? ⟨w.heap.size + 1, 1, none⟩ = some (.int .i64 c0) := cell_heap ec rfl
         have hP2 := hP w2 (HS.out w2 B2.out)
         clear hb2 em ec er)
      | (
         go_at_call 34; refine hP2.mono ?_; rintro e w3 ⟨rfl, hb3⟩; clear hP2
         have em := (hb3.block _ (Array.getElem?_eq_some_iff.1 HE2.out.1).1).trans HE2.out.1
         have ec := (hb3.block _ (Array.getElem?_eq_some_iff.1 HE2.out.2.1).1).trans HE2.out.2.1
         have er := (hb3.block _ (Array.getElem?_eq_some_iff.1 HE2.out.2.2).1).trans HE2.out.2.2
         have HE3 := hid (And.intro em (And.intro ec er))
         have B3 := hid (on B2.out hb3)
         have l3 : w.heap.size + 1 + 1 < w3.heap.size := (Array.getElem?_eq_some_iff.1 er).1
         have l3a : w.heap.size < w3.heap.size := (Array.getElem?_eq_some_iff.1 em).1
         have l3b : w.heap.size + 1 < w3.heap.size := (Array.getElem?_eq_some_iff.1 ec).1
         have m0 : w3.cell? ⟨w.heap.size, 0, none⟩ = some (.int .i64 ep) := cell_heap em rfl
         have m1 : w3.cell? ⟨w.heap.size, 1, none⟩ = some (.int .i64 pk) := cell_heap em rfl
         have m2 : w3.cell? ⟨w.heap.size, 2, none⟩ = some (.int .i64 pm) := cell_heap em rfl
         have m3 : w3.cell? ⟨w.heap.size, 3, none⟩ = some (.int .i64 pg) := cell_heap em rfl
         have m4 : w3.cell? ⟨w.heap.size, 4, none⟩ = some (.int .i64 pd) := cell_heap em rfl
         have m5 : w3.cell? ⟨w.heap.size, 5, none⟩ = some (.slice x n c) := cell_heap em rfl
         have q0 : w3.cell? ⟨w.heap.size + 1, 0, none⟩ = some (.int .i64 1) := cell_heap ec rfl
         have q1 : w3.cell? ⟨w.heap.size + 1, 1, none⟩ = some (.int .i64 c0) := cell_heap ec rfl
         have q2 : w3.cell? ⟨w.heap.size + 1, 2, none⟩ = some (.bool c1) := cell_heap ec rfl
         have q3 : w3.cell? ⟨w.heap.size + 1, 3, none⟩ = some (.bool c2) := cell_heap ec rfl
         have q4 : w3.cell? ⟨w.heap.size + 1, 4, none⟩ = some (.int .i64 c3) := cell_heap ec rfl
         have q5 : w3.cell? ⟨w.heap.size + 1, 5, none⟩ = some (.int .i64 c4) := cell_heap ec rfl
         have q6 : w3.cell? ⟨w.heap.size + 1, 6, none⟩ = some (.int .i64 c5) := cell_heap ec rfl
         have q7 : w3.cell? ⟨w.heap.size + 1, 7, none⟩ = some (.int .i64 c6) := cell_heap ec rfl
         have q8 : w3.cell? ⟨w.heap.size + 1, 8, none⟩ = some (.int .i64 c7) := cell_heap ec rfl
         have d0 : w3.cell? ⟨w.heap.size + 1 + 1, 0, none⟩ = some (.int .i64 0) := cell_heap er rfl
         have d1 : w3.cell? ⟨w.heap.size + 1 + 1, 1, none⟩ = some (.int .i64 0) := cell_heap er rfl
         have d2 : w3.cell? ⟨w.heap.size + 1 + 1, 2, none⟩ = some (.int .i64 0) := cell_heap er rfl
         have d3 : w3.cell? ⟨w.heap.size + 1 + 1, 3, none⟩ = some (.int .i64 0) := cell_heap er rfl
         have d4 : w3.cell? ⟨w.heap.size + 1 + 1, 4, none⟩ = some (.int .i64 0) := cell_heap er rfl
         have d5 : w3.cell? ⟨w.heap.size + 1 + 1, 5, none⟩ = some (.slice none 0 0) := cell_heap er rfl
         have g0 := fr_heap er 0
         have g1 := fr_heap er 1
         have g2 := fr_heap er 2
         have g3 := fr_heap er 3
         have g4 := fr_heap er 4
         have g5 := fr_heap er 5
         clear hb3 em ec er))
  refine bodyPost_ret (v := .tuple #[.agg #[.int .i64 0, .int .i64 0, .int .i64 0, .int .i64 0, .int .i64 0, .slice none 0 0], .int .i64 2]) ?_ rfl ?_
  · rw [results_cell2 rfl]
    go_simp
  · rw [HA.out]
    refine ⟨none, 0, 0, rfl, ?_, os_none _⟩
    repeat (first | with_reducible exact B3.out | (with_reducible refine Below.setCell ?_ (by first | (simp; done) | (simp; omega) | omega) _) | (with_reducible refine Below.alloc ?_ (by first | (simp; done) | (simp; omega) | omega) _))

set_option maxHeartbeats 3200000 in
theorem rapply_none {w : World} {x : Option Addr} {n c : Nat} (m : Mp) (ch : Ch) (h : Os w x n c m.osds) (h1 : mayM m = true) (h2 : mayC ch = true) (h3 : m.ep ≠ 1048576) (hk : ch.kind ≠ 1) (hf : m.osds.findIdx? (isId ch.osd.id) = none) :
    Calls Try.prog 21 #[vM m.ep m.pool x n c, vC ch] w fun e w' => ∃ y yn yc, e = .returned (.tuple #[vM (applyP m ch).2.ep (applyP m ch).2.pool y yn yc, .int .i64 (applyP m ch).1]) ∧ Hid (Told w w' y yn yc (applyP m ch).2.osds) := by
  have hd : doP ch.kind m.osds ch.osd = (4, m.osds) := by unfold doP; rw [if_neg hk]; exact turnP_none _ hf
  have HA := hid (applyP_err h1 h2 h3 hd (by simp))
  have hM := fun W (hW : Os W x n c m.osds) => rmay_any m hW
  have hC := fun W => rmayChange_any ch W
  have hP := fun W (hW : Os W x n c m.osds) => place_any m ch.osd.id hW
  have HS : Hid (∀ W, Below w.heap.size w W → Os W x n c m.osds) := fun W hW => h.below hW
  have HL := hid h.len
  have b0 := on (on (al w (.cells #[.int .i64 m.ep, .int .i64 m.pool.k, .int .i64 m.pool.m, .int .i64 m.pool.pgs, .int .i64 m.pool.dom, .slice x n c] 26)) (al _ (.cells #[.int .i64 ch.kind, .int .i64 ch.osd.id, .bool ch.osd.up, .bool ch.osd.inn, .int .i64 ch.osd.wt, .int .i64 ch.osd.life, .int .i64 ch.osd.boot, .int .i64 ch.osd.host, .int .i64 ch.osd.rack] 30))) (al _ (.cells #[.int .i64 0, .int .i64 0, .int .i64 0, .int .i64 0, .int .i64 0, .slice none 0 0] 26))
  have hM0 := hM _ (HS.out _ b0)
  have HB := hid b0
  have HX := hid (box3 w (.cells #[.int .i64 m.ep, .int .i64 m.pool.k, .int .i64 m.pool.m, .int .i64 m.pool.pgs, .int .i64 m.pool.dom, .slice x n c] 26) (.cells #[.int .i64 ch.kind, .int .i64 ch.osd.id, .bool ch.osd.up, .bool ch.osd.inn, .int .i64 ch.osd.wt, .int .i64 ch.osd.life, .int .i64 ch.osd.boot, .int .i64 ch.osd.host, .int .i64 ch.osd.rack] 30) (.cells #[.int .i64 0, .int .i64 0, .int .i64 0, .int .i64 0, .int .i64 0, .slice none 0 0] 26))
  have hsm := h.small
  clear hM h b0
  rw [h1] at hM0
  rw [h2] at hC
  rw [show idx (isId ch.osd.id) m.osds = -1 by unfold idx; rw [hf]] at hP
  clear hf
  obtain ⟨e0, e1⟩ := (may_parts h1).1
  have hwr : IntKind.i64.wrap (m.ep + 1) = m.ep + 1 := by rw [IntKind.wrap_i64]; omega
  have hne : (m.ep == 1048576) = false := by simpa using h3
  clear h1 h2 h3 e0 e1 hd
  obtain ⟨ep, ⟨pk, pm, pg, pd⟩, L⟩ := m
  obtain ⟨ck, c0, c1, c2, c3, c4, c5, c6, c7⟩ := ch
  unfold vM vC at *
  dsimp only at hM0 hC hP HB HX HS HA hwr hne hk ⊢
  go_enter Try.func21, Try.ntmps21
  go_wp2_with (first
      | (
         go_at_call 16; refine hM0.mono ?_; rintro e w1 ⟨rfl, hb1⟩; clear hM0
         have em := (hb1.block _ (Array.getElem?_eq_some_iff.1 HX.out.1).1).trans HX.out.1
         have ec := (hb1.block _ (Array.getElem?_eq_some_iff.1 HX.out.2.1).1).trans HX.out.2.1
         have er := (hb1.block _ (Array.getElem?_eq_some_iff.1 HX.out.2.2).1).trans HX.out.2.2
         have HE1 := hid (And.intro em (And.intro ec er))
         have B1 := hid (on HB.out hb1)
         have l1 : w.heap.size + 1 + 1 < w1.heap.size := (Array.getElem?_eq_some_iff.1 er).1
         have j0 : w1.cell? ⟨w.heap.size + 1, 0, none⟩ = some (.int .i64 ck) := cell_heap ec rfl
         have j1 : w1.cell? ⟨w.heap.size + 1, 1, none⟩ = some (.int .i64 c0) := cell_heap ec rfl
         have j2 : w1.cell? ⟨w.heap.size + 1, 2, none⟩ = some (.bool c1) := cell_heap ec rfl
         have j3 : w1.cell? ⟨w.heap.size + 1, 3, none⟩ = some (.bool c2) := cell_heap ec rfl
         have j4 : w1.cell? ⟨w.heap.size + 1, 4, none⟩ = some (.int .i64 c3) := cell_heap ec rfl
         have j5 : w1.cell? ⟨w.heap.size + 1, 5, none⟩ = some (.int .i64 c4) := cell_heap ec rfl
         have j6 : w1.cell? ⟨w.heap.size + 1, 6, none⟩ = some (.int .i64 c5) := cell_heap ec rfl
         have j7 : w1.cell? ⟨w.heap.size + 1, 7, none⟩ = some (.int .i64 c6) := cell_heap ec rfl
         have j8 : w1.cell? ⟨w.heap.size + 1, 8, none⟩ = some (.int .i64 c7) := cell_heap ec rfl
         clear hb1 em ec er)
      | (
         go_at_call 18; refine (hC _).mono ?_; rintro e w2 ⟨rfl, hb2⟩; clear hC
         have em := (hb2.block _ (Array.getElem?_eq_some_iff.1 HE1.out.1).1).trans HE1.out.1
         have ec := (hb2.block _ (Array.getElem?_eq_some_iff.1 HE1.out.2.1).1).trans HE1.out.2.1
         have er := (hb2.block _ (Array.getElem?_eq_some_iff.1 HE1.out.2.2).1).trans HE1.out.2.2
         have HE2 := hid (And.intro em (And.intro ec er))
         have B2 := hid (on B1.out hb2)
         have l2 : w.heap.size + 1 + 1 < w2.heap.size := (Array.getElem?_eq_some_iff.1 er).1
         have m0 : w2.cell? ⟨w.heap.size, 0, none⟩ = some (.int .i64 ep) := cell_heap em rfl
         have m1 : w2.cell? ⟨w.heap.size, 1, none⟩ = some (.int .i64 pk) := cell_heap em rfl
         have m2 : w2.cell? ⟨w.heap.size, 2, none⟩ = some (.int .i64 pm) := cell_heap em rfl
         have m3 : w2.cell? ⟨w.heap.size, 3, none⟩ = some (.int .i64 pg) := cell_heap em rfl
         have m4 : w2.cell? ⟨w.heap.size, 4, none⟩ = some (.int .i64 pd) := cell_heap em rfl
         have m5 : w2.cell? ⟨w.heap.size, 5, none⟩ = some (.slice x n c) := cell_heap em rfl
         have q1 : w2.cell? ⟨w.heap.size + 1, 1, none⟩ = some (.int .i64 c0) := cell_heap ec rfl
         have hP2 := hP w2 (HS.out w2 B2.out)
         clear hb2 em ec er)
      | (
         go_at_call 34; refine hP2.mono ?_; rintro e w3 ⟨rfl, hb3⟩; clear hP2
         have em := (hb3.block _ (Array.getElem?_eq_some_iff.1 HE2.out.1).1).trans HE2.out.1
         have ec := (hb3.block _ (Array.getElem?_eq_some_iff.1 HE2.out.2.1).1).trans HE2.out.2.1
         have er := (hb3.block _ (Array.getElem?_eq_some_iff.1 HE2.out.2.2).1).trans HE2.out.2.2
         have HE3 := hid (And.intro em (And.intro ec er))
         have B3 := hid (on B2.out hb3)
         have l3 : w.heap.size + 1 + 1 < w3.heap.size := (Array.getElem?_eq_some_iff.1 er).1
         have l3a : w.heap.size < w3.heap.size := (Array.getElem?_eq_some_iff.1 em).1
         have l3b : w.heap.size + 1 < w3.heap.size := (Array.getElem?_eq_some_iff.1 ec).1
         have m0 : w3.cell? ⟨w.heap.size, 0, none⟩ = some (.int .i64 ep) := cell_heap em rfl
         have m1 : w3.cell? ⟨w.heap.size, 1, none⟩ = some (.int .i64 pk) := cell_heap em rfl
         have m2 : w3.cell? ⟨w.heap.size, 2, none⟩ = some (.int .i64 pm) := cell_heap em rfl
         have m3 : w3.cell? ⟨w.heap.size, 3, none⟩ = some (.int .i64 pg) := cell_heap em rfl
         have m4 : w3.cell? ⟨w.heap.size, 4, none⟩ = some (.int .i64 pd) := cell_heap em rfl
         have m5 : w3.cell? ⟨w.heap.size, 5, none⟩ = some (.slice x n c) := cell_heap em rfl
         have q0 : w3.cell? ⟨w.heap.size + 1, 0, none⟩ = some (.int .i64 ck) := cell_heap ec rfl
         have q1 : w3.cell? ⟨w.heap.size + 1, 1, none⟩ = some (.int .i64 c0) := cell_heap ec rfl
         have q2 : w3.cell? ⟨w.heap.size + 1, 2, none⟩ = some (.bool c1) := cell_heap ec rfl
         have q3 : w3.cell? ⟨w.heap.size + 1, 3, none⟩ = some (.bool c2) := cell_heap ec rfl
         have q4 : w3.cell? ⟨w.heap.size + 1, 4, none⟩ = some (.int .i64 c3) := cell_heap ec rfl
         have q5 : w3.cell? ⟨w.heap.size + 1, 5, none⟩ = some (.int .i64 c4) := cell_heap ec rfl
         have q6 : w3.cell? ⟨w.heap.size + 1, 6, none⟩ = some (.int .i64 c5) := cell_heap ec rfl
         have q7 : w3.cell? ⟨w.heap.size + 1, 7, none⟩ = some (.int .i64 c6) := cell_heap ec rfl
         have q8 : w3.cell? ⟨w.heap.size + 1, 8, none⟩ = some (.int .i64 c7) := cell_heap ec rfl
         have d0 : w3.cell? ⟨w.heap.size + 1 + 1, 0, none⟩ = some (.int .i64 0) := cell_heap er rfl
         have d1 : w3.cell? ⟨w.heap.size + 1 + 1, 1, none⟩ = some (.int .i64 0) := cell_heap er rfl
         have d2 : w3.cell? ⟨w.heap.size + 1 + 1, 2, none⟩ = some (.int .i64 0) := cell_heap er rfl
         have d3 : w3.cell? ⟨w.heap.size + 1 + 1, 3, none⟩ = some (.int .i64 0) := cell_heap er rfl
         have d4 : w3.cell? ⟨w.heap.size + 1 + 1, 4, none⟩ = some (.int .i64 0) := cell_heap er rfl
         have d5 : w3.cell? ⟨w.heap.size + 1 + 1, 5, none⟩ = some (.slice none 0 0) := cell_heap er rfl
         have g0 := fr_heap er 0
         have g1 := fr_heap er 1
         have g2 := fr_heap er 2
         have g3 := fr_heap er 3
         have g4 := fr_heap er 4
         have g5 := fr_heap er 5
         clear hb3 em ec er))
  refine bodyPost_ret (v := .tuple #[.agg #[.int .i64 0, .int .i64 0, .int .i64 0, .int .i64 0, .int .i64 0, .slice none 0 0], .int .i64 4]) ?_ rfl ?_
  · rw [results_cell2 rfl]
    go_simp
  · rw [HA.out]
    refine ⟨none, 0, 0, rfl, ?_, os_none _⟩
    repeat (first | with_reducible exact B3.out | (with_reducible refine Below.setCell ?_ (by first | (simp; done) | (simp; omega) | omega) _) | (with_reducible refine Below.alloc ?_ (by first | (simp; done) | (simp; omega) | omega) _))

end Go.Proofs.Ytnddhlkdemibgaa.At
