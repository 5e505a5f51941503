/-
  The document's May.
  Conditions: the list lies in memory.
-/
import Derived.Test.YthlfmbijagpggaaAtMay
import Derived.Test.YthlfmbijagpggaaAtRef1
namespace Go.Proofs.Ythlfmbijagpggaa.At
open Go.RowKit By Fl
set_option linter.unusedVariables false
set_option linter.unusedSimpArgs false
set_option maxRecDepth 100000

/- The i-th one is as it should be, as far as the first q of the list tell. -/
def LowTo (L : List Osd) (a : Osd) (q : Nat) : Prop := ∀ (j : Nat) (b : Osd), j < q → L[j]? = some b → lowB a b = true

set_option maxHeartbeats 6400000 in
theorem rmay_any {w : World} {x : Option Addr} {n c : Nat} (m : Mp) (h : Os w x n c m.osds) :
    Calls Try.prog 4 #[vM m.ep m.pool x n c] w fun e w' => e = .returned (.bool (mayM m)) ∧ Below w.heap.size w w' := by
  obtain ⟨ep, p, L⟩ := m
  have hW := fun n a b W => rwithin_any n a b W
  have hP := fun W => rpool_any p W
  have HL := hid h.len
  have hm := h.small
  unfold mayM osdsB
  dsimp only at h HL ⊢
  generalize poolB p = tp at *
  obtain ⟨k, mm, g, d⟩ := p
  unfold vM
  unfold vP at hP
  dsimp only at hP ⊢
  have b0 := al w (.cells #[.int .i64 ep, .int .i64 k, .int .i64 mm, .int .i64 g, .int .i64 d, .slice x n c] 32)
  have k5 : (w.alloc (.cells #[.int .i64 ep, .int .i64 k, .int .i64 mm, .int .i64 g, .int .i64 d, .slice x n c] 32)).cell? ⟨w.heap.size, 5, none⟩ = some (.slice x n c) := by go_simp
  have HK := hid k5
  have HO := hid (h.below b0)
  have HB := hid b0
  clear h k5 b0
  cases hwi : wi ep 0 1048576 with
  | false =>
    clear hP
    go_enter Try.func4, Try.ntmps4
    go_wp2_with (go_at_call 9; refine (hW _ _ _ _).mono ?_; rintro e w1 ⟨rfl, rfl⟩)
    go_ret
    exact ⟨by simp, HB.out⟩
  | true =>
  cases tp with
  | false =>
    go_enter Try.func4, Try.ntmps4
    go_wp2_with (first
      | (go_at_call 9; refine (hW _ _ _ _).mono ?_; rintro e w1 ⟨rfl, rfl⟩)
      | (go_at_call 10; refine (hP _).mono ?_; rintro e w2 ⟨rfl, hb2⟩; clear hP))
    go_ret
    exact ⟨by simp, on HB.out hb2⟩
  | true =>
  by_cases h64 : 64 < n
  · have i64 : (64 : Int) < (n : Int) := by omega
    go_enter Try.func4, Try.ntmps4
    go_wp2_with (first
      | (go_at_call 9; refine (hW _ _ _ _).mono ?_; rintro e w1 ⟨rfl, rfl⟩)
      | (go_at_call 10; refine (hP _).mono ?_; rintro e w2 ⟨rfl, hb2⟩; clear hP; have q5 := keep hb2 HK.out))
    go_ret
    exact ⟨by rw [HL.out, decide_eq_false (by omega)]; simp, on HB.out hb2⟩
  have i64 : (n : Int) ≤ 64 := by omega
  have h64' : n ≤ 64 := by omega
  go_enter Try.func4, Try.ntmps4
  go_wp2_with (first
    | (go_at_call 9; refine (hW _ _ _ _).mono ?_; rintro e w1 ⟨rfl, rfl⟩)
    | (go_at_call 10; refine (hP _).mono ?_; rintro e w2 ⟨rfl, hb2⟩; clear hP; have q5 := keep hb2 HK.out))
  have HO2 := hid (HO.out.below hb2)
  have HB2 := hid (on HB.out hb2)
  have HQ := hid q5
  have HF : Hid (∀ t, (true && true && (decide (L.length ≤ 64) && t)) = t) := fun t => by rw [HL.out, decide_eq_true h64']; simp
  clear hW hb2 q5 h64
  go_loopw [3, 4] (fun i _ wr => ∃ q : Nat, q ≤ n ∧ i = .int .i64 q ∧ Hid (Below w2.heap.size w2 wr ∧ GoodTo L q)) (fun i _ _ => n - (intOf i).toNat)
  case atStart => exact ⟨0, by omega, rfl, Below.refl _ _, fun i a hi => by omega⟩
  case round =>
    obtain ⟨q, hq, rfl, HR⟩ := hrel
    have q5 := keep HR.out.1 HQ.out
    by_cases hlt : q < n
    · have hqn : (q : Int) < (n : Int) := by omega
      obtain ⟨a, ha⟩ : ∃ a, L[q]? = some a := ⟨L[q]'(by have := HL.out; omega), List.getElem?_eq_getElem (by have := HL.out; omega)⟩
      have ho := HO2.out.below HR.out.1
      rcases ho.row with h0 | ⟨b, o, rfl, hbl, hcell⟩
      · omega
      obtain ⟨k0, k1, k2, k3, k4, k5, k6, k7⟩ := Os.at (n := n) (c := c) hcell ha
      have hS := rosd_any a wr
      obtain ⟨t, ht⟩ : ∃ t, t = osdB a := ⟨_, rfl⟩
      rw [← ht] at hS
      have HA := hid (show L[q]? = some a ∧ t = osdB a from ⟨ha, ht⟩)
      have HC := hid hcell
      clear hcell ha ht ho
      obtain ⟨a0, a1, a2, a3, a4, a5, a6, a7⟩ := a
      unfold vO at hS
      dsimp only at k0 k1 k2 k3 k4 k5 k6 k7 hS
      cases t with
      | false =>
        go_wp2_with (go_at_call 11; refine hS.mono ?_; rintro e w3 ⟨rfl, hb3⟩; clear hS)
        go_ret
        exact ⟨by rw [HF.out, goodB_false HA.out.1 (.inl HA.out.2.symm)]; rfl, on HB2.out (on HR.out.1 hb3)⟩
      | true =>
        go_wp2_with (go_at_call 11; refine hS.mono ?_; rintro e w3 ⟨rfl, hb3⟩; clear hS)
        have HB3 := hid (on HR.out.1 hb3)
        have HC3 : Hid (∀ (k : Nat) (a : Osd), L[k]? = some a → ∀ (j : Nat) (v : Value), (enO a)[j]? = some v → w3.cell? ⟨b, o + k * 8 + j, none⟩ = some v) := fun k a hk j v hv => keep hb3 (HC.out k a hk j v hv)
        have HQ3 := hid (keep hb3 q5)
        clear hb3 q5 k0 k1 k2 k3 k4 k5 k6 k7 HC
        obtain ⟨wo, hwo⟩ : ∃ wo, wo = wr := ⟨_, rfl⟩
        subst hwo
        go_loopw [4] (fun i wr => ∃ r : Nat, r ≤ q ∧ i = .int .i64 r ∧ Hid (Below w3.heap.size w3 wr ∧ LowTo L ⟨a0, a1, a2, a3, a4, a5, a6, a7⟩ r)) (fun i _ => q - (intOf i).toNat)
        case atStart => exact ⟨0, by omega, rfl, Below.refl _ _, fun j b hj => by omega⟩
        case round =>
          obtain ⟨r, hr, rfl, HI⟩ := hrel
          have r5 := keep HI.out.1 HQ3.out
          by_cases hrq : r < q
          · have hrqI : (r : Int) < (q : Int) := by omega
            have hrnI : (r : Int) < (n : Int) := by omega
            obtain ⟨e, he⟩ : ∃ a, L[r]? = some a := ⟨L[r]'(by have := HL.out; omega), List.getElem?_eq_getElem (by have := HL.out; omega)⟩
            obtain ⟨k0, k1, k2, k3, k4, k5, k6, k7⟩ := Os.at (n := n) (c := c) (fun k a hk j v hv => keep HI.out.1 (HC3.out k a hk j v hv)) HA.out.1
            obtain ⟨l0, l1, l2, l3, l4, l5, l6, l7⟩ := Os.at (n := n) (c := c) (fun k a hk j v hv => keep HI.out.1 (HC3.out k a hk j v hv)) he
            clear k1 k2 k3 k4 k5 l1 l2 l3 l4 l5
            have HE := hid he
            clear he
            obtain ⟨e0, e1, e2, e3, e4, e5, e6, e7⟩ := e
            dsimp only at k0 k6 k7 l0 l6 l7
            by_cases h1 : a0 ≤ e0
            · go_wp2_with fail
              go_quiet (fail)
              go_wp2_with fail
              go_ret
              exact ⟨by rw [HF.out, goodB_false HA.out.1 (.inr ⟨r, _, hrq, HE.out, by unfold lowB; dsimp only; rw [decide_eq_false (by omega)]; rfl⟩)]; rfl, on HB2.out (on HB3.out (below_drewN' HI.out.1 _))⟩
            · have h1' : e0 < a0 := by omega
              by_cases h2 : e6 = a6
              · subst h2
                by_cases h3 : e7 = a7
                · subst h3
                  go_wp2_with fail
                  go_quiet (fail)
                  go_wp2_with fail
                  go_roundw
                  case rel =>
                    refine ⟨r + 1, by omega, by go_num, below_drewN' HI.out.1 _, fun j bb hj hb => ?_⟩
                    by_cases hjr : j = r
                    · subst hjr
                      have := Option.some.inj (HE.out.symm.trans hb)
                      subst this
                      exact (lowB_iff _ _).2 ⟨h1', fun _ => rfl⟩
                    · exact HI.out.2 j bb (by omega) hb
                  case measure => simp [intOf]; omega
                · have h3' : (e7 != a7) = true := by simpa using h3
                  go_wp2_with fail
                  go_quiet (fail)
                  go_wp2_with fail
                  go_ret
                  exact ⟨by rw [HF.out, goodB_false HA.out.1 (.inr ⟨r, _, hrq, HE.out, by
                    cases hq : lowB _ _ with
                    | false => rfl
                    | true => exact absurd (((lowB_iff _ _).1 hq).2 rfl) h3⟩)]; rfl, on HB2.out (on HB3.out (below_drewN' HI.out.1 _))⟩
              · have h2' : e6 ≠ a6 := h2
                go_wp2_with fail
                go_quiet (fail)
                go_wp2_with fail
                go_roundw
                case rel =>
                  refine ⟨r + 1, by omega, by go_num, below_drewN' HI.out.1 _, fun j bb hj hb => ?_⟩
                  by_cases hjr : j = r
                  · subst hjr
                    have := Option.some.inj (HE.out.symm.trans hb)
                    subst this
                    exact (lowB_iff _ _).2 ⟨h1', fun e => absurd e h2⟩
                  · exact HI.out.2 j bb (by omega) hb
                case measure => simp [intOf]; omega
          · have hrq2 : r = q := by omega
            subst hrq2
            go_wp2_with fail
            go_roundw
            case rel =>
              refine ⟨r + 1, by omega, by go_num, on HB3.out HI.out.1, fun i a hi hia => ?_⟩
              by_cases hir : i = r
              · subst hir
                have := Option.some.inj (HA.out.1.symm.trans hia)
                subst this
                exact ⟨HA.out.2.symm, fun j b hj hb => HI.out.2 j b hj hb⟩
              · exact HR.out.2 i a (by omega) hia
            case measure => simp [intOf]; omega
    · have hq2 : q = n := by omega
      subst hq2
      go_wp2_with fail
      go_ret
      exact ⟨by rw [HF.out, GoodTo.all (by rw [HL.out]; exact HR.out.2)]; rfl, on HB2.out HR.out.1⟩

end Go.Proofs.Ythlfmbijagpggaa.At
