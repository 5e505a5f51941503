/-
  Package crush: Descend and Room.
  Conditions: the map lies in memory.
-/
import Derived.Test.YthiomhbehajldaaCrTree
import Derived.Test.YthiomhbehajldaaCrDesc
import Derived.Test.YthiomhbehajldaaCrRoom
import Derived.Test.YthiomhbehajldaaAtMay
namespace Go.Proofs.Ythiomhbehajldaa.Cr
open Go.RowKit Go.Shelf By Fl At
open Sr (Wd Ws enW)
set_option linter.unusedVariables false
set_option linter.unusedSimpArgs false
set_option maxRecDepth 100000

theorem may_facts {m : Mp} (h : mayM m = true) : m.osds.length ≤ 64 ∧ At.Good m.osds ∧ WB m.osds := by
  unfold mayM osdsB at h
  simp only [Bool.and_eq_true, decide_eq_true_eq] at h
  have hg := (goodB_iff m.osds).1 h.2.2
  refine ⟨h.2.1, hg, fun o ho => ?_⟩
  obtain ⟨i, hi⟩ := List.mem_iff_getElem?.1 ho
  have := (hg i o hi).1
  unfold osdB at this
  simp only [Bool.and_eq_true, wi_iff] at this
  unfold wO
  split <;> omega

def desP (m : Mp) (x r : Nat) : Int := if mayM m = true then idP (dsc m.osds x r) else -1
def roomP (m : Mp) (z : Int) : Int := if mayM m = true ∧ domB z = true then (rm (z + 1).toNat m.osds : Nat) else 0

set_option maxHeartbeats 1600000 in
theorem cdescend_any {w : World} {x : Option Addr} {n c : Nat} (m : Mp) (h : At.Os w x n c m.osds) (hk : m.pool.k ≤ 9223372036854775807) (y r : Nat) (hy : y < 4294967296) (hr : r < 4294967296) :
    Calls Try.prog 7 #[vM m.ep m.pool x n c, .int .u32 (y : Nat), .int .u32 (r : Nat)] w fun e w' => e = .returned (.int .i64 (desP m y r)) ∧ Below w.heap.size w w' := by
  obtain ⟨w0, hw0⟩ : ∃ w0, w0 = w.alloc (.cells #[.int .i64 m.ep, .int .i64 m.pool.k, .int .i64 m.pool.m, .int .i64 m.pool.pgs, .int .i64 m.pool.dom, .slice x n c] 26) := ⟨_, rfl⟩
  have b0 : Below w.heap.size w w0 := by rw [hw0]; exact al _ _
  have q5 : w0.cell? ⟨w.heap.size, 5, none⟩ = some (.slice x n c) := by rw [hw0]; go_simp
  have cC := check_any m (h.below b0) hk
  have HO := hid h
  have HB := hid b0
  have HW := hid hw0
  rw [hw0] at cC
  unfold vM at cC ⊢
  cases hm : mayM m with
  | false =>
    rw [hm] at cC
    have e1 : errB false = 1 := rfl
    rw [e1] at cC
    rw [show desP m y r = -1 by unfold desP; rw [hm]; rfl]
    clear h b0 hw0 hm q5
    go_enter Try.func7, Try.ntmps7
    go_wp2_with (go_at_call 18; refine cC.mono ?_; rintro e w1 ⟨rfl, hb1⟩; rw [← HW.out] at hb1; clear cC)
    go_ret
    exact ⟨rfl, on HB.out hb1⟩
  | true =>
    rw [hm] at cC
    have e1 : errB true = 0 := rfl
    rw [e1] at cC
    obtain ⟨f1, f2, f3⟩ := may_facts hm
    have HT : Hid (∀ W, Below w.heap.size w W → Calls Try.prog 19 #[.slice x n c] W fun e w' => TreeOf W m.osds e w') := fun W hb => tree_any (HO.out.below hb) (by rw [← HO.out.len]; exact f1) f3
    have HDs : Hid (∀ (W : World) (v : Bv) (F : Nat → Prop) (S : List Osd), S.Perm m.osds → BrAt W F 3 v S → Calls Try.prog 20 #[vB v, .int .u32 (y : Nat), .int .u32 (r : Nat)] W fun e w' => e = .returned (outPa (dsc m.osds y r)) ∧ Below W.heap.size W w') := fun W v F S hp hb => by
      have := descend_any hb y r hy hr
      rw [dsc_perm hp] at this
      exact this
    rw [show desP m y r = idP (dsc m.osds y r) by unfold desP; rw [hm]; rfl]
    clear h b0 hw0 hm f1 f2 f3
    cases hd : dsc m.osds y r with
    | none =>
      rw [hd] at HDs
      unfold outPa at HDs
      rw [noPa_eq] at HDs
      dsimp only at HDs
      have HE := hid hd
      clear hd
      go_enter Try.func7, Try.ntmps7
      go_wp2_with (first
        | (go_at_call 18; refine cC.mono ?_; rintro e w1 ⟨rfl, hb1⟩; rw [← HW.out] at hb1; clear cC; have t5 := keep hb1 q5; have cT := HT.out w1 (on HB.out hb1))
        | (go_at_call 19; refine cT.mono ?_; rintro e w2 ⟨v, rfl, H2⟩; clear cT; obtain ⟨S, s1, s2⟩ := H2.out.2; have cD := HDs.out w2 v _ S s1 s2; have HB2 := hid H2.out.1; clear s1 s2 H2; unfold vB at cD ⊢)
        | (go_at_call 20; refine cD.mono ?_; rintro e w3 ⟨rfl, hb3⟩; clear cD))
      go_ret
      exact ⟨rfl, on HB.out (on hb1 (on HB2.out (on hb3 (al _ _))))⟩
    | some p =>
      rw [hd] at HDs
      unfold outPa vPa at HDs
      dsimp only at HDs
      have HE := hid hd
      clear hd
      obtain ⟨rk, ho, id⟩ := p
      dsimp only at HDs
      go_enter Try.func7, Try.ntmps7
      go_wp2_with (first
        | (go_at_call 18; refine cC.mono ?_; rintro e w1 ⟨rfl, hb1⟩; rw [← HW.out] at hb1; clear cC; have t5 := keep hb1 q5; have cT := HT.out w1 (on HB.out hb1))
        | (go_at_call 19; refine cT.mono ?_; rintro e w2 ⟨v, rfl, H2⟩; clear cT; obtain ⟨S, s1, s2⟩ := H2.out.2; have cD := HDs.out w2 v _ S s1 s2; have HB2 := hid H2.out.1; clear s1 s2 H2; unfold vB at cD ⊢)
        | (go_at_call 20; refine cD.mono ?_; rintro e w3 ⟨rfl, hb3⟩; clear cD))
      go_ret
      exact ⟨rfl, on HB.out (on hb1 (on HB2.out (on hb3 (al _ _))))⟩

set_option maxHeartbeats 1600000 in
theorem croom_any {w : World} {x : Option Addr} {n c : Nat} (m : Mp) (h : At.Os w x n c m.osds) (hk : m.pool.k ≤ 9223372036854775807) (z : Int) :
    Calls Try.prog 9 #[vM m.ep m.pool x n c, .int .i64 z] w fun e w' => e = .returned (.int .i64 (roomP m z)) ∧ Below w.heap.size w w' := by
  obtain ⟨w0, hw0⟩ : ∃ w0, w0 = w.alloc (.cells #[.int .i64 m.ep, .int .i64 m.pool.k, .int .i64 m.pool.m, .int .i64 m.pool.pgs, .int .i64 m.pool.dom, .slice x n c] 26) := ⟨_, rfl⟩
  have b0 : Below w.heap.size w w0 := by rw [hw0]; exact al _ _
  have q5 : w0.cell? ⟨w.heap.size, 5, none⟩ = some (.slice x n c) := by rw [hw0]; go_simp
  have cC := check_any m (h.below b0) hk
  have HO := hid h
  have HB := hid b0
  have HW := hid hw0
  rw [hw0] at cC
  unfold vM at cC ⊢
  have cM := fun W => domainMay_any z W
  cases hm : mayM m with
  | false =>
    rw [hm] at cC
    have e1 : errB false = 1 := rfl
    rw [e1] at cC
    rw [show roomP m z = 0 by unfold roomP; rw [hm]; simp]
    clear h b0 hw0 hm q5 cM
    go_enter Try.func9, Try.ntmps9
    go_wp2_with (go_at_call 18; refine cC.mono ?_; rintro e w1 ⟨rfl, hb1⟩; rw [← HW.out] at hb1; clear cC)
    go_ret
    exact ⟨rfl, on HB.out hb1⟩
  | true =>
    rw [hm] at cC
    have e1 : errB true = 0 := rfl
    rw [e1] at cC
    obtain ⟨f1, f2, f3⟩ := may_facts hm
    cases hz : domB z with
    | false =>
      rw [hz] at cM
      rw [show roomP m z = 0 by unfold roomP; rw [hz]; simp]
      clear h b0 hw0 hm q5 hz
      go_enter Try.func9, Try.ntmps9
      go_wp2_with (first
        | (go_at_call 18; refine cC.mono ?_; rintro e w1 ⟨rfl, hb1⟩; rw [← HW.out] at hb1; clear cC)
        | (go_at_call 22; refine (cM _).mono ?_; rintro e w2 ⟨rfl, rfl⟩))
      go_ret
      exact ⟨rfl, on HB.out hb1⟩
    | true =>
      rw [hz] at cM
      have HT : Hid (∀ W, Below w.heap.size w W → Calls Try.prog 23 #[.slice x n c, .int .i64 z] W fun e w' => e = .returned (.int .i64 (rm (z + 1).toNat m.osds : Nat)) ∧ Below W.heap.size W w') := fun W hb => room_any (HO.out.below hb) (by rw [← HO.out.len]; exact f1) f3 z
      rw [show roomP m z = (rm (z + 1).toNat m.osds : Nat) by unfold roomP; rw [hm, hz]; simp]
      clear h b0 hw0 hm hz f1 f2 f3
      generalize rm (z + 1).toNat m.osds = R at *
      go_enter Try.func9, Try.ntmps9
      go_wp2_with (first
        | (go_at_call 18; refine cC.mono ?_; rintro e w1 ⟨rfl, hb1⟩; rw [← HW.out] at hb1; clear cC; have t5 := keep hb1 q5; have cT := HT.out w1 (on HB.out hb1))
        | (go_at_call 22; refine (cM _).mono ?_; rintro e w2 ⟨rfl, hw2⟩; subst w2; clear cM)
        | (go_at_call 23; refine cT.mono ?_; rintro e w3 ⟨rfl, hb3⟩; clear cT))
      go_ret
      exact ⟨rfl, on HB.out (on hb1 hb3)⟩

end Go.Proofs.Ythiomhbehajldaa.Cr
