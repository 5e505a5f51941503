/-
  Package crush: Choose.
  Conditions: the map lies in memory; numbers of 32 bits.
-/
import Derived.Test.YthlfmbijagpggaaCrCh0
import Derived.Test.YthlfmbijagpggaaCrCh1
import Derived.Test.YthlfmbijagpggaaCrCh2
namespace Go.Proofs.Ythlfmbijagpggaa.Cr
open Go.RowKit Go.Shelf By Fl At
open Sr (Wd Ws enW)
set_option linter.unusedVariables false
set_option linter.unusedSimpArgs false
set_option maxRecDepth 100000

set_option maxHeartbeats 1600000 in
theorem choose_map {w : World} {x : Option Addr} {n c : Nat} (m : Mp) (h : At.Os w x n c m.osds) (hk : m.pool.k ≤ 9223372036854775807) (dom want : Int) (y : Nat) (hm : mayM m = false) :
    Calls Try.prog 35 #[vM m.ep m.pool x n c, .agg #[.int .i64 dom, .int .i64 want], .int .u32 (y : Nat)] w fun e w' => e = .returned (.tuple #[.slice none 0 0, .int .i64 1]) ∧ Below w.heap.size w w' := by
  obtain ⟨w0, hw0⟩ : ∃ w0, w0 = (w.alloc (.cells #[.int .i64 m.ep, .int .i64 m.pool.k, .int .i64 m.pool.m, .int .i64 m.pool.pgs, .int .i64 m.pool.dom, .slice x n c] 32)).alloc (.cells #[.int .i64 dom, .int .i64 want] 71) := ⟨_, rfl⟩
  have b0 : Below w.heap.size w w0 := by rw [hw0]; exact on (al _ _) (al _ _)
  have r0 : w0.cell? ⟨w.heap.size + 1, 0, none⟩ = some (.int .i64 dom) := by rw [hw0]; go_simp
  have r1 : w0.cell? ⟨w.heap.size + 1, 1, none⟩ = some (.int .i64 want) := by rw [hw0]; go_simp
  have cC := check_any m (h.below b0) hk
  have HB := hid b0
  have HW := hid hw0
  rw [hw0] at cC
  unfold vM at cC ⊢
  rw [hm, show errB false = 1 from rfl] at cC
  clear hm
  clear h b0 hw0
  go_enter Try.func35, Try.ntmps35
  go_wp2_with (first
    | (go_at_call 16; refine cC.mono ?_; rintro e w1 ⟨rfl, hb1⟩; rw [← HW.out] at hb1; clear cC; have u0 := keep hb1 r0; have u1 := keep hb1 r1))
  go_ret2
  exact ⟨rfl, on HB.out hb1⟩

set_option maxHeartbeats 1600000 in
theorem choose_dom {w : World} {x : Option Addr} {n c : Nat} (m : Mp) (h : At.Os w x n c m.osds) (hk : m.pool.k ≤ 9223372036854775807) (dom want : Int) (y : Nat) (hm : mayM m = true) (hd : domB dom = false) :
    Calls Try.prog 35 #[vM m.ep m.pool x n c, .agg #[.int .i64 dom, .int .i64 want], .int .u32 (y : Nat)] w fun e w' => e = .returned (.tuple #[.slice none 0 0, .int .i64 1]) ∧ Below w.heap.size w w' := by
  obtain ⟨w0, hw0⟩ : ∃ w0, w0 = (w.alloc (.cells #[.int .i64 m.ep, .int .i64 m.pool.k, .int .i64 m.pool.m, .int .i64 m.pool.pgs, .int .i64 m.pool.dom, .slice x n c] 32)).alloc (.cells #[.int .i64 dom, .int .i64 want] 71) := ⟨_, rfl⟩
  have b0 : Below w.heap.size w w0 := by rw [hw0]; exact on (al _ _) (al _ _)
  have r0 : w0.cell? ⟨w.heap.size + 1, 0, none⟩ = some (.int .i64 dom) := by rw [hw0]; go_simp
  have r1 : w0.cell? ⟨w.heap.size + 1, 1, none⟩ = some (.int .i64 want) := by rw [hw0]; go_simp
  have cC := check_any m (h.below b0) hk
  have HB := hid b0
  have HW := hid hw0
  rw [hw0] at cC
  unfold vM at cC ⊢
  rw [hm, show errB true = 0 from rfl] at cC
  have cM := fun W => domainMay_any dom W
  rw [hd] at cM
  clear hm hd
  clear h b0 hw0
  go_enter Try.func35, Try.ntmps35
  go_wp2_with (first
    | (go_at_call 16; refine cC.mono ?_; rintro e w1 ⟨rfl, hb1⟩; rw [← HW.out] at hb1; clear cC; have u0 := keep hb1 r0; have u1 := keep hb1 r1)
    | (go_at_call 39; refine (cM _).mono ?_; rintro e w2 ⟨rfl, hw2⟩; subst w2; clear cM))
  go_ret2
  exact ⟨rfl, on HB.out hb1⟩

set_option maxHeartbeats 1600000 in
theorem choose_low {w : World} {x : Option Addr} {n c : Nat} (m : Mp) (h : At.Os w x n c m.osds) (hk : m.pool.k ≤ 9223372036854775807) (dom want : Int) (y : Nat) (hm : mayM m = true) (hd : domB dom = true) (hw : want < 1) :
    Calls Try.prog 35 #[vM m.ep m.pool x n c, .agg #[.int .i64 dom, .int .i64 want], .int .u32 (y : Nat)] w fun e w' => e = .returned (.tuple #[.slice none 0 0, .int .i64 1]) ∧ Below w.heap.size w w' := by
  obtain ⟨w0, hw0⟩ : ∃ w0, w0 = (w.alloc (.cells #[.int .i64 m.ep, .int .i64 m.pool.k, .int .i64 m.pool.m, .int .i64 m.pool.pgs, .int .i64 m.pool.dom, .slice x n c] 32)).alloc (.cells #[.int .i64 dom, .int .i64 want] 71) := ⟨_, rfl⟩
  have b0 : Below w.heap.size w w0 := by rw [hw0]; exact on (al _ _) (al _ _)
  have r0 : w0.cell? ⟨w.heap.size + 1, 0, none⟩ = some (.int .i64 dom) := by rw [hw0]; go_simp
  have r1 : w0.cell? ⟨w.heap.size + 1, 1, none⟩ = some (.int .i64 want) := by rw [hw0]; go_simp
  have cC := check_any m (h.below b0) hk
  have HB := hid b0
  have HW := hid hw0
  rw [hw0] at cC
  unfold vM at cC ⊢
  rw [hm, show errB true = 0 from rfl] at cC
  have cM := fun W => domainMay_any dom W
  rw [hd] at cM
  clear hm hd
  clear h b0 hw0
  go_enter Try.func35, Try.ntmps35
  go_wp2_with (first
    | (go_at_call 16; refine cC.mono ?_; rintro e w1 ⟨rfl, hb1⟩; rw [← HW.out] at hb1; clear cC; have u0 := keep hb1 r0; have u1 := keep hb1 r1)
    | (go_at_call 39; refine (cM _).mono ?_; rintro e w2 ⟨rfl, hw2⟩; subst w2; clear cM))
  go_ret2
  exact ⟨rfl, on HB.out hb1⟩

set_option maxHeartbeats 1600000 in
theorem choose_high {w : World} {x : Option Addr} {n c : Nat} (m : Mp) (h : At.Os w x n c m.osds) (hk : m.pool.k ≤ 9223372036854775807) (dom want : Int) (y : Nat) (hm : mayM m = true) (hd : domB dom = true) (hw : ¬ want < 1) (hw2 : 32 < want) :
    Calls Try.prog 35 #[vM m.ep m.pool x n c, .agg #[.int .i64 dom, .int .i64 want], .int .u32 (y : Nat)] w fun e w' => e = .returned (.tuple #[.slice none 0 0, .int .i64 1]) ∧ Below w.heap.size w w' := by
  obtain ⟨w0, hw0⟩ : ∃ w0, w0 = (w.alloc (.cells #[.int .i64 m.ep, .int .i64 m.pool.k, .int .i64 m.pool.m, .int .i64 m.pool.pgs, .int .i64 m.pool.dom, .slice x n c] 32)).alloc (.cells #[.int .i64 dom, .int .i64 want] 71) := ⟨_, rfl⟩
  have b0 : Below w.heap.size w w0 := by rw [hw0]; exact on (al _ _) (al _ _)
  have r0 : w0.cell? ⟨w.heap.size + 1, 0, none⟩ = some (.int .i64 dom) := by rw [hw0]; go_simp
  have r1 : w0.cell? ⟨w.heap.size + 1, 1, none⟩ = some (.int .i64 want) := by rw [hw0]; go_simp
  have cC := check_any m (h.below b0) hk
  have HB := hid b0
  have HW := hid hw0
  rw [hw0] at cC
  unfold vM at cC ⊢
  rw [hm, show errB true = 0 from rfl] at cC
  have cM := fun W => domainMay_any dom W
  rw [hd] at cM
  clear hm hd
  clear h b0 hw0
  go_enter Try.func35, Try.ntmps35
  go_wp2_with (first
    | (go_at_call 16; refine cC.mono ?_; rintro e w1 ⟨rfl, hb1⟩; rw [← HW.out] at hb1; clear cC; have u0 := keep hb1 r0; have u1 := keep hb1 r1)
    | (go_at_call 39; refine (cM _).mono ?_; rintro e w2 ⟨rfl, hw2⟩; subst w2; clear cM))
  go_ret2
  exact ⟨rfl, on HB.out hb1⟩

def okC (m : Mp) (dom want : Int) : Bool := mayM m && domB dom && decide (1 ≤ want) && decide (want ≤ 32)
def chL (m : Mp) (dom want : Int) (y : Nat) : List Int := if okC m dom want = true then chs m.osds (dom + 1).toNat want.toNat y else []
def chE (m : Mp) (dom want : Int) : Int := if okC m dom want = true then 0 else 1

theorem cchoose_own {w : World} {x : Option Addr} {n c : Nat} (m : Mp) (h : At.Os w x n c m.osds) (hk : m.pool.k ≤ 9223372036854775807) (dom want : Int) (y : Nat) (hy : y < 4294967296) :
    Calls Try.prog 35 #[vM m.ep m.pool x n c, .agg #[.int .i64 dom, .int .i64 want], .int .u32 (y : Nat)] w fun e w' => ∃ (x' : Option Addr) (n' c' : Nat), e = .returned (.tuple #[.slice x' n' c', .int .i64 (chE m dom want)]) ∧ Hid (Below w.heap.size w w' ∧ Own w' w.heap.size 3 1 enI (.slice x' n' c') (chL m dom want y)) := by
  have hno : okC m dom want = false → (Calls Try.prog 35 #[vM m.ep m.pool x n c, .agg #[.int .i64 dom, .int .i64 want], .int .u32 (y : Nat)] w fun e w' => e = .returned (.tuple #[.slice none 0 0, .int .i64 1]) ∧ Below w.heap.size w w') → Calls Try.prog 35 #[vM m.ep m.pool x n c, .agg #[.int .i64 dom, .int .i64 want], .int .u32 (y : Nat)] w fun e w' => ∃ (x' : Option Addr) (n' c' : Nat), e = .returned (.tuple #[.slice x' n' c', .int .i64 (chE m dom want)]) ∧ Hid (Below w.heap.size w w' ∧ Own w' w.heap.size 3 1 enI (.slice x' n' c') (chL m dom want y)) := fun e0 hc => by
    unfold chL chE
    rw [e0]
    exact hc.mono fun e w' ⟨he, hb⟩ => ⟨none, 0, 0, he, hb, Own.nil _ _ _ _ _⟩
  cases hm : mayM m with
  | false => exact hno (by simp [okC, hm]) (choose_map m h hk dom want y hm)
  | true =>
    cases hd : domB dom with
    | false => exact hno (by simp [okC, hm, hd]) (choose_dom m h hk dom want y hm hd)
    | true =>
      by_cases h1 : want < 1
      · exact hno (by simp [okC, hm, hd]; omega) (choose_low m h hk dom want y hm hd h1)
      · by_cases h2 : 32 < want
        · exact hno (by simp [okC, hm, hd]; omega) (choose_high m h hk dom want y hm hd h1 h2)
        · have e0 : okC m dom want = true := by simp [okC, hm, hd]; omega
          unfold chL chE
          rw [e0]
          obtain ⟨wn, rfl⟩ := Int.eq_ofNat_of_zero_le (show 0 ≤ want by omega)
          have hdd : dom = 0 ∨ dom = 1 ∨ dom = 2 := by
            unfold domB at hd
            simp at hd
            omega
          rcases hdd with rfl | rfl | rfl
          · exact (choose_0 m h hk hm wn (by omega) (by omega) y hy).mono fun e w' ⟨x', c', he, H⟩ => ⟨x', wn, c', he, H⟩
          · exact (choose_1 m h hk hm wn (by omega) (by omega) y hy).mono fun e w' ⟨x', c', he, H⟩ => ⟨x', wn, c', he, H⟩
          · exact (choose_2 m h hk hm wn (by omega) (by omega) y hy).mono fun e w' ⟨x', c', he, H⟩ => ⟨x', wn, c', he, H⟩

theorem cchoose_any {w : World} {x : Option Addr} {n c : Nat} (m : Mp) (h : At.Os w x n c m.osds) (hk : m.pool.k ≤ 9223372036854775807) (dom want : Int) (y : Nat) (hy : y < 4294967296) :
    Calls Try.prog 35 #[vM m.ep m.pool x n c, .agg #[.int .i64 dom, .int .i64 want], .int .u32 (y : Nat)] w fun e w' => ∃ (x' : Option Addr) (n' c' : Nat), e = .returned (.tuple #[.slice x' n' c', .int .i64 (chE m dom want)]) ∧ Hid (Below w.heap.size w w' ∧ Nu w' x' n' c' (chL m dom want y)) := by
  exact (cchoose_own m h hk dom want y hy).mono fun e w' ⟨x', n', c', he, H⟩ => ⟨x', n', c', he, H.out.1, own_nu H.out.2⟩

end Go.Proofs.Ythlfmbijagpggaa.Cr
