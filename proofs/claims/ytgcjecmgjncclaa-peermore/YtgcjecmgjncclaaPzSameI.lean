/-
  The document's SameInfo, of any two.
  Conditions: what it is handed lies in memory.
-/
import Derived.Test.YtgcjecmgjncclaaPzStd
import Derived.Deep.Cut
namespace Go.Proofs.Ytgcjecmgjncclaa.Pz
open Go.RowKit By Fl
set_option linter.unusedVariables false
set_option linter.unusedSimpArgs false
set_option maxRecDepth 100000

def pT (v : TV) : Int × Int := (v.si, v.hd)
def eqT (a b : TV) : Bool := a.si == b.si && a.hd == b.hd
theorem eqT_is (a b : TV) : eqT a b = true ↔ pT a = pT b := by
  unfold eqT pT
  simp
theorem neq_tt (a b : TV) (w : World) : (binOp .neq 48 (.agg #[.int .i64 a.si, .int .i64 a.hd]) (.agg #[.int .i64 b.si, .int .i64 b.hd])).run Try.prog w = .ok (.bool (!eqT a b)) w := by
  unfold eqT
  go_simp
  repeat' split
  all_goals simp_all

set_option maxHeartbeats 6400000 in
theorem rsameInfo_any {w : World} {F G : Nat → Prop} {x y : Option Addr} {n c m d : Nat} {L M : List TV} (os li no he os' li' no' he' : Int) (ha : Ts w F x n c L) (hb : Ts w G y m d M) :
    Calls Try.prog 18 #[.agg #[.int .i64 os, .int .i64 li, .int .i64 no, .int .i64 he, .slice x n c], .agg #[.int .i64 os', .int .i64 li', .int .i64 no', .int .i64 he', .slice y m d]] w fun e w' => e = .returned (.bool (decide (os = os' ∧ li = li' ∧ no = no' ∧ he = he' ∧ L.map pT = M.map pT))) ∧ Below w.heap.size w w' := by
  obtain ⟨t1, h1⟩ : ∃ t, (os != os') = t := ⟨_, rfl⟩
  obtain ⟨t2, h2⟩ : ∃ t, (li != li') = t := ⟨_, rfl⟩
  obtain ⟨t3, h3⟩ : ∃ t, (no != no') = t := ⟨_, rfl⟩
  obtain ⟨t4, h4⟩ : ∃ t, (he != he') = t := ⟨_, rfl⟩
  obtain ⟨R, hR⟩ : ∃ R, R = decide (os = os' ∧ li = li' ∧ no = no' ∧ he = he' ∧ L.map pT = M.map pT) := ⟨_, rfl⟩
  have HF0 : Hid ((t1 = true ∨ t2 = true ∨ t3 = true ∨ t4 = true) → R = false) := hid fun h => by
    rw [hR, ← h1, ← h2, ← h3, ← h4] at *
    simp only [bne_iff_ne, ne_eq] at h
    simp only [decide_eq_false_iff_not]
    rintro ⟨e1, e2, e3, e4, _⟩
    rcases h with h | h | h | h
    · exact h e1
    · exact h e2
    · exact h e3
    · exact h e4
  have HF1 : Hid (L.map pT ≠ M.map pT → R = false) := hid fun h => by
    rw [hR]
    simp only [decide_eq_false_iff_not]
    rintro ⟨_, _, _, _, e⟩
    exact h e
  have HTr : Hid (t1 = false → t2 = false → t3 = false → t4 = false → L.map pT = M.map pT → R = true) := hid fun e1 e2 e3 e4 e5 => by
    rw [hR]
    simp only [decide_eq_true_eq]
    rw [← h1] at e1
    rw [← h2] at e2
    rw [← h3] at e3
    rw [← h4] at e4
    simp at e1 e2 e3 e4
    exact ⟨e1, e2, e3, e4, e5⟩
  rw [← hR]
  clear hR
  obtain ⟨w1, hw1⟩ : ∃ w1, w1 = (w.alloc (.cells (NCells os li no he (.slice x n c)) 27)).alloc (.cells (NCells os' li' no' he' (.slice y m d)) 27) := ⟨_, rfl⟩
  obtain ⟨bb, hsz, g0, g1⟩ := two_boxes2 w (NCells os li no he (.slice x n c)) (NCells os' li' no' he' (.slice y m d)) 27 27
  rw [← hw1] at bb hsz g0 g1
  have HB := hid bb
  have HKa : Hid (∀ W, Below w1.heap.size w1 W → W.cell? ⟨w.heap.size, 4, none⟩ = some (.slice x n c)) := hid fun W hW => cell_heap ((hW.block _ (lt_heap g0)).trans g0) rfl
  have HKb : Hid (∀ W, Below w1.heap.size w1 W → W.cell? ⟨w.heap.size + 1, 4, none⟩ = some (.slice y m d)) := hid fun W hW => cell_heap ((hW.block _ (lt_heap g1)).trans g1) rfl
  have HA := hid ha
  have HBl := hid hb
  have HLn : Hid (L.length = n ∧ M.length = m) := hid ⟨ha.len, hb.len⟩
  have hsm := ha.small
  have HW := hid hw1
  unfold NCells at hw1
  clear ha hb bb hsz g0 g1
  cases t1
  rotate_left
  · go_enter Try.func18, Try.ntmps18
    go_wp2_with fail
    go_ret
    exact ⟨by rw [HF0.out (by simp)]; rfl, by have := HB.out; rw [hw1] at this; exact this⟩
  cases t2
  rotate_left
  · go_enter Try.func18, Try.ntmps18
    go_wp2_with fail
    go_ret
    exact ⟨by rw [HF0.out (by simp)]; rfl, by have := HB.out; rw [hw1] at this; exact this⟩
  cases t3
  rotate_left
  · go_enter Try.func18, Try.ntmps18
    go_wp2_with fail
    go_ret
    exact ⟨by rw [HF0.out (by simp)]; rfl, by have := HB.out; rw [hw1] at this; exact this⟩
  cases t4
  rotate_left
  · go_enter Try.func18, Try.ntmps18
    go_wp2_with fail
    go_ret
    exact ⟨by rw [HF0.out (by simp)]; rfl, by have := HB.out; rw [hw1] at this; exact this⟩
  by_cases e1 : n = m
  rotate_left
  · have q1 : ((n : Int) != (m : Int)) = true := by simp; omega
    go_enter Try.func18, Try.ntmps18
    go_wp2_with fail
    go_ret
    exact ⟨by rw [HF1.out fun e => e1 (by have := congrArg List.length e; simp at this; have := HLn.out; omega)]; rfl, by have := HB.out; rw [hw1] at this; exact this⟩
  subst e1
  have o4 : ((n : Int) != (n : Int)) = false := by simp
  go_enter Try.func18, Try.ntmps18
  go_upto_region 3 with (fail)
  rw [← hw1]
  clear hw1 o4 h1 h2 h3 h4
  go_wp2_with fail
  go_loopw [5] (fun i wr => ∃ k : Nat, k ≤ n ∧ i = .int .i64 k ∧ Hid (Below w1.heap.size w1 wr ∧ (L.take k).map pT = (M.take k).map pT)) (fun i _ => n - (intOf i).toNat)
  case atStart => exact ⟨0, by omega, rfl, Below.refl _ _, by simp⟩
  case round =>
    obtain ⟨k, hk, rfl, HR⟩ := hrel
    have pa := HKa.out wr HR.out.1
    have pb := HKb.out wr HR.out.1
    by_cases hlt : k < n
    · have hkn : (k : Int) < (n : Int) := by omega
      obtain ⟨a, ha, hm⟩ := Lis.some HA.out hlt
      obtain ⟨b, hb, hm2⟩ := Lis.some HBl.out hlt
      rcases HA.out.row with hr0 | ⟨bl, o, hx, hbl, _, hc⟩
      · omega
      rcases HBl.out.row with hr0 | ⟨bl2, q, hy, hbl2, _, hc2⟩
      · omega
      obtain ⟨k0, k1⟩ := t_at hc ha
      obtain ⟨l0, l1⟩ := t_at hc2 hb
      have hbw := on HB.out HR.out.1
      subst hx hy
      have pa' := After.cell pa
      have pb' := After.cell pb
      have r0 := After.cell (keep hbw k0)
      have r1 := After.cell (keep hbw k1)
      have s0 := After.cell (keep hbw l0)
      have s1 := After.cell (keep hbw l1)
      have hq := neq_tt a b
      obtain ⟨t, ht⟩ : ∃ t, eqT a b = t := ⟨_, rfl⟩
      rw [ht] at hq
      have HE : Hid (t = true ↔ pT a = pT b) := hid (by rw [← ht]; exact eqT_is a b)
      have HY := hid (And.intro ha hb)
      obtain ⟨a0, a1⟩ := a
      obtain ⟨b0, b1⟩ := b
      dsimp only at r0 r1 s0 s1 hq
      clear hc ha hm hbl hc2 hbl2 hb hm2 k0 k1 l0 l1 hbw ht
      haveI := After.ne wr
      cases t with
      | true =>
        go_wp2_with fail
        refine wp_region_after (by kernel_rfl) (by kernel_rfl) ?_
        repeat (go_big_quiet_step (simp only [hq]))
        refine wpQuiet_nil ?_
        rintro _ ⟨q, rfl⟩
        go_wp2_with fail
        go_roundw
        case rel => exact ⟨k + 1, by omega, by go_num, on HR.out.1 q.h, take_map HY.out.1 HY.out.2 HR.out.2 (HE.out.1 (by trivial))⟩
        case measure => simp [intOf]; omega
      | false =>
        go_wp2_with fail
        refine wp_region_after (by kernel_rfl) (by kernel_rfl) ?_
        repeat (go_big_quiet_step (simp only [hq]))
        refine wpQuiet_nil ?_
        rintro _ ⟨q, rfl⟩
        go_wp2_with fail
        go_ret
        exact ⟨by rw [HF1.out fun h => by have := HE.out.2 (map_at HY.out.1 HY.out.2 h); cases this]; rfl, on HB.out (on HR.out.1 q.h)⟩
    · have hk2 : n = k := by omega
      subst hk2
      have HI := hid (take_all HLn.out.1 HLn.out.2 HR.out.2)
      go_wp2_with fail
      go_ret
      exact ⟨by rw [HTr.out (by trivial) (by trivial) (by trivial) (by trivial) HI.out]; rfl, on HB.out HR.out.1⟩

end Go.Proofs.Ytgcjecmgjncclaa.Pz
