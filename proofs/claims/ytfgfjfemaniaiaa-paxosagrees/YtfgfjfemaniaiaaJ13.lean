/-
  2 texts of this proof, one behind the other: PxMay, PxDecode.
-/
import Derived.Test.YtfgfjfemaniaiaaJ11
/-
  Package paxos: unsealed; which messages may be.
  Conditions: the bytes lie in memory.
-/
namespace Go.Proofs.Ytfgfjfemaniaiaa.Px
open Go.RowKit Wi By Fl Ba
set_option linter.unusedVariables false
set_option linter.unusedSimpArgs false
set_option maxRecDepth 100000

theorem Sl.headF {w : World} {x : Option Addr} {n c : Nat} {l : List Nat} (h : Fl.Sl w x n c l) (m : Nat) (hm : m ≤ n) : Fl.Sl w x m c (l.take m) := ofW ((toW h).head m hm)

theorem gl_eq_of {l k : List Nat} (hl : l.length = k.length) (h : ∀ i, i < l.length → Fl.gl l i = Fl.gl k i) : l = k := by
  apply List.ext_getElem hl
  intro i h1 h2
  have := h i h1
  simpa [Fl.gl, h1, h2] using this

theorem unsealed_any (x : Option Addr) (n c : Nat) (l : List Nat) (w : World) (hl : Fl.Sl w x n c l) (hn : n ≤ 140737488351232) :
    Calls Try.prog 38 #[.slice x n c] w fun e w' => ∃ y m cy, e = .returned (.tuple #[.slice y m cy, .bool (isSealed l)]) ∧ Hid (Below w.heap.size w w' ∧ (isSealed l = true → m = n - 8 ∧ Fl.Sl w' y m cy (l.take (n - 8)))) := by
  by_cases h8 : n < 8
  · have e0 : isSealed l = false := by
      unfold isSealed
      rw [hl.len]
      simp
      omega
    rw [e0]
    have h8' : (n : Int) < 8 := by omega
    clear hl
    go_enter Try.func38, Try.ntmps38
    go_wp2_with fail
    go_ret2
    exact ⟨none, 0, 0, rfl, Below.refl _ _, fun h => by cases h⟩
  · obtain ⟨m, rfl⟩ : ∃ m, n = m + 8 := ⟨n - 8, by omega⟩
    have hle := hl.le
    have h1 := Sl.headF hl m (by omega)
    have hS := sealed_any x m c (l.take m) w h1 (by omega)
    have hcut := fun v => cut_head x (m + 8) c m v (by omega)
    have hE : ∀ (w1 : World) (y : Option Addr) (my cy : Nat), Hid (my = m + 8 ∧ Vl w w1 y my cy (sealed (l.take m))) → Calls Try.prog 58 #[.slice y my cy, .slice x (m + 8) c] w1 fun e w' => e = .returned (.bool (isSealed l)) ∧ w' = w1 := fun w1 y my cy H => by
      obtain ⟨rfl, hv⟩ := H.out
      have hll := hl.len
      have hsl := hv.2.1.len
      refine bequal_any y x _ _ _ _ _ (Fl.gl (sealed (l.take m))) (Fl.gl l) w1 (fun i => Fl.gl_lt hv.2.1.lt i) (fun i => Fl.gl_lt hl.lt i) hv.2.1.row (hl.below hv.1).row (fun _ he => ?_) (fun he => ?_)
      · have e1 : sealed (l.take m) = l := gl_eq_of (by omega) (fun i hi => he i (by omega))
        unfold isSealed
        rw [hll, show m + 8 - 8 = m by omega, e1]
        simp
      · unfold isSealed
        rw [hll, show m + 8 - 8 = m by omega]
        simp only [Bool.and_eq_false_iff, decide_eq_false_iff_not]
        right
        intro e1
        exact he ⟨rfl, fun i _ => by rw [e1]⟩
    have HF : Hid (∀ w1, Below w.heap.size w w1 → Below w.heap.size w w1 ∧ (isSealed l = true → m = m + 8 - 8 ∧ Fl.Sl w1 x m c (l.take (m + 8 - 8)))) := fun w1 hb => ⟨hb, fun _ => ⟨by omega, by rw [show m + 8 - 8 = m by omega]; exact h1.below hb⟩⟩
    have i0 : ¬ (m : Int) + 8 < 8 := by omega
    have i1 : (m : Int) + 8 - 8 = m := by omega
    have i2 : (m : Int) + 8 ≤ 140737488351232 := by omega
    have hmc : m ≤ c := by omega
    generalize isSealed l = t at *
    clear hl h1 hn h8
    obtain ⟨q, hq⟩ : ∃ q, q = m + 8 := ⟨_, rfl⟩
    have hqi : (q : Int) - 8 = m := by omega
    have hqn : ¬ (q : Int) < 8 := by omega
    have hqb : (q : Int) ≤ 140737488351232 := by omega
    rw [← hq] at hcut hE hS ⊢
    rw [← hq] at HF
    clear i0 i1 i2 hq hle
    go_enter Try.func38, Try.ntmps38
    go_wp2_with (first
      | (
         go_at_call 59; refine hS.mono ?_; rintro e w1 ⟨y1, m1, c1, rfl, H1⟩; clear hS
         have hE1 := hE w1 y1 m1 c1 H1
         clear hE)
      | (
         go_at_call 58; refine hE1.mono ?_; rintro e w2 ⟨rfl, hw2⟩; subst w2; clear hE1))
    go_ret2
    exact ⟨x, m, c, rfl, HF.out _ H1.out.2.1⟩

set_option maxHeartbeats 1600000 in
theorem mmay1 (num kn fr n dn c dl cy : Nat) (p1 p2 a1 a2 : Int) (x y : Option Addr) (ts td : Bool) (w : World)
    (hS : ∀ W, Below w.heap.size w W → Calls Try.prog 66 #[.agg #[.int .i64 p1, .int .i64 p2, .int .i64 a1, .int .i64 a2, .slice x dn c], .int .i64 n] W fun e w' => e = .returned (.bool ts) ∧ Hid (Below W.heap.size W w'))
    (hA : ∀ W, Below w.heap.size w W → Calls Try.prog 67 #[.slice y dl cy] W fun e w' => e = .returned (.bool td) ∧ Hid (Below W.heap.size W w')) :
    Calls Try.prog 46 #[.agg #[.int .i64 1, .int .i64 num, .int .i64 p1, .int .i64 p2, .int .i64 a1, .int .i64 a2, .slice x dn c, .int .i64 kn, .slice y dl cy], .int .i64 fr, .int .i64 n] w fun e w' => e = .returned (.bool (decide (1 ≤ num) && ts && decide (p2 = (fr : Int)) && (decide (a1 = 0) && decide (a2 = 0)))) ∧ Hid (Below w.heap.size w w') := by
  have hE := fun W => eq_bt a1 a2 0 0 W
  have hF := fun W => eq_bt a1 a2 p1 p2 W
  by_cases hn : 1 ≤ num
  · have i1 : (1 : Int) ≤ (num : Int) := by omega
    cases ts with
    | true =>
      by_cases ho : p2 = (fr : Int)
      · subst ho
        go_enter Try.func46, Try.ntmps46
        go_wp2_with (first
          | (
             go_at_call 66; refine (hS _ (al _ _)).mono ?_; rintro e w1 ⟨rfl, H1⟩; clear hS
             have k0 := keep H1.out (b := w.heap.size) (o := 0) (x := .int .i64 1) (by first | assumption | go_simp)
             have k1 := keep H1.out (b := w.heap.size) (o := 1) (x := .int .i64 num) (by first | assumption | go_simp)
             have k2 := keep H1.out (b := w.heap.size) (o := 2) (x := .int .i64 p1) (by first | assumption | go_simp)
             have k3 := keep H1.out (b := w.heap.size) (o := 3) (x := .int .i64 (fr : Int)) (by first | assumption | go_simp)
             have k4 := keep H1.out (b := w.heap.size) (o := 4) (x := .int .i64 a1) (by first | assumption | go_simp)
             have k5 := keep H1.out (b := w.heap.size) (o := 5) (x := .int .i64 a2) (by first | assumption | go_simp)
             have k6 := keep H1.out (b := w.heap.size) (o := 6) (x := .slice x dn c) (by first | assumption | go_simp)
             have k7 := keep H1.out (b := w.heap.size) (o := 7) (x := .int .i64 kn) (by first | assumption | go_simp)
             have k8 := keep H1.out (b := w.heap.size) (o := 8) (x := .slice y dl cy) (by first | assumption | go_simp)
             have B1 := on (al _ _) H1.out))
        go_ret
        exact ⟨by simp_all, B1⟩
      · have ho2 : (p2 == (fr : Int)) = false := by simp [ho]
        clear ho
        go_enter Try.func46, Try.ntmps46
        go_wp2_with (first
          | (
             go_at_call 66; refine (hS _ (al _ _)).mono ?_; rintro e w1 ⟨rfl, H1⟩; clear hS
             have k0 := keep H1.out (b := w.heap.size) (o := 0) (x := .int .i64 1) (by first | assumption | go_simp)
             have k1 := keep H1.out (b := w.heap.size) (o := 1) (x := .int .i64 num) (by first | assumption | go_simp)
             have k2 := keep H1.out (b := w.heap.size) (o := 2) (x := .int .i64 p1) (by first | assumption | go_simp)
             have k3 := keep H1.out (b := w.heap.size) (o := 3) (x := .int .i64 p2) (by first | assumption | go_simp)
             have k4 := keep H1.out (b := w.heap.size) (o := 4) (x := .int .i64 a1) (by first | assumption | go_simp)
             have k5 := keep H1.out (b := w.heap.size) (o := 5) (x := .int .i64 a2) (by first | assumption | go_simp)
             have k6 := keep H1.out (b := w.heap.size) (o := 6) (x := .slice x dn c) (by first | assumption | go_simp)
             have k7 := keep H1.out (b := w.heap.size) (o := 7) (x := .int .i64 kn) (by first | assumption | go_simp)
             have k8 := keep H1.out (b := w.heap.size) (o := 8) (x := .slice y dl cy) (by first | assumption | go_simp)
             have B1 := on (al _ _) H1.out))
        go_ret
        exact ⟨by simp_all, B1⟩
    | false =>
      go_enter Try.func46, Try.ntmps46
      go_wp2_with (first
        | (
           go_at_call 66; refine (hS _ (al _ _)).mono ?_; rintro e w1 ⟨rfl, H1⟩; clear hS
           have k0 := keep H1.out (b := w.heap.size) (o := 0) (x := .int .i64 1) (by first | assumption | go_simp)
           have k1 := keep H1.out (b := w.heap.size) (o := 1) (x := .int .i64 num) (by first | assumption | go_simp)
           have k2 := keep H1.out (b := w.heap.size) (o := 2) (x := .int .i64 p1) (by first | assumption | go_simp)
           have k3 := keep H1.out (b := w.heap.size) (o := 3) (x := .int .i64 p2) (by first | assumption | go_simp)
           have k4 := keep H1.out (b := w.heap.size) (o := 4) (x := .int .i64 a1) (by first | assumption | go_simp)
           have k5 := keep H1.out (b := w.heap.size) (o := 5) (x := .int .i64 a2) (by first | assumption | go_simp)
           have k6 := keep H1.out (b := w.heap.size) (o := 6) (x := .slice x dn c) (by first | assumption | go_simp)
           have k7 := keep H1.out (b := w.heap.size) (o := 7) (x := .int .i64 kn) (by first | assumption | go_simp)
           have k8 := keep H1.out (b := w.heap.size) (o := 8) (x := .slice y dl cy) (by first | assumption | go_simp)
           have B1 := on (al _ _) H1.out))
      go_ret
      exact ⟨by simp_all, B1⟩
  · have i1 : ¬ (1 : Int) ≤ (num : Int) := by omega
    have i2 : num = 0 := by omega
    subst i2
    go_enter Try.func46, Try.ntmps46
    go_wp2_with fail
    go_ret
    exact ⟨by simp_all, al _ _⟩

set_option maxHeartbeats 1600000 in
theorem mmay2 (num kn fr n dn c dl cy : Nat) (p1 p2 a1 a2 : Int) (x y : Option Addr) (ts td : Bool) (w : World)
    (hS : ∀ W, Below w.heap.size w W → Calls Try.prog 66 #[.agg #[.int .i64 p1, .int .i64 p2, .int .i64 a1, .int .i64 a2, .slice x dn c], .int .i64 n] W fun e w' => e = .returned (.bool ts) ∧ Hid (Below W.heap.size W w'))
    (hA : ∀ W, Below w.heap.size w W → Calls Try.prog 67 #[.slice y dl cy] W fun e w' => e = .returned (.bool td) ∧ Hid (Below W.heap.size W w')) :
    Calls Try.prog 46 #[.agg #[.int .i64 2, .int .i64 num, .int .i64 p1, .int .i64 p2, .int .i64 a1, .int .i64 a2, .slice x dn c, .int .i64 kn, .slice y dl cy], .int .i64 fr, .int .i64 n] w fun e w' => e = .returned (.bool (decide (1 ≤ num) && ts && decide (p2 = (fr : Int)) && (decide (a1 = p1) && decide (a2 = p2)))) ∧ Hid (Below w.heap.size w w') := by
  have hE := fun W => eq_bt a1 a2 0 0 W
  have hF := fun W => eq_bt a1 a2 p1 p2 W
  by_cases hn : 1 ≤ num
  · have i1 : (1 : Int) ≤ (num : Int) := by omega
    cases ts with
    | true =>
      by_cases ho : p2 = (fr : Int)
      · subst ho
        go_enter Try.func46, Try.ntmps46
        go_wp2_with (first
          | (
             go_at_call 66; refine (hS _ (al _ _)).mono ?_; rintro e w1 ⟨rfl, H1⟩; clear hS
             have k0 := keep H1.out (b := w.heap.size) (o := 0) (x := .int .i64 2) (by first | assumption | go_simp)
             have k1 := keep H1.out (b := w.heap.size) (o := 1) (x := .int .i64 num) (by first | assumption | go_simp)
             have k2 := keep H1.out (b := w.heap.size) (o := 2) (x := .int .i64 p1) (by first | assumption | go_simp)
             have k3 := keep H1.out (b := w.heap.size) (o := 3) (x := .int .i64 (fr : Int)) (by first | assumption | go_simp)
             have k4 := keep H1.out (b := w.heap.size) (o := 4) (x := .int .i64 a1) (by first | assumption | go_simp)
             have k5 := keep H1.out (b := w.heap.size) (o := 5) (x := .int .i64 a2) (by first | assumption | go_simp)
             have k6 := keep H1.out (b := w.heap.size) (o := 6) (x := .slice x dn c) (by first | assumption | go_simp)
             have k7 := keep H1.out (b := w.heap.size) (o := 7) (x := .int .i64 kn) (by first | assumption | go_simp)
             have k8 := keep H1.out (b := w.heap.size) (o := 8) (x := .slice y dl cy) (by first | assumption | go_simp)
             have B1 := on (al _ _) H1.out))
        go_ret
        exact ⟨by simp_all, B1⟩
      · have ho2 : (p2 == (fr : Int)) = false := by simp [ho]
        clear ho
        go_enter Try.func46, Try.ntmps46
        go_wp2_with (first
          | (
             go_at_call 66; refine (hS _ (al _ _)).mono ?_; rintro e w1 ⟨rfl, H1⟩; clear hS
             have k0 := keep H1.out (b := w.heap.size) (o := 0) (x := .int .i64 2) (by first | assumption | go_simp)
             have k1 := keep H1.out (b := w.heap.size) (o := 1) (x := .int .i64 num) (by first | assumption | go_simp)
             have k2 := keep H1.out (b := w.heap.size) (o := 2) (x := .int .i64 p1) (by first | assumption | go_simp)
             have k3 := keep H1.out (b := w.heap.size) (o := 3) (x := .int .i64 p2) (by first | assumption | go_simp)
             have k4 := keep H1.out (b := w.heap.size) (o := 4) (x := .int .i64 a1) (by first | assumption | go_simp)
             have k5 := keep H1.out (b := w.heap.size) (o := 5) (x := .int .i64 a2) (by first | assumption | go_simp)
             have k6 := keep H1.out (b := w.heap.size) (o := 6) (x := .slice x dn c) (by first | assumption | go_simp)
             have k7 := keep H1.out (b := w.heap.size) (o := 7) (x := .int .i64 kn) (by first | assumption | go_simp)
             have k8 := keep H1.out (b := w.heap.size) (o := 8) (x := .slice y dl cy) (by first | assumption | go_simp)
             have B1 := on (al _ _) H1.out))
        go_ret
        exact ⟨by simp_all, B1⟩
    | false =>
      go_enter Try.func46, Try.ntmps46
      go_wp2_with (first
        | (
           go_at_call 66; refine (hS _ (al _ _)).mono ?_; rintro e w1 ⟨rfl, H1⟩; clear hS
           have k0 := keep H1.out (b := w.heap.size) (o := 0) (x := .int .i64 2) (by first | assumption | go_simp)
           have k1 := keep H1.out (b := w.heap.size) (o := 1) (x := .int .i64 num) (by first | assumption | go_simp)
           have k2 := keep H1.out (b := w.heap.size) (o := 2) (x := .int .i64 p1) (by first | assumption | go_simp)
           have k3 := keep H1.out (b := w.heap.size) (o := 3) (x := .int .i64 p2) (by first | assumption | go_simp)
           have k4 := keep H1.out (b := w.heap.size) (o := 4) (x := .int .i64 a1) (by first | assumption | go_simp)
           have k5 := keep H1.out (b := w.heap.size) (o := 5) (x := .int .i64 a2) (by first | assumption | go_simp)
           have k6 := keep H1.out (b := w.heap.size) (o := 6) (x := .slice x dn c) (by first | assumption | go_simp)
           have k7 := keep H1.out (b := w.heap.size) (o := 7) (x := .int .i64 kn) (by first | assumption | go_simp)
           have k8 := keep H1.out (b := w.heap.size) (o := 8) (x := .slice y dl cy) (by first | assumption | go_simp)
           have B1 := on (al _ _) H1.out))
      go_ret
      exact ⟨by simp_all, B1⟩
  · have i1 : ¬ (1 : Int) ≤ (num : Int) := by omega
    have i2 : num = 0 := by omega
    subst i2
    go_enter Try.func46, Try.ntmps46
    go_wp2_with fail
    go_ret
    exact ⟨by simp_all, al _ _⟩

set_option maxHeartbeats 1600000 in
theorem mmay3 (num kn fr n dn c dl cy : Nat) (p1 p2 a1 a2 : Int) (x y : Option Addr) (ts td : Bool) (w : World)
    (hS : ∀ W, Below w.heap.size w W → Calls Try.prog 66 #[.agg #[.int .i64 p1, .int .i64 p2, .int .i64 a1, .int .i64 a2, .slice x dn c], .int .i64 n] W fun e w' => e = .returned (.bool ts) ∧ Hid (Below W.heap.size W w'))
    (hA : ∀ W, Below w.heap.size w W → Calls Try.prog 67 #[.slice y dl cy] W fun e w' => e = .returned (.bool td) ∧ Hid (Below W.heap.size W w')) :
    Calls Try.prog 46 #[.agg #[.int .i64 3, .int .i64 num, .int .i64 p1, .int .i64 p2, .int .i64 a1, .int .i64 a2, .slice x dn c, .int .i64 kn, .slice y dl cy], .int .i64 fr, .int .i64 n] w fun e w' => e = .returned (.bool (decide (1 ≤ num) && ts)) ∧ Hid (Below w.heap.size w w') := by
  have hE := fun W => eq_bt a1 a2 0 0 W
  have hF := fun W => eq_bt a1 a2 p1 p2 W
  by_cases hn : 1 ≤ num
  · have i1 : (1 : Int) ≤ (num : Int) := by omega
    cases ts with
    | true =>
      go_enter Try.func46, Try.ntmps46
      go_wp2_with (first
        | (
           go_at_call 66; refine (hS _ (al _ _)).mono ?_; rintro e w1 ⟨rfl, H1⟩; clear hS
           have k0 := keep H1.out (b := w.heap.size) (o := 0) (x := .int .i64 3) (by first | assumption | go_simp)
           have k1 := keep H1.out (b := w.heap.size) (o := 1) (x := .int .i64 num) (by first | assumption | go_simp)
           have k2 := keep H1.out (b := w.heap.size) (o := 2) (x := .int .i64 p1) (by first | assumption | go_simp)
           have k3 := keep H1.out (b := w.heap.size) (o := 3) (x := .int .i64 p2) (by first | assumption | go_simp)
           have k4 := keep H1.out (b := w.heap.size) (o := 4) (x := .int .i64 a1) (by first | assumption | go_simp)
           have k5 := keep H1.out (b := w.heap.size) (o := 5) (x := .int .i64 a2) (by first | assumption | go_simp)
           have k6 := keep H1.out (b := w.heap.size) (o := 6) (x := .slice x dn c) (by first | assumption | go_simp)
           have k7 := keep H1.out (b := w.heap.size) (o := 7) (x := .int .i64 kn) (by first | assumption | go_simp)
           have k8 := keep H1.out (b := w.heap.size) (o := 8) (x := .slice y dl cy) (by first | assumption | go_simp)
           have B1 := on (al _ _) H1.out))
      go_ret
      exact ⟨by simp_all, B1⟩
    | false =>
      go_enter Try.func46, Try.ntmps46
      go_wp2_with (first
        | (
           go_at_call 66; refine (hS _ (al _ _)).mono ?_; rintro e w1 ⟨rfl, H1⟩; clear hS
           have k0 := keep H1.out (b := w.heap.size) (o := 0) (x := .int .i64 3) (by first | assumption | go_simp)
           have k1 := keep H1.out (b := w.heap.size) (o := 1) (x := .int .i64 num) (by first | assumption | go_simp)
           have k2 := keep H1.out (b := w.heap.size) (o := 2) (x := .int .i64 p1) (by first | assumption | go_simp)
           have k3 := keep H1.out (b := w.heap.size) (o := 3) (x := .int .i64 p2) (by first | assumption | go_simp)
           have k4 := keep H1.out (b := w.heap.size) (o := 4) (x := .int .i64 a1) (by first | assumption | go_simp)
           have k5 := keep H1.out (b := w.heap.size) (o := 5) (x := .int .i64 a2) (by first | assumption | go_simp)
           have k6 := keep H1.out (b := w.heap.size) (o := 6) (x := .slice x dn c) (by first | assumption | go_simp)
           have k7 := keep H1.out (b := w.heap.size) (o := 7) (x := .int .i64 kn) (by first | assumption | go_simp)
           have k8 := keep H1.out (b := w.heap.size) (o := 8) (x := .slice y dl cy) (by first | assumption | go_simp)
           have B1 := on (al _ _) H1.out))
      go_ret
      exact ⟨by simp_all, B1⟩
  · have i1 : ¬ (1 : Int) ≤ (num : Int) := by omega
    have i2 : num = 0 := by omega
    subst i2
    go_enter Try.func46, Try.ntmps46
    go_wp2_with fail
    go_ret
    exact ⟨by simp_all, al _ _⟩

set_option maxHeartbeats 1600000 in
theorem mmay4 (num kn fr n dn c dl cy : Nat) (p1 p2 a1 a2 : Int) (x y : Option Addr) (ts td : Bool) (w : World)
    (hS : ∀ W, Below w.heap.size w W → Calls Try.prog 66 #[.agg #[.int .i64 p1, .int .i64 p2, .int .i64 a1, .int .i64 a2, .slice x dn c], .int .i64 n] W fun e w' => e = .returned (.bool ts) ∧ Hid (Below W.heap.size W w'))
    (hA : ∀ W, Below w.heap.size w W → Calls Try.prog 67 #[.slice y dl cy] W fun e w' => e = .returned (.bool td) ∧ Hid (Below W.heap.size W w')) :
    Calls Try.prog 46 #[.agg #[.int .i64 4, .int .i64 num, .int .i64 p1, .int .i64 p2, .int .i64 a1, .int .i64 a2, .slice x dn c, .int .i64 kn, .slice y dl cy], .int .i64 fr, .int .i64 n] w fun e w' => e = .returned (.bool (true)) ∧ Hid (Below w.heap.size w w') := by
  have hE := fun W => eq_bt a1 a2 0 0 W
  have hF := fun W => eq_bt a1 a2 p1 p2 W
  by_cases hn : 1 ≤ num
  · have i1 : (1 : Int) ≤ (num : Int) := by omega
    cases ts with
    | true =>
      go_enter Try.func46, Try.ntmps46
      go_wp2_with (first
        | (
           go_at_call 66; refine (hS _ (al _ _)).mono ?_; rintro e w1 ⟨rfl, H1⟩; clear hS
           have k0 := keep H1.out (b := w.heap.size) (o := 0) (x := .int .i64 4) (by first | assumption | go_simp)
           have k1 := keep H1.out (b := w.heap.size) (o := 1) (x := .int .i64 num) (by first | assumption | go_simp)
           have k2 := keep H1.out (b := w.heap.size) (o := 2) (x := .int .i64 p1) (by first | assumption | go_simp)
           have k3 := keep H1.out (b := w.heap.size) (o := 3) (x := .int .i64 p2) (by first | assumption | go_simp)
           have k4 := keep H1.out (b := w.heap.size) (o := 4) (x := .int .i64 a1) (by first | assumption | go_simp)
           have k5 := keep H1.out (b := w.heap.size) (o := 5) (x := .int .i64 a2) (by first | assumption | go_simp)
           have k6 := keep H1.out (b := w.heap.size) (o := 6) (x := .slice x dn c) (by first | assumption | go_simp)
           have k7 := keep H1.out (b := w.heap.size) (o := 7) (x := .int .i64 kn) (by first | assumption | go_simp)
           have k8 := keep H1.out (b := w.heap.size) (o := 8) (x := .slice y dl cy) (by first | assumption | go_simp)
           have B1 := on (al _ _) H1.out))
      go_ret
      exact ⟨by simp_all, B1⟩
    | false =>
      go_enter Try.func46, Try.ntmps46
      go_wp2_with (first
        | (
           go_at_call 66; refine (hS _ (al _ _)).mono ?_; rintro e w1 ⟨rfl, H1⟩; clear hS
           have k0 := keep H1.out (b := w.heap.size) (o := 0) (x := .int .i64 4) (by first | assumption | go_simp)
           have k1 := keep H1.out (b := w.heap.size) (o := 1) (x := .int .i64 num) (by first | assumption | go_simp)
           have k2 := keep H1.out (b := w.heap.size) (o := 2) (x := .int .i64 p1) (by first | assumption | go_simp)
           have k3 := keep H1.out (b := w.heap.size) (o := 3) (x := .int .i64 p2) (by first | assumption | go_simp)
           have k4 := keep H1.out (b := w.heap.size) (o := 4) (x := .int .i64 a1) (by first | assumption | go_simp)
           have k5 := keep H1.out (b := w.heap.size) (o := 5) (x := .int .i64 a2) (by first | assumption | go_simp)
           have k6 := keep H1.out (b := w.heap.size) (o := 6) (x := .slice x dn c) (by first | assumption | go_simp)
           have k7 := keep H1.out (b := w.heap.size) (o := 7) (x := .int .i64 kn) (by first | assumption | go_simp)
           have k8 := keep H1.out (b := w.heap.size) (o := 8) (x := .slice y dl cy) (by first | assumption | go_simp)
           have B1 := on (al _ _) H1.out))
      go_ret
      exact ⟨by simp_all, B1⟩
  · have i1 : ¬ (1 : Int) ≤ (num : Int) := by omega
    have i2 : num = 0 := by omega
    subst i2
    go_enter Try.func46, Try.ntmps46
    go_wp2_with fail
    go_ret
    exact ⟨by simp_all, al _ _⟩

set_option maxHeartbeats 1600000 in
theorem mmay5 (num kn fr n dn c dl cy : Nat) (p1 p2 a1 a2 : Int) (x y : Option Addr) (ts td : Bool) (w : World)
    (hS : ∀ W, Below w.heap.size w W → Calls Try.prog 66 #[.agg #[.int .i64 p1, .int .i64 p2, .int .i64 a1, .int .i64 a2, .slice x dn c], .int .i64 n] W fun e w' => e = .returned (.bool ts) ∧ Hid (Below W.heap.size W w'))
    (hA : ∀ W, Below w.heap.size w W → Calls Try.prog 67 #[.slice y dl cy] W fun e w' => e = .returned (.bool td) ∧ Hid (Below W.heap.size W w')) :
    Calls Try.prog 46 #[.agg #[.int .i64 5, .int .i64 num, .int .i64 p1, .int .i64 p2, .int .i64 a1, .int .i64 a2, .slice x dn c, .int .i64 kn, .slice y dl cy], .int .i64 fr, .int .i64 n] w fun e w' => e = .returned (.bool (decide (1 ≤ num) && decide (0 < dl) && td)) ∧ Hid (Below w.heap.size w w') := by
  have hE := fun W => eq_bt a1 a2 0 0 W
  have hF := fun W => eq_bt a1 a2 p1 p2 W
  by_cases hn : 1 ≤ num
  · have i1 : (1 : Int) ≤ (num : Int) := by omega
    cases ts with
    | true =>
      by_cases hd : 0 < dl
      · have i2 : (0 : Int) < (dl : Int) := by omega
        go_enter Try.func46, Try.ntmps46
        go_wp2_with (first
          | (
             go_at_call 66; refine (hS _ (al _ _)).mono ?_; rintro e w1 ⟨rfl, H1⟩; clear hS
             have k0 := keep H1.out (b := w.heap.size) (o := 0) (x := .int .i64 5) (by first | assumption | go_simp)
             have k1 := keep H1.out (b := w.heap.size) (o := 1) (x := .int .i64 num) (by first | assumption | go_simp)
             have k2 := keep H1.out (b := w.heap.size) (o := 2) (x := .int .i64 p1) (by first | assumption | go_simp)
             have k3 := keep H1.out (b := w.heap.size) (o := 3) (x := .int .i64 p2) (by first | assumption | go_simp)
             have k4 := keep H1.out (b := w.heap.size) (o := 4) (x := .int .i64 a1) (by first | assumption | go_simp)
             have k5 := keep H1.out (b := w.heap.size) (o := 5) (x := .int .i64 a2) (by first | assumption | go_simp)
             have k6 := keep H1.out (b := w.heap.size) (o := 6) (x := .slice x dn c) (by first | assumption | go_simp)
             have k7 := keep H1.out (b := w.heap.size) (o := 7) (x := .int .i64 kn) (by first | assumption | go_simp)
             have k8 := keep H1.out (b := w.heap.size) (o := 8) (x := .slice y dl cy) (by first | assumption | go_simp)
             have B1 := on (al _ _) H1.out)
          | (
             go_at_call 67; refine (hA _ B1).mono ?_; rintro e w2 ⟨rfl, H2⟩; clear hA))
        go_ret
        exact ⟨by simp_all, on B1 H2.out⟩
      · have i2 : ¬ (0 : Int) < (dl : Int) := by omega
        go_enter Try.func46, Try.ntmps46
        go_wp2_with (first
          | (
             go_at_call 66; refine (hS _ (al _ _)).mono ?_; rintro e w1 ⟨rfl, H1⟩; clear hS
             have k0 := keep H1.out (b := w.heap.size) (o := 0) (x := .int .i64 5) (by first | assumption | go_simp)
             have k1 := keep H1.out (b := w.heap.size) (o := 1) (x := .int .i64 num) (by first | assumption | go_simp)
             have k2 := keep H1.out (b := w.heap.size) (o := 2) (x := .int .i64 p1) (by first | assumption | go_simp)
             have k3 := keep H1.out (b := w.heap.size) (o := 3) (x := .int .i64 p2) (by first | assumption | go_simp)
             have k4 := keep H1.out (b := w.heap.size) (o := 4) (x := .int .i64 a1) (by first | assumption | go_simp)
             have k5 := keep H1.out (b := w.heap.size) (o := 5) (x := .int .i64 a2) (by first | assumption | go_simp)
             have k6 := keep H1.out (b := w.heap.size) (o := 6) (x := .slice x dn c) (by first | assumption | go_simp)
             have k7 := keep H1.out (b := w.heap.size) (o := 7) (x := .int .i64 kn) (by first | assumption | go_simp)
             have k8 := keep H1.out (b := w.heap.size) (o := 8) (x := .slice y dl cy) (by first | assumption | go_simp)
             have B1 := on (al _ _) H1.out))
        go_ret
        exact ⟨by simp_all, B1⟩
    | false =>
      by_cases hd : 0 < dl
      · have i2 : (0 : Int) < (dl : Int) := by omega
        go_enter Try.func46, Try.ntmps46
        go_wp2_with (first
          | (
             go_at_call 66; refine (hS _ (al _ _)).mono ?_; rintro e w1 ⟨rfl, H1⟩; clear hS
             have k0 := keep H1.out (b := w.heap.size) (o := 0) (x := .int .i64 5) (by first | assumption | go_simp)
             have k1 := keep H1.out (b := w.heap.size) (o := 1) (x := .int .i64 num) (by first | assumption | go_simp)
             have k2 := keep H1.out (b := w.heap.size) (o := 2) (x := .int .i64 p1) (by first | assumption | go_simp)
             have k3 := keep H1.out (b := w.heap.size) (o := 3) (x := .int .i64 p2) (by first | assumption | go_simp)
             have k4 := keep H1.out (b := w.heap.size) (o := 4) (x := .int .i64 a1) (by first | assumption | go_simp)
             have k5 := keep H1.out (b := w.heap.size) (o := 5) (x := .int .i64 a2) (by first | assumption | go_simp)
             have k6 := keep H1.out (b := w.heap.size) (o := 6) (x := .slice x dn c) (by first | assumption | go_simp)
             have k7 := keep H1.out (b := w.heap.size) (o := 7) (x := .int .i64 kn) (by first | assumption | go_simp)
             have k8 := keep H1.out (b := w.heap.size) (o := 8) (x := .slice y dl cy) (by first | assumption | go_simp)
             have B1 := on (al _ _) H1.out)
          | (
             go_at_call 67; refine (hA _ B1).mono ?_; rintro e w2 ⟨rfl, H2⟩; clear hA))
        go_ret
        exact ⟨by simp_all, on B1 H2.out⟩
      · have i2 : ¬ (0 : Int) < (dl : Int) := by omega
        go_enter Try.func46, Try.ntmps46
        go_wp2_with (first
          | (
             go_at_call 66; refine (hS _ (al _ _)).mono ?_; rintro e w1 ⟨rfl, H1⟩; clear hS
             have k0 := keep H1.out (b := w.heap.size) (o := 0) (x := .int .i64 5) (by first | assumption | go_simp)
             have k1 := keep H1.out (b := w.heap.size) (o := 1) (x := .int .i64 num) (by first | assumption | go_simp)
             have k2 := keep H1.out (b := w.heap.size) (o := 2) (x := .int .i64 p1) (by first | assumption | go_simp)
             have k3 := keep H1.out (b := w.heap.size) (o := 3) (x := .int .i64 p2) (by first | assumption | go_simp)
             have k4 := keep H1.out (b := w.heap.size) (o := 4) (x := .int .i64 a1) (by first | assumption | go_simp)
             have k5 := keep H1.out (b := w.heap.size) (o := 5) (x := .int .i64 a2) (by first | assumption | go_simp)
             have k6 := keep H1.out (b := w.heap.size) (o := 6) (x := .slice x dn c) (by first | assumption | go_simp)
             have k7 := keep H1.out (b := w.heap.size) (o := 7) (x := .int .i64 kn) (by first | assumption | go_simp)
             have k8 := keep H1.out (b := w.heap.size) (o := 8) (x := .slice y dl cy) (by first | assumption | go_simp)
             have B1 := on (al _ _) H1.out))
        go_ret
        exact ⟨by simp_all, B1⟩
  · have i1 : ¬ (1 : Int) ≤ (num : Int) := by omega
    have i2 : num = 0 := by omega
    subst i2
    go_enter Try.func46, Try.ntmps46
    go_wp2_with fail
    go_ret
    exact ⟨by simp_all, al _ _⟩

set_option maxHeartbeats 1600000 in
theorem mmayother (num kn fr n dn c dl cy : Nat) (p1 p2 a1 a2 : Int) (x y : Option Addr) (ts td : Bool) (kind : Nat) (n1 : ((kind : Int) == 1) = false) (n2 : ((kind : Int) == 2) = false) (n3 : ((kind : Int) == 3) = false) (n4 : ((kind : Int) == 4) = false) (n5 : ((kind : Int) == 5) = false) (w : World)
    (hS : ∀ W, Below w.heap.size w W → Calls Try.prog 66 #[.agg #[.int .i64 p1, .int .i64 p2, .int .i64 a1, .int .i64 a2, .slice x dn c], .int .i64 n] W fun e w' => e = .returned (.bool ts) ∧ Hid (Below W.heap.size W w'))
    (hA : ∀ W, Below w.heap.size w W → Calls Try.prog 67 #[.slice y dl cy] W fun e w' => e = .returned (.bool td) ∧ Hid (Below W.heap.size W w')) :
    Calls Try.prog 46 #[.agg #[.int .i64 kind, .int .i64 num, .int .i64 p1, .int .i64 p2, .int .i64 a1, .int .i64 a2, .slice x dn c, .int .i64 kn, .slice y dl cy], .int .i64 fr, .int .i64 n] w fun e w' => e = .returned (.bool (false)) ∧ Hid (Below w.heap.size w w') := by
  have hE := fun W => eq_bt a1 a2 0 0 W
  have hF := fun W => eq_bt a1 a2 p1 p2 W
  by_cases hn : 1 ≤ num
  · have i1 : (1 : Int) ≤ (num : Int) := by omega
    cases ts with
    | true =>
      go_enter Try.func46, Try.ntmps46
      go_wp2_with (first
        | (
           go_at_call 66; refine (hS _ (al _ _)).mono ?_; rintro e w1 ⟨rfl, H1⟩; clear hS
           have k0 := keep H1.out (b := w.heap.size) (o := 0) (x := .int .i64 kind) (by first | assumption | go_simp)
           have k1 := keep H1.out (b := w.heap.size) (o := 1) (x := .int .i64 num) (by first | assumption | go_simp)
           have k2 := keep H1.out (b := w.heap.size) (o := 2) (x := .int .i64 p1) (by first | assumption | go_simp)
           have k3 := keep H1.out (b := w.heap.size) (o := 3) (x := .int .i64 p2) (by first | assumption | go_simp)
           have k4 := keep H1.out (b := w.heap.size) (o := 4) (x := .int .i64 a1) (by first | assumption | go_simp)
           have k5 := keep H1.out (b := w.heap.size) (o := 5) (x := .int .i64 a2) (by first | assumption | go_simp)
           have k6 := keep H1.out (b := w.heap.size) (o := 6) (x := .slice x dn c) (by first | assumption | go_simp)
           have k7 := keep H1.out (b := w.heap.size) (o := 7) (x := .int .i64 kn) (by first | assumption | go_simp)
           have k8 := keep H1.out (b := w.heap.size) (o := 8) (x := .slice y dl cy) (by first | assumption | go_simp)
           have B1 := on (al _ _) H1.out))
      go_ret
      exact ⟨by simp_all, B1⟩
    | false =>
      go_enter Try.func46, Try.ntmps46
      go_wp2_with (first
        | (
           go_at_call 66; refine (hS _ (al _ _)).mono ?_; rintro e w1 ⟨rfl, H1⟩; clear hS
           have k0 := keep H1.out (b := w.heap.size) (o := 0) (x := .int .i64 kind) (by first | assumption | go_simp)
           have k1 := keep H1.out (b := w.heap.size) (o := 1) (x := .int .i64 num) (by first | assumption | go_simp)
           have k2 := keep H1.out (b := w.heap.size) (o := 2) (x := .int .i64 p1) (by first | assumption | go_simp)
           have k3 := keep H1.out (b := w.heap.size) (o := 3) (x := .int .i64 p2) (by first | assumption | go_simp)
           have k4 := keep H1.out (b := w.heap.size) (o := 4) (x := .int .i64 a1) (by first | assumption | go_simp)
           have k5 := keep H1.out (b := w.heap.size) (o := 5) (x := .int .i64 a2) (by first | assumption | go_simp)
           have k6 := keep H1.out (b := w.heap.size) (o := 6) (x := .slice x dn c) (by first | assumption | go_simp)
           have k7 := keep H1.out (b := w.heap.size) (o := 7) (x := .int .i64 kn) (by first | assumption | go_simp)
           have k8 := keep H1.out (b := w.heap.size) (o := 8) (x := .slice y dl cy) (by first | assumption | go_simp)
           have B1 := on (al _ _) H1.out))
      go_ret
      exact ⟨by simp_all, B1⟩
  · have i1 : ¬ (1 : Int) ≤ (num : Int) := by omega
    have i2 : num = 0 := by omega
    subst i2
    go_enter Try.func46, Try.ntmps46
    go_wp2_with fail
    go_ret
    exact ⟨by simp_all, al _ _⟩

theorem mmay_any (m : Ms) (x y : Option Addr) (c cy fr n : Nat) (hn : n ≤ 7) (w : World) (hsl : Fl.Sl w x m.st.d.length c m.st.d) (hsm : m.st.d.length ≤ 5000) (hd : DcsAt w y m.decs) (hdl : m.decs.length ≤ 1000) :
    Calls Try.prog 46 #[mv m x c y cy, .int .i64 fr, .int .i64 n] w fun e w' => e = .returned (.bool (mayM m fr n)) ∧ Hid (Below w.heap.size w w') := by
  have hS := fun (W : World) (hW : Below w.heap.size w W) => maystate_any m.st x c n hn W (hsl.below hW) (by omega)
  have hA := fun (W : World) (hW : Below w.heap.size w W) => allmay_any y m.decs.length cy m.decs W (hd.below hW) rfl (by omega)
  unfold mayM mv
  by_cases h1 : m.kind = 1
  · rw [if_pos h1, h1]
    exact mmay1 m.num m.known fr n m.st.d.length c m.decs.length cy m.st.p.1 m.st.p.2 m.st.a.1 m.st.a.2 x y _ _ w hS hA
  · rw [if_neg h1]
    by_cases h2 : m.kind = 2
    · rw [if_pos h2, h2]
      exact mmay2 m.num m.known fr n m.st.d.length c m.decs.length cy m.st.p.1 m.st.p.2 m.st.a.1 m.st.a.2 x y _ _ w hS hA
    · rw [if_neg h2]
      by_cases h3 : m.kind = 3
      · rw [if_pos h3, h3]
        exact mmay3 m.num m.known fr n m.st.d.length c m.decs.length cy m.st.p.1 m.st.p.2 m.st.a.1 m.st.a.2 x y _ _ w hS hA
      · rw [if_neg h3]
        by_cases h4 : m.kind = 4
        · rw [if_pos h4, h4]
          exact mmay4 m.num m.known fr n m.st.d.length c m.decs.length cy m.st.p.1 m.st.p.2 m.st.a.1 m.st.a.2 x y _ _ w hS hA
        · rw [if_neg h4]
          by_cases h5 : m.kind = 5
          · rw [if_pos h5, h5]
            exact mmay5 m.num m.known fr n m.st.d.length c m.decs.length cy m.st.p.1 m.st.p.2 m.st.a.1 m.st.a.2 x y _ _ w hS hA
          · rw [if_neg h5]
            exact mmayother m.num m.known fr n m.st.d.length c m.decs.length cy m.st.p.1 m.st.p.2 m.st.a.1 m.st.a.2 x y _ _ m.kind (by simp; omega) (by simp; omega) (by simp; omega) (by simp; omega) (by simp; omega) w hS hA

end Go.Proofs.Ytfgfjfemaniaiaa.Px

/-
  Package paxos: decode.
  Conditions: the bytes lie in memory.
-/
namespace Go.Proofs.Ytfgfjfemaniaiaa.Px
open Go.RowKit Wi By Fl Ba
set_option linter.unusedVariables false
set_option linter.unusedSimpArgs false
set_option maxRecDepth 100000

def noMs : Ms := ⟨0, 0, noAc, 0, []⟩

/- What is told of a message that was read: it lies in new memory. -/
structure MGot (w w' : World) (m : Ms) (x : Option Addr) (c : Nat) (y : Option Addr) (cy : Nat) : Prop where
  sl : Fl.Sl w' x m.st.d.length c m.st.d
  tb : ∀ a, x = some a → w.heap.size ≤ a.block ∧ Tb w' a.block 5
  own : OwnD w' w.heap.size (.slice y m.decs.length cy) m.decs

theorem rBy_len (t : Nat) (l : List Nat) (e : Nat) : (rBy (t : Int) l e).1.length ≤ t := by
  unfold rBy
  split
  · simp
  · split
    · simp
    · split
      · simp
      · simp only [List.length_take]
        have := rNum_le (t : Int) l e
        omega

theorem rDcs_len (n : Nat) : ∀ (k : Nat) (l : List Nat) (e : Nat), (rDcs n k l e).1.length ≤ k
  | 0, l, e => by simp [rDcs]
  | k + 1, l, e => by
    unfold rDcs
    split
    · have := rDcs_len n k (rDc n l e).2.1 (rDc n l e).2.2
      simp
      omega
    · simp

/- The nine cells of a message. -/
end Go.Proofs.Ytfgfjfemaniaiaa.Px
