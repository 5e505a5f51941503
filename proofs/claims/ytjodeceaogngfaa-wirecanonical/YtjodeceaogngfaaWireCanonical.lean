/-
  A number that is read, written again, is just the bytes that were read: 'mooringlaw05.WireCanonical' returns true and leaves its argument as it was.
  Conditions: none.
-/
import Derived.Test.YtjodeceaogngfaaRows
import Derived.WalkKit
import Derived.ProofKit
import Derived.OpenShut
import Derived.SizedLaws
import Derived.ShutString
import Derived.ChangeOld
import Derived.Below
import Derived.Test.YtjodeceaogngfaaByRows
import Derived.Test.YtjodeceaogngfaaWiItem
import Derived.Test.YtjodeceaogngfaaWiTake
import Derived.Deep.RegionHeld3
import Derived.Deep.QuietTactic
import Derived.BigQuiet
namespace Go.Proofs.Ytjodeceaogngfaa.wireCanonical
open Go.ChangeShapes Go.WideShapes Go.ChangeAt Go.RowKit By
open Wi
set_option linter.unusedVariables false
set_option linter.unusedSimpArgs false
set_option maxRecDepth 100000

theorem own : ownKnob Try.prog.godebug = none := by kernel_rfl
theorem laidOut : laidOutB Try.prog = true := by kernel_rfl

theorem below_drew {B : Nat} {a w : World} (h : Below B a w) : Below B a w.drew := ⟨h.os, h.tape, h.output, h.size, h.block⟩

theorem unzz_bound {n : Nat} (h : n < 18446744073709551616) : -9223372036854775808 ≤ unzz n ∧ unzz n ≤ 9223372036854775807 := by
  unfold unzz
  split <;> omega

theorem unzz_zero : unzz 0 = 0 := by unfold unzz; rfl

/- What a reader of the bytes tells. -/
theorem uv_yes {n k N : Nat} {l : List Nat} (hl : lead l = some (N, k)) (m : Nat) (hm : m = n - k) (v : World) (p : Nat) (y : Option Addr) (cy : Nat) (h : PRd v p y n cy l 0) :
    Calls Try.prog 13 #[.pointer (some ⟨p, 0, none⟩)] v fun ed w' => ed = .returned (.int .u64 (N : Int)) ∧ Turn p v w' ∧ w'.cell? ⟨p, 1, none⟩ = some (.int .i64 0) ∧ ∃ x' c', w'.cell? ⟨p, 0, none⟩ = some (.slice x' m c') :=
  (puv_any p n cy 0 y l v h).mono fun ed w' ⟨h1, h2, x', n', c', h3, _⟩ => by
    rw [rUv_yes hl] at h1 h3
    refine ⟨h1, h2, h3.wrong, x', c', ?_⟩
    have e : n' = m := by
      have h4 := h3.sl.len
      have h5 := h.sl.len
      rw [← h4, hm]
      simp [h5]
    rw [← e]
    exact h3.rest

theorem vr_yes {n k N : Nat} {l : List Nat} (hl : lead l = some (N, k)) (m : Nat) (hm : m = n - k) (v : World) (p : Nat) (y : Option Addr) (cy : Nat) (h : PRd v p y n cy l 0) :
    Calls Try.prog 14 #[.pointer (some ⟨p, 0, none⟩)] v fun ed w' => ed = .returned (.int .i64 (unzz N)) ∧ Turn p v w' ∧ w'.cell? ⟨p, 1, none⟩ = some (.int .i64 0) ∧ ∃ x' c', w'.cell? ⟨p, 0, none⟩ = some (.slice x' m c') :=
  (pvar_any p n cy 0 y l v h).mono fun ed w' ⟨h1, h2, x', n', c', h3, _⟩ => by
    rw [rUv_yes hl] at h1 h3
    refine ⟨h1, h2, h3.wrong, x', c', ?_⟩
    have e : n' = m := by
      have h4 := h3.sl.len
      have h5 := h.sl.len
      rw [← h4, hm]
      simp [h5]
    rw [← e]
    exact h3.rest

theorem uv_no {n : Nat} {l : List Nat} (hl : lead l = none) (v : World) (p : Nat) (y : Option Addr) (cy : Nat) (h : PRd v p y n cy l 0) :
    Calls Try.prog 13 #[.pointer (some ⟨p, 0, none⟩)] v fun ed w' => ed = .returned (.int .u64 0) ∧ Turn p v w' ∧ w'.cell? ⟨p, 1, none⟩ = some (.int .i64 5) ∧ ∃ x' c', w'.cell? ⟨p, 0, none⟩ = some (.slice x' n c') :=
  (puv_any p n cy 0 y l v h).mono fun ed w' ⟨h1, h2, x', n', c', h3, _⟩ => by
    rw [rUv_no hl] at h1 h3
    refine ⟨h1, h2, h3.wrong, x', c', ?_⟩
    have e : n' = n := h3.sl.len.symm.trans h.sl.len
    rw [← e]
    exact h3.rest

theorem vr_no {n : Nat} {l : List Nat} (hl : lead l = none) (v : World) (p : Nat) (y : Option Addr) (cy : Nat) (h : PRd v p y n cy l 0) :
    Calls Try.prog 14 #[.pointer (some ⟨p, 0, none⟩)] v fun ed w' => ed = .returned (.int .i64 0) ∧ Turn p v w' ∧ w'.cell? ⟨p, 1, none⟩ = some (.int .i64 5) ∧ ∃ x' c', w'.cell? ⟨p, 0, none⟩ = some (.slice x' n c') :=
  (pvar_any p n cy 0 y l v h).mono fun ed w' ⟨h1, h2, x', n', c', h3, _⟩ => by
    rw [rUv_no hl] at h1 h3
    refine ⟨h1.trans (congrArg (fun z => Ending.returned (.int .i64 z)) unzz_zero), h2, h3.wrong, x', c', ?_⟩
    have e : n' = n := h3.sl.len.symm.trans h.sl.len
    rw [← e]
    exact h3.rest

theorem cell_kept {p q : Nat} {w w' : World} {v : Value} (t : Turn q w w') (h : w.cell? ⟨p, 1, none⟩ = some v) (hp : p ≠ q) : w'.cell? ⟨p, 1, none⟩ = some v := (t.cell (p := ⟨p, 1, none⟩) hp (cell_lt' h)).trans h

set_option maxHeartbeats 2000000 in
set_option maxRecDepth 100000 in
theorem no (x : Option Addr) (n c : Nat) (l : List Nat) (w : World) (hsl : Sl w x n c l) (hn : n ≤ 140737488355328) (hl : lead l = none) :
    Calls Try.prog 6 #[.slice x n c] w fun e w' => e = .returned (.bool true) ∧ Below w.heap.size w w' := by
  have hR1 := read_any x n c l w hsl hn
  have hR2 : ∀ v, Below w.heap.size w v → _ := fun v hv => read_any x n c l v (hsl.below hv) hn
  have hU : ∀ v p y cy, PRd v p y n cy l 0 → _ := fun v p y cy h => uv_no hl v p y cy h
  have hV : ∀ v p y cy, PRd v p y n cy l 0 → _ := fun v p y cy h => vr_no hl v p y cy h
  clear hsl hl
  go_enter Try.func6, Try.ntmps6
  go_wp2_with (first
    | (go_at_call 11; refine hR1.mono ?_; rintro e w1 ⟨p, y1, d1, rfl, hp1, hb1, hq1, _⟩; have hU1 := hU _ _ _ _ hq1; clear hR1 hq1 hU)
    | (go_at_call 13; refine hU1.mono ?_; rintro e w2 ⟨rfl, t2, hc2, x2, d2, hl2⟩; clear hU1)
    | (go_at_call 19; refine (pleft_any p n d2 x2 _ hl2).mono ?_; rintro e v2 ⟨rfl, rfl⟩))
  have hb2 : Below w.heap.size w v2 := hb1.trans (t2.below hp1 hb1.size)
  have hpw : p < v2.heap.size := cell_lt' hc2
  clear hb1 t2 hp1
  go_quiet ((go_at_call 20; exact Calls.quiet_of_same (perr_any p 5 _ hc2)))
  go_wp2_with (first
    | (go_at_call 11; refine (hR2 _ (below_drewN' hb2 _)).mono ?_; rintro e w4 ⟨q, y4, d4, rfl, hp4, hb4, hq4, _⟩; have hV4 := hV _ _ _ _ hq4; clear hR2 hq4 hV)
    | (go_at_call 14; refine hV4.mono ?_; rintro e w5 ⟨rfl, t5, hc5, x5, d5, hl5⟩; clear hV4)
    | (go_at_call 19; refine (pleft_any q n d5 x5 _ hl5).mono ?_; rintro e v5 ⟨rfl, rfl⟩))
  have hb2n := below_drewN' hb2 nq
  have hb4' := hb2n.trans (hb4.mono hb2n.size)
  have hb5 : Below w.heap.size w v5 := hb4'.trans (t5.below (Nat.le_trans hb2n.size hp4) hb4'.size)
  have hcp4 : w4.cell? ⟨p, 1, none⟩ = some (.int .i64 5) := (hb4.cell hpw).trans hc2
  have hne : p ≠ q := fun h => by
    subst h
    exact Nat.lt_irrefl _ (Nat.lt_of_lt_of_le hpw hp4)
  have hcp5 : v5.cell? ⟨p, 1, none⟩ = some (.int .i64 5) := cell_kept t5 hcp4 hne
  clear hb2 hb2n hb4 hb4' hcp4 t5 hc2 hl2 hp4 hpw
  go_quiet ((go_at_call 20; exact Calls.quiet_of_same (perr_any q 5 _ hc5)))
  have eq1 := perr_any q 5 (v5.drewN nq) hc5
  have ep1 := perr_any p 5 (v5.drewN nq) hcp5
  clear hc5 hcp5 hne hl5
  go_wp2_with (first
    | (go_at_call 20; refine eq1.mono ?_; rintro e v ⟨rfl, rfl⟩; clear eq1)
    | (go_at_call 20; refine ep1.mono ?_; rintro e v ⟨rfl, rfl⟩; clear ep1)
    | (go_at_call 10; refine (awake_any _).mono ?_; rintro e w9 ⟨rfl, hb9⟩))
  go_ret
  exact ⟨rfl, hb5.trans ((below_of_drewN hb9).mono hb5.size)⟩

theorem put_nil (N k : Nat) (v : World) (hN : N < 18446744073709551616) (hk : k = (uv N).length) :
    Calls Try.prog 21 #[.slice none 0 0, .int .u64 N] v fun ed w' => ∃ y cy, ed = .returned (.slice y k cy) ∧ Sl w' y k cy (uv N) ∧ Below v.heap.size v w' :=
  (uvarint_any none 0 0 [] N v (Sl.empty v) hN (by omega)).mono fun ed w' ⟨R, h1, h2, h3⟩ => by
    rw [List.nil_append] at h2
    obtain ⟨y, cy, rfl, h4, _⟩ := h2.sl (uv_lt N)
    rw [hk]
    exact ⟨y, cy, h1, h4, h3⟩

theorem put_nil_sign (N k : Nat) (v : World) (hN : N < 18446744073709551616) (hk : k = (uv N).length) :
    Calls Try.prog 22 #[.slice none 0 0, .int .i64 (unzz N)] v fun ed w' => ∃ y cy, ed = .returned (.slice y k cy) ∧ Sl w' y k cy (uv N) ∧ Below v.heap.size v w' :=
  (varint_any none 0 0 [] (unzz N) v (Sl.empty v) (unzz_bound hN).1 (unzz_bound hN).2 (by omega)).mono fun ed w' ⟨R, h1, h2, h3⟩ => by
    rw [List.nil_append, zz_unzz] at h2
    obtain ⟨y, cy, rfl, h4, _⟩ := h2.sl (uv_lt N)
    rw [hk]
    exact ⟨y, cy, h1, h4, h3⟩

set_option maxHeartbeats 2000000 in
set_option maxRecDepth 100000 in
theorem yes (x : Option Addr) (n c : Nat) (l : List Nat) (N k : Nat) (w : World) (hsl : Sl w x n c l) (hn : n ≤ 140737488355328) (hl : lead l = some (N, k)) :
    Calls Try.prog 6 #[.slice x n c] w fun e w' => e = .returned (.bool true) ∧ Below w.heap.size w w' := by
  obtain ⟨htk, hku, hkl, hN⟩ := lead_canon hsl.lt hl
  have hkn : k ≤ n := by rw [← hsl.len]; exact hkl
  obtain ⟨m, hm⟩ : ∃ m, m = n - k := ⟨_, rfl⟩
  have hmk : (n : Int) - (m : Int) = (k : Int) := by omega
  have hmn : m ≤ n := by omega
  have hR1 := read_any x n c l w hsl hn
  have hR2 : ∀ v, Below w.heap.size w v → _ := fun v hv => read_any x n c l v (hsl.below hv) hn
  have hU : ∀ v p y cy, PRd v p y n cy l 0 → _ := fun v p y cy h => uv_yes hl m hm v p y cy h
  have hV : ∀ v p y cy, PRd v p y n cy l 0 → _ := fun v p y cy h => vr_yes hl m hm v p y cy h
  have hcut := fun v => cut_head x n c k v (Nat.le_trans hkn hsl.le)
  have hP : ∀ v, _ := fun v => put_nil N k v hN hku
  have hQ : ∀ v, _ := fun v => put_nil_sign N k v hN hku
  have hS : ∀ v y cy, Below w.heap.size w v → Sl v y k cy (uv N) → Calls Try.prog 9 #[.slice y k cy, .slice x k c] v fun e w' => e = .returned (.bool true) ∧ w' = v := fun v y cy hv hy =>
    same_any y x k k cy c (uv N) (l.take k) true v hy ((hsl.below hv).head k hkn) (by rw [htk]; simp)
  clear hsl hl hm htk hku hkl
  generalize unzz N = Z at *
  generalize uv N = U at *
  go_enter Try.func6, Try.ntmps6
  go_wp2_with (first
    | (go_at_call 11; refine hR1.mono ?_; rintro e w1 ⟨p, y1, d1, rfl, hp1, hb1, hq1, _⟩; have hU1 := hU _ _ _ _ hq1; clear hR1 hq1 hU)
    | (go_at_call 13; refine hU1.mono ?_; rintro e w2 ⟨rfl, t2, hc2, x2, d2, hl2⟩; clear hU1)
    | (go_at_call 19; refine (pleft_any p m d2 x2 _ hl2).mono ?_; rintro e v2 ⟨rfl, rfl⟩))
  have hb2 : Below w.heap.size w v2 := hb1.trans (t2.below hp1 hb1.size)
  have hpw : p < v2.heap.size := cell_lt' hc2
  have hb2d := below_drew hb2
  have e2 := perr_any p 0 v2.drew hc2
  clear hb1 t2 hp1 hl2
  refine wp_region_held_drew (S := fun _ => True) (by kernel_rfl) trivial (fun hHeld => ?_)
  refine wpAnyH_take (i := 0) (v := ?_) rfl (by kernel_rfl) (by kernel_rfl) (by kernel_rfl) (fun _ _ _ h => h) (Or.inl ⟨by rfl, ?_⟩) (by assumption) ?_
  case refine_2 => (intro w hSw; (try dsimp only at hSw); go_simp; (try with_reducible rfl))
  (try simp only [Act.put, List.getElem_toArray, List.getElem_cons_succ, List.getElem_cons_zero, List.setIfInBounds_toArray, List.set_cons_zero, List.set_cons_succ])
  refine wpAnyH_ready (rs := [1]) (by kernel_rfl) (by simp) ?_
  refine AllReadyH.cons rfl (fun K hK => ?_) AllReadyH.nil
  go_simp
  refine e2.mono ?_
  rintro e v ⟨rfl, rfl⟩
  clear e2
  refine hK.out _ _ trivial (fun hHeld => ?_)
  clear hK K
  refine wpAnyH_take (i := 2) (v := ?_) rfl (by kernel_rfl) (by kernel_rfl) (by kernel_rfl) (fun _ _ _ h => h) (Or.inl ⟨by rfl, ?_⟩) (by assumption) ?_
  case refine_2 => (intro w hSw; (try dsimp only at hSw); go_simp; (try with_reducible rfl))
  (try simp only [Act.put, List.getElem_toArray, List.getElem_cons_succ, List.getElem_cons_zero, List.setIfInBounds_toArray, List.set_cons_zero, List.set_cons_succ])
  refine wpAnyH_take (i := 3) (v := ?_) rfl (by kernel_rfl) (by kernel_rfl) (by kernel_rfl) (fun _ _ _ h => h) (Or.inl ⟨by rfl, ?_⟩) (by assumption) ?_
  case refine_2 => (intro w hSw; (try dsimp only at hSw); go_simp; (try with_reducible rfl))
  (try simp only [Act.put, List.getElem_toArray, List.getElem_cons_succ, List.getElem_cons_zero, List.setIfInBounds_toArray, List.set_cons_zero, List.set_cons_succ])
  refine wpAnyH_take (i := 4) (v := ?_) rfl (by kernel_rfl) (by kernel_rfl) (by kernel_rfl) (fun _ _ _ h => h) (Or.inl ⟨by rfl, ?_⟩) (by assumption) ?_
  case refine_2 => (intro w hSw; (try dsimp only at hSw); go_simp; (try with_reducible rfl))
  (try simp only [Act.put, List.getElem_toArray, List.getElem_cons_succ, List.getElem_cons_zero, List.setIfInBounds_toArray, List.set_cons_zero, List.set_cons_succ])
  refine wpAnyH_take (i := 6) (v := ?_) rfl (by kernel_rfl) (by kernel_rfl) (by kernel_rfl) (fun _ _ _ h => h) (Or.inl ⟨by rfl, ?_⟩) (by assumption) ?_
  case refine_2 => (intro w hSw; (try dsimp only at hSw); go_simp; (try with_reducible rfl))
  (try simp only [Act.put, List.getElem_toArray, List.getElem_cons_succ, List.getElem_cons_zero, List.setIfInBounds_toArray, List.set_cons_zero, List.set_cons_succ])
  refine wpAnyH_take (i := 7) (v := ?_) rfl (by kernel_rfl) (by kernel_rfl) (by kernel_rfl) (fun _ _ _ h => h) (Or.inl ⟨by rfl, ?_⟩) (by assumption) ?_
  case refine_2 => (intro w hSw; (try dsimp only at hSw); go_simp; (try with_reducible rfl))
  (try simp only [Act.put, List.getElem_toArray, List.getElem_cons_succ, List.getElem_cons_zero, List.setIfInBounds_toArray, List.set_cons_zero, List.set_cons_succ])
  refine wpAnyH_take (i := 8) (v := ?_) rfl (by kernel_rfl) (by kernel_rfl) (by kernel_rfl) (fun _ _ _ h => h) (Or.inl ⟨by rfl, ?_⟩) (by assumption) ?_
  case refine_2 => (intro w hSw; (try dsimp only at hSw); go_simp; (try with_reducible rfl))
  (try simp only [Act.put, List.getElem_toArray, List.getElem_cons_succ, List.getElem_cons_zero, List.setIfInBounds_toArray, List.set_cons_zero, List.set_cons_succ])
  refine wpAnyH_ready (rs := [5]) (by kernel_rfl) (by simp) ?_
  refine AllReadyH.cons rfl (fun K hK => ?_) AllReadyH.nil
  go_simp
  refine (hP _).mono ?_
  rintro e w3 ⟨y3, d3, rfl, hy3, hb3⟩
  have hb23 := hb2d.trans (hb3.mono hb2d.size)
  refine hK.out _ _ trivial (fun hHeld => ?_)
  clear hK K
  refine wpAnyH_ready (rs := [9]) (by kernel_rfl) (by simp) ?_
  refine AllReadyH.cons rfl (fun K hK => ?_) AllReadyH.nil
  go_simp
  refine (hS _ _ _ hb23 hy3).mono ?_
  rintro e v3 ⟨rfl, rfl⟩
  refine hK.out _ _ trivial (fun hHeld => ?_)
  clear hK K
  refine wpAnyH_take (i := 10) (v := ?_) rfl (by kernel_rfl) (by kernel_rfl) (by kernel_rfl) (fun _ _ _ h => h) (Or.inl ⟨by rfl, ?_⟩) (by assumption) ?_
  case refine_2 => (intro w hSw; (try dsimp only at hSw); go_simp; (try with_reducible rfl))
  (try simp only [Act.put, List.getElem_toArray, List.getElem_cons_succ, List.getElem_cons_zero, List.setIfInBounds_toArray, List.set_cons_zero, List.set_cons_succ])
  refine wpAnyH_take (i := 11) (v := ?_) rfl (by kernel_rfl) (by kernel_rfl) (by kernel_rfl) (fun _ _ _ h => h) (Or.inl ⟨by rfl, ?_⟩) (by assumption) ?_
  case refine_2 => (intro w hSw; (try dsimp only at hSw); go_simp; (try with_reducible rfl))
  (try simp only [Act.put, List.getElem_toArray, List.getElem_cons_succ, List.getElem_cons_zero, List.setIfInBounds_toArray, List.set_cons_zero, List.set_cons_succ])
  refine wpAnyH_done (by kernel_rfl) ?_ _
  have hc3 : v3.cell? ⟨p, 1, none⟩ = some (.int .i64 0) := (hb3.cell hpw).trans hc2
  have hpw3 : p < v3.heap.size := cell_lt' hc3
  have hR3 := hR2 v3 hb23
  clear hR2 hb2 hpw hb2d hc2 hP hy3 hb3
  go_wp2_with (first
    | (go_at_call 11; refine hR3.mono ?_; rintro e w4 ⟨q, y4, d4, rfl, hp4, hb4, hq4, _⟩; have hV4 := hV _ _ _ _ hq4; clear hR3 hq4 hV)
    | (go_at_call 14; refine hV4.mono ?_; rintro e w5 ⟨rfl, t5, hc5, x5, d5, hl5⟩; clear hV4)
    | (go_at_call 19; refine (pleft_any q m d5 x5 _ hl5).mono ?_; rintro e v5 ⟨rfl, rfl⟩))
  have hb4' := hb23.trans (hb4.mono hb23.size)
  have hb5 : Below w.heap.size w v5 := hb4'.trans (t5.below (Nat.le_trans hb23.size hp4) hb4'.size)
  have hcp4 : w4.cell? ⟨p, 1, none⟩ = some (.int .i64 0) := (hb4.cell hpw3).trans hc3
  have hne : p ≠ q := fun h => by
    subst h
    exact Nat.lt_irrefl _ (Nat.lt_of_lt_of_le hpw3 hp4)
  have hcp5 : v5.cell? ⟨p, 1, none⟩ = some (.int .i64 0) := cell_kept t5 hcp4 hne
  have hqw : q < v5.heap.size := cell_lt' hc5
  have hpw5 : p < v5.heap.size := cell_lt' hcp5
  have hb5d := below_drew hb5
  have e5 := perr_any q 0 v5.drew hc5
  clear hb23 hb4 hb4' hcp4 t5 hc3 hl5 hp4 hpw3 hne
  refine wp_region_held_drew (S := fun _ => True) (by kernel_rfl) trivial (fun hHeld => ?_)
  refine wpAnyH_take (i := 0) (v := ?_) rfl (by kernel_rfl) (by kernel_rfl) (by kernel_rfl) (fun _ _ _ h => h) (Or.inl ⟨by rfl, ?_⟩) (by assumption) ?_
  case refine_2 => (intro w hSw; (try dsimp only at hSw); go_simp; (try with_reducible rfl))
  (try simp only [Act.put, List.getElem_toArray, List.getElem_cons_succ, List.getElem_cons_zero, List.setIfInBounds_toArray, List.set_cons_zero, List.set_cons_succ])
  refine wpAnyH_ready (rs := [1]) (by kernel_rfl) (by simp) ?_
  refine AllReadyH.cons rfl (fun K hK => ?_) AllReadyH.nil
  go_simp
  refine e5.mono ?_
  rintro e v ⟨rfl, rfl⟩
  clear e5
  refine hK.out _ _ trivial (fun hHeld => ?_)
  clear hK K
  refine wpAnyH_take (i := 2) (v := ?_) rfl (by kernel_rfl) (by kernel_rfl) (by kernel_rfl) (fun _ _ _ h => h) (Or.inl ⟨by rfl, ?_⟩) (by assumption) ?_
  case refine_2 => (intro w hSw; (try dsimp only at hSw); go_simp; (try with_reducible rfl))
  (try simp only [Act.put, List.getElem_toArray, List.getElem_cons_succ, List.getElem_cons_zero, List.setIfInBounds_toArray, List.set_cons_zero, List.set_cons_succ])
  refine wpAnyH_take (i := 3) (v := ?_) rfl (by kernel_rfl) (by kernel_rfl) (by kernel_rfl) (fun _ _ _ h => h) (Or.inl ⟨by rfl, ?_⟩) (by assumption) ?_
  case refine_2 => (intro w hSw; (try dsimp only at hSw); go_simp; (try with_reducible rfl))
  (try simp only [Act.put, List.getElem_toArray, List.getElem_cons_succ, List.getElem_cons_zero, List.setIfInBounds_toArray, List.set_cons_zero, List.set_cons_succ])
  refine wpAnyH_take (i := 4) (v := ?_) rfl (by kernel_rfl) (by kernel_rfl) (by kernel_rfl) (fun _ _ _ h => h) (Or.inl ⟨by rfl, ?_⟩) (by assumption) ?_
  case refine_2 => (intro w hSw; (try dsimp only at hSw); go_simp; (try with_reducible rfl))
  (try simp only [Act.put, List.getElem_toArray, List.getElem_cons_succ, List.getElem_cons_zero, List.setIfInBounds_toArray, List.set_cons_zero, List.set_cons_succ])
  refine wpAnyH_take (i := 6) (v := ?_) rfl (by kernel_rfl) (by kernel_rfl) (by kernel_rfl) (fun _ _ _ h => h) (Or.inl ⟨by rfl, ?_⟩) (by assumption) ?_
  case refine_2 => (intro w hSw; (try dsimp only at hSw); go_simp; (try with_reducible rfl))
  (try simp only [Act.put, List.getElem_toArray, List.getElem_cons_succ, List.getElem_cons_zero, List.setIfInBounds_toArray, List.set_cons_zero, List.set_cons_succ])
  refine wpAnyH_take (i := 7) (v := ?_) rfl (by kernel_rfl) (by kernel_rfl) (by kernel_rfl) (fun _ _ _ h => h) (Or.inl ⟨by rfl, ?_⟩) (by assumption) ?_
  case refine_2 => (intro w hSw; (try dsimp only at hSw); go_simp; (try with_reducible rfl))
  (try simp only [Act.put, List.getElem_toArray, List.getElem_cons_succ, List.getElem_cons_zero, List.setIfInBounds_toArray, List.set_cons_zero, List.set_cons_succ])
  refine wpAnyH_take (i := 8) (v := ?_) rfl (by kernel_rfl) (by kernel_rfl) (by kernel_rfl) (fun _ _ _ h => h) (Or.inl ⟨by rfl, ?_⟩) (by assumption) ?_
  case refine_2 => (intro w hSw; (try dsimp only at hSw); go_simp; (try with_reducible rfl))
  (try simp only [Act.put, List.getElem_toArray, List.getElem_cons_succ, List.getElem_cons_zero, List.setIfInBounds_toArray, List.set_cons_zero, List.set_cons_succ])
  refine wpAnyH_ready (rs := [5]) (by kernel_rfl) (by simp) ?_
  refine AllReadyH.cons rfl (fun K hK => ?_) AllReadyH.nil
  go_simp
  refine (hQ _).mono ?_
  rintro e w6 ⟨y6, d6, rfl, hy6, hb6⟩
  have hb56 := hb5d.trans (hb6.mono hb5d.size)
  refine hK.out _ _ trivial (fun hHeld => ?_)
  clear hK K
  refine wpAnyH_ready (rs := [9]) (by kernel_rfl) (by simp) ?_
  refine AllReadyH.cons rfl (fun K hK => ?_) AllReadyH.nil
  go_simp
  refine (hS _ _ _ hb56 hy6).mono ?_
  rintro e v6 ⟨rfl, rfl⟩
  refine hK.out _ _ trivial (fun hHeld => ?_)
  clear hK K
  refine wpAnyH_take (i := 10) (v := ?_) rfl (by kernel_rfl) (by kernel_rfl) (by kernel_rfl) (fun _ _ _ h => h) (Or.inl ⟨by rfl, ?_⟩) (by assumption) ?_
  case refine_2 => (intro w hSw; (try dsimp only at hSw); go_simp; (try with_reducible rfl))
  (try simp only [Act.put, List.getElem_toArray, List.getElem_cons_succ, List.getElem_cons_zero, List.setIfInBounds_toArray, List.set_cons_zero, List.set_cons_succ])
  refine wpAnyH_take (i := 11) (v := ?_) rfl (by kernel_rfl) (by kernel_rfl) (by kernel_rfl) (fun _ _ _ h => h) (Or.inl ⟨by rfl, ?_⟩) (by assumption) ?_
  case refine_2 => (intro w hSw; (try dsimp only at hSw); go_simp; (try with_reducible rfl))
  (try simp only [Act.put, List.getElem_toArray, List.getElem_cons_succ, List.getElem_cons_zero, List.setIfInBounds_toArray, List.set_cons_zero, List.set_cons_succ])
  refine wpAnyH_done (by kernel_rfl) ?_ _
  have eq1 := perr_any q 0 v6 ((hb6.cell hqw).trans hc5)
  have ep1 := perr_any p 0 v6 ((hb6.cell hpw5).trans hcp5)
  clear hc5 hcp5 hb6 hy6 hb5d hqw hpw5 hb5 hQ hS
  go_wp2_with (first
    | (go_at_call 20; refine eq1.mono ?_; rintro e v ⟨rfl, rfl⟩; clear eq1)
    | (go_at_call 20; refine ep1.mono ?_; rintro e v ⟨rfl, rfl⟩; clear ep1)
    | (go_at_call 10; refine (awake_any _).mono ?_; rintro e w9 ⟨rfl, hb9⟩))
  go_ret
  exact ⟨rfl, hb56.trans (hb9.mono hb56.size)⟩

theorem walk (x : Option Addr) (n c : Nat) (f : Nat → Nat) (w : World) (h : BytesIn w x n c f) :
    Calls Try.prog 6 #[.slice x n c] w fun e w' => e = .returned (.bool true) ∧ Below w.heap.size w w' := by
  have hn : n ≤ 140737488355328 := by have := h.le; have := h.small; omega
  have hs := Sl.of_in h
  cases hl : lead ((List.range n).map f) with
  | none => exact no x n c _ w hs hn hl
  | some q => obtain ⟨N, k⟩ := q; exact yes x n c _ N k w hs hn hl

set_option maxRecDepth 100000 in
theorem lifted (os : Os) (started : os.Started) (H : Type) (enc : TypeId × Value → H) :
    ReturnsInHanded {} Try.checked os 6 .any (Rows.wireCanonicalSpec.pre6 enc Try.prog Try.f6 Rows.wireCanonicalRow.domain false) (Rows.wireCanonicalSpec.post enc Try.prog Try.f6 false true false false) := by
  refine returnsInHanded_of_change_sized (C := Try.checked) own started (by kernel_rfl) Try.func6
    (ChangeSpec.witness6 (enc := enc) (C := Try.checked) false ⟨#[], #[.slice none 0 0], []⟩ 8 (by kernel_rfl) (by kernel_rfl) (by kernel_rfl) (by kernel_rfl)) ?_
  intro W base args ds gs before hval0 hW hcnd hsz0 _
  have hsz : (DataW.weightsEach Try.prog (Try.f6.params.toList ++ Rows.wireCanonicalSpec.plain.varTypes Try.prog) (ds ++ gs)).all (· ≤ reachBytes) = true := hsz0
  have hval : ∀ (j : Nat) t v, Try.f6.params[j]? = some t → args[j]? = some v → Value.okWide Try.prog W .any base t v := hval0
  have hW' := hW
  obtain ⟨p, q, hA0, hV, rfl, hfz, hnd⟩ := hW
  have hA : DataW.TrodAll enc Try.prog W 0 (fun _ => true) true Try.f6.params.toList args.toList ds p := hA0
  rw [Try.params6] at hA hval hsz
  obtain ⟨v0, vs0, d0, ds0, p0, q0, hargs, rfl, rfl, h0, r0⟩ := trodAll_cons hA
  obtain ⟨rfl, rfl, rfl⟩ := trodAll_nil r0
  obtain rfl : args = #[v0] := by cases args; simp_all
  obtain ⟨rfl, rfl⟩ := trodVars_none hV
  have k0 := h0
  have lt0 : ∀ x ∈ p0, x.block < W.heap.size := by obtain ⟨m, hm⟩ := k0; exact DataW.trod_lt m _ _ _ hm
  have s0 : ∀ x ∈ d0.weights Try.prog 22, x ≤ reachBytes := fun x hx => by
    have := List.all_eq_true.1 hsz x (DataW.weights_mem_each (j := 0) rfl rfl x hx)
    simpa using this
  obtain ⟨b0, nn0, cc0, rfl⟩ := okWide_slice Try.underlying22 (hval 0 22 v0 rfl rfl)
  obtain ⟨fu0, hf0⟩ := h0
  obtain ⟨a0, len0, cap0, f0, e0, w0⟩ := bytes_in hf0 s0
  simp [Value.cells] at e0
  obtain ⟨rfl, rfl, rfl⟩ := e0
  clear hA0 hval0
  refine (walk b0 nn0 cc0 f0 W w0).mono fun e W' ⟨he, bel⟩ => ?_
  subst he
  exact ⟨_, rfl, _, _, _, [], _, [], hW', trodAll_mk1 (shut_bool Try.underlying4 _), (trodAll_cons_mk (Below.trod laidOut (by kernel_rfl) (of_decide_eq_true (by kernel_rfl)) k0 bel lt0) trodAll_mk0), rfl, bel.frame _, fun h => by cases h⟩

theorem over : Rows.wireCanonicalRow.holds Try.pinned (OpenSpec.ofChange Rows.wireCanonicalSpec) :=
  OpenClaim.holds_of_wide 6 Try.f6 rfl rfl rfl rfl rfl rfl rfl ⟨rfl, rfl, rfl, rfl, rfl⟩ rfl rfl rfl rfl rfl (by kernel_rfl) Try.func6 (by kernel_rfl)
    (of_decide_eq_true (by kernel_rfl)) (by unfold Func.isWrapper; first | (rw [if_pos (by decide +kernel)]; kernel_rfl) | (rw [if_neg (by decide +kernel)]; exact ⟨rfl, rfl⟩))
    (fun os started H enc _ => lifted os started H enc)

theorem proved : Rows.WireCanonicalSaid := over
#print axioms proved
end Go.Proofs.Ytjodeceaogngfaa.wireCanonical
