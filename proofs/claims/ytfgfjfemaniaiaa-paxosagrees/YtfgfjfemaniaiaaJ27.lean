/-
  3 texts of this proof, one behind the other: PxDoesD, PxDoes, PxAgreed.
-/
import Derived.Test.YtfgfjfemaniaiaaJ01
import Derived.Test.YtfgfjfemaniaiaaJ25
import Derived.Test.YtfgfjfemaniaiaaJ26
/-
  The statement's does: what is done with mails.
  Conditions: the group lies in memory ('Grp').
-/
namespace Go.Proofs.Ytfgfjfemaniaiaa.Px
open Go.RowKit Wi By Fl Ba
set_option linter.unusedVariables false
set_option linter.unusedSimpArgs false
set_option maxRecDepth 100000

section
variable {w : World} {B n : Nat} {g : Gl} {sts : Nat → Nd} {W : List Wy} {said : ByteArray → Prop} {G : Gh} {D K : Nat}

set_option maxHeartbeats 3200000 in
theorem does_deliver (h : Grp w B n g sts W said G D K) (h1 : 1 ≤ n) (hn : n ≤ 7) (hK : K ≤ 900) (hD : D < 59000) (a : Int) (a1 : -9223372036854775808 ≤ a) (a2 : a ≤ 9223372036854775807) (x : Option Addr) (vn vc : Nat) (hne : W ≠ []) :
    Calls Try.prog 10 #[.pointer (some ⟨g.q, 0, none⟩), .agg #[.int .i64 2, .int .i64 a, .slice x vn vc]] w fun e w' => e = .returned (.bool true) ∧ Hid (Acted w w' B n g sts said G D K) := by
  obtain ⟨lb, lc, hRl, hlc, hptr⟩ := h.ptr h1
  have c0 := h.c0
  rw [hRl] at c0
  have c1 := h.c1
  have c2 := h.c2
  have hqs := h.obj.lt
  have bA : Below w.heap.size w (w.alloc (.cells #[.int .i64 2, .int .i64 a, .slice x vn vc] 37)).drew := on (al _ _) (Below.refl _ _).drew
  have k0 : (w.alloc (.cells #[.int .i64 2, .int .i64 a, .slice x vn vc] 37)).drew.cell? ⟨w.heap.size, 0, none⟩ = some (.int .i64 2) := by go_simp
  have k1 : (w.alloc (.cells #[.int .i64 2, .int .i64 a, .slice x vn vc] 37)).drew.cell? ⟨w.heap.size, 1, none⟩ = some (.int .i64 a) := by go_simp
  have k2 : (w.alloc (.cells #[.int .i64 2, .int .i64 a, .slice x vn vc] 37)).drew.cell? ⟨w.heap.size, 2, none⟩ = some (.slice x vn vc) := by go_simp
  have s0 := keep bA c0
  have s1 := keep bA c1
  have s2 := keep bA c2
  have hAt := fun W => ati_any a n h1 (by omega) a1 a2 W
  have hwl := h.wlen
  obtain ⟨wb, cw, hRw, hwc, hcm, _, hwb⟩ := h.wrow.there hne
  have hcb : cw ≤ 9223372036854775807 := by unfold maxLen at hcm; omega
  have hl1 : 1 ≤ W.length := by
    cases W with
    | nil => exact absurd rfl hne
    | cons _ _ => simp
  have c1b := h.c1
  rw [hRw] at c1b
  have s1b := keep bA c1b
  have HW := hid (And.intro hRw hwc)
  obtain ⟨wl, hwl2⟩ : ∃ wl, W.length = wl := ⟨_, rfl⟩
  have Hwl := hid hwl2
  rw [hwl2] at s1b hwl hl1 hwc
  have hAt2 := fun V => ati_any a wl hl1 (by omega) a1 a2 V
  have HH := hid (And.intro h (And.intro hptr hRl))
  obtain ⟨q, hq⟩ : ∃ q, g.q = q := ⟨_, rfl⟩
  have Hq := hid hq
  rw [hq] at s0 s1 s2 s1b hqs ⊢
  clear h hptr hRl c0 c1 c2 hq c1b hRw hcm hwl2 s1 hne
  go_enter Try.func10, Try.ntmps10
  go_wp2_with fail
  refine wp_region_held_drew (S := fun v => v.cell? ⟨q, 0, none⟩ = some (.slice (some ⟨lb, 0, none⟩) n lc) ∧ v.cell? ⟨w.heap.size, 1, none⟩ = some (.int .i64 a)) (by kernel_rfl) ⟨s0, k1⟩ (fun hHeld => ?_)
  generalize (w.alloc (.cells #[.int .i64 2, .int .i64 a, .slice x vn vc] 37)).drew = wA at *
  refine By.hk 0 ?_
  refine By.hk 1 ?_
  refine By.hk 2 ?_
  refine By.hk 3 ?_
  refine By.hk 4 ?_
  refine By.hk 5 ?_
  refine By.hk 6 ?_
  refine wpAnyH_ready (rs := [7]) (by kernel_rfl) (by simp) ?_
  refine AllReadyH.cons rfl (fun K hK => ?_) AllReadyH.nil
  go_simp
  refine (hAt _).mono ?_
  rintro e w9 ⟨r, hr, rfl, hw9⟩
  subst w9
  refine hK.out _ _ ⟨s0, k1⟩ (fun hHeld => ?_)
  clear hK K
  refine By.hk 8 ?_
  refine wpAnyH_done (by kernel_rfl) ?_ _
  clear hHeld hAt
  have p0 := keep bA (HH.out.2.1 r hr)
  have idn : (r : Int) < (n : Int) := by omega
  obtain ⟨pd, hpd⟩ : ∃ pd, (g.gs r).p = pd := ⟨_, rfl⟩
  have Hpd := hid hpd
  rw [hpd] at p0
  clear hpd
  have bB : Below wA.heap.size wA wA.drew := (Below.refl _ _).drew
  have f1 := keep bB s1b
  have f2 := keep bB k1
  have f3 := keep bB k0
  have i14 : ¬ (wl : Int) = 0 := by omega
  have i15 : ((wl : Int) == 0) = false := by simpa using i14
  go_wp2_with fail
  refine wp_region_held_drew (S := fun v => v.cell? ⟨q, 1, none⟩ = some (.slice (some ⟨wb, 0, none⟩) wl cw) ∧ v.cell? ⟨w.heap.size, 1, none⟩ = some (.int .i64 a)) (by kernel_rfl) ⟨f1, f2⟩ (fun hHeld => ?_)
  generalize wA.drew = wB at *
  refine By.hk 0 ?_
  refine By.hk 1 ?_
  refine By.hk 2 ?_
  refine By.hk 3 ?_
  refine By.hk 4 ?_
  refine By.hk 5 ?_
  refine By.hk 6 ?_
  refine wpAnyH_ready (rs := [7]) (by kernel_rfl) (by simp) ?_
  refine AllReadyH.cons rfl (fun K hK => ?_) AllReadyH.nil
  go_simp
  refine (hAt2 _).mono ?_
  rintro e w9 ⟨i, hi, rfl, hw9⟩
  subst w9
  refine hK.out _ _ ⟨f1, f2⟩ (fun hHeld => ?_)
  clear hK K
  refine By.hk 8 ?_
  refine wpAnyH_done (by kernel_rfl) ?_ _
  clear hHeld hAt2
  have HB := hid (on bA bB)
  clear bB s0 s1b s2 k1 k2 k0 p0
  have hT : Calls Try.prog 20 #[.pointer (some ⟨q, 0, none⟩), .int .i64 (i : Int)] wB fun e w' => e = .returned (.bool true) ∧ Hid (Acted w w' B n g sts said G D K) := by
    have p := deliver_any (HH.out.1.below HB.out) h1 hn hK hD i (by rw [Hwl.out]; exact hi)
    rw [Hq.out] at p
    refine p.mono ?_
    rintro e w' ⟨rfl, H⟩
    obtain ⟨g', sts', W', G', j1, j2, j3⟩ := H.out
    exact ⟨rfl, g', sts', W', said, G', j1, (GTo.of_below HB.out).trans j2, fun _ h => h, j3⟩
  go_wp2_with (go_at_call 20; refine hT.mono ?_; rintro e w6 ⟨rfl, H6⟩; clear hT)
  go_ret
  exact ⟨rfl, H6.out⟩

set_option maxHeartbeats 3200000 in
theorem does_drop (h : Grp w B n g sts W said G D K) (h1 : 1 ≤ n) (hn : n ≤ 7) (hK : K ≤ 900) (hD : D < 59000) (a : Int) (a1 : -9223372036854775808 ≤ a) (a2 : a ≤ 9223372036854775807) (x : Option Addr) (vn vc : Nat) (hne : W ≠ []) :
    Calls Try.prog 10 #[.pointer (some ⟨g.q, 0, none⟩), .agg #[.int .i64 3, .int .i64 a, .slice x vn vc]] w fun e w' => e = .returned (.bool true) ∧ Hid (Acted w w' B n g sts said G D K) := by
  obtain ⟨lb, lc, hRl, hlc, hptr⟩ := h.ptr h1
  have c0 := h.c0
  rw [hRl] at c0
  have c1 := h.c1
  have c2 := h.c2
  have hqs := h.obj.lt
  have bA : Below w.heap.size w (w.alloc (.cells #[.int .i64 3, .int .i64 a, .slice x vn vc] 37)).drew := on (al _ _) (Below.refl _ _).drew
  have k0 : (w.alloc (.cells #[.int .i64 3, .int .i64 a, .slice x vn vc] 37)).drew.cell? ⟨w.heap.size, 0, none⟩ = some (.int .i64 3) := by go_simp
  have k1 : (w.alloc (.cells #[.int .i64 3, .int .i64 a, .slice x vn vc] 37)).drew.cell? ⟨w.heap.size, 1, none⟩ = some (.int .i64 a) := by go_simp
  have k2 : (w.alloc (.cells #[.int .i64 3, .int .i64 a, .slice x vn vc] 37)).drew.cell? ⟨w.heap.size, 2, none⟩ = some (.slice x vn vc) := by go_simp
  have s0 := keep bA c0
  have s1 := keep bA c1
  have s2 := keep bA c2
  have hAt := fun W => ati_any a n h1 (by omega) a1 a2 W
  have hwl := h.wlen
  obtain ⟨wb, cw, hRw, hwc, hcm, _, hwb⟩ := h.wrow.there hne
  have hcb : cw ≤ 9223372036854775807 := by unfold maxLen at hcm; omega
  have hl1 : 1 ≤ W.length := by
    cases W with
    | nil => exact absurd rfl hne
    | cons _ _ => simp
  have c1b := h.c1
  rw [hRw] at c1b
  have s1b := keep bA c1b
  have HW := hid (And.intro hRw hwc)
  obtain ⟨wl, hwl2⟩ : ∃ wl, W.length = wl := ⟨_, rfl⟩
  have Hwl := hid hwl2
  rw [hwl2] at s1b hwl hl1 hwc
  have hAt2 := fun V => ati_any a wl hl1 (by omega) a1 a2 V
  have HH := hid (And.intro h (And.intro hptr hRl))
  obtain ⟨q, hq⟩ : ∃ q, g.q = q := ⟨_, rfl⟩
  have Hq := hid hq
  rw [hq] at s0 s1 s2 s1b hqs ⊢
  clear h hptr hRl c0 c1 c2 hq c1b hRw hcm hwl2 s1 hne
  go_enter Try.func10, Try.ntmps10
  go_wp2_with fail
  refine wp_region_held_drew (S := fun v => v.cell? ⟨q, 0, none⟩ = some (.slice (some ⟨lb, 0, none⟩) n lc) ∧ v.cell? ⟨w.heap.size, 1, none⟩ = some (.int .i64 a)) (by kernel_rfl) ⟨s0, k1⟩ (fun hHeld => ?_)
  generalize (w.alloc (.cells #[.int .i64 3, .int .i64 a, .slice x vn vc] 37)).drew = wA at *
  refine By.hk 0 ?_
  refine By.hk 1 ?_
  refine By.hk 2 ?_
  refine By.hk 3 ?_
  refine By.hk 4 ?_
  refine By.hk 5 ?_
  refine By.hk 6 ?_
  refine wpAnyH_ready (rs := [7]) (by kernel_rfl) (by simp) ?_
  refine AllReadyH.cons rfl (fun K hK => ?_) AllReadyH.nil
  go_simp
  refine (hAt _).mono ?_
  rintro e w9 ⟨r, hr, rfl, hw9⟩
  subst w9
  refine hK.out _ _ ⟨s0, k1⟩ (fun hHeld => ?_)
  clear hK K
  refine By.hk 8 ?_
  refine wpAnyH_done (by kernel_rfl) ?_ _
  clear hHeld hAt
  have p0 := keep bA (HH.out.2.1 r hr)
  have idn : (r : Int) < (n : Int) := by omega
  obtain ⟨pd, hpd⟩ : ∃ pd, (g.gs r).p = pd := ⟨_, rfl⟩
  have Hpd := hid hpd
  rw [hpd] at p0
  clear hpd
  have bB : Below wA.heap.size wA wA.drew := (Below.refl _ _).drew
  have f1 := keep bB s1b
  have f2 := keep bB k1
  have f3 := keep bB k0
  have i14 : ¬ (wl : Int) = 0 := by omega
  have i15 : ((wl : Int) == 0) = false := by simpa using i14
  go_wp2_with fail
  refine wp_region_held_drew (S := fun v => v.cell? ⟨q, 1, none⟩ = some (.slice (some ⟨wb, 0, none⟩) wl cw) ∧ v.cell? ⟨w.heap.size, 1, none⟩ = some (.int .i64 a)) (by kernel_rfl) ⟨f1, f2⟩ (fun hHeld => ?_)
  generalize wA.drew = wB at *
  refine By.hk 0 ?_
  refine By.hk 1 ?_
  refine By.hk 2 ?_
  refine By.hk 3 ?_
  refine By.hk 4 ?_
  refine By.hk 5 ?_
  refine By.hk 6 ?_
  refine wpAnyH_ready (rs := [7]) (by kernel_rfl) (by simp) ?_
  refine AllReadyH.cons rfl (fun K hK => ?_) AllReadyH.nil
  go_simp
  refine (hAt2 _).mono ?_
  rintro e w9 ⟨i, hi, rfl, hw9⟩
  subst w9
  refine hK.out _ _ ⟨f1, f2⟩ (fun hHeld => ?_)
  clear hK K
  refine By.hk 8 ?_
  refine wpAnyH_done (by kernel_rfl) ?_ _
  clear hHeld hAt2
  have HB := hid (on bA bB)
  clear bB s0 s1b s2 k1 k2 k0 p0
  obtain ⟨o, ho, hA⟩ : ∃ o, (i + 1 < cw → o = (i + 1) * 3) ∧ (if cw = i + 1 then some (⟨wb, 0, none⟩ : Addr) else some ⟨wb, (i + 1) * 3, none⟩) = some ⟨wb, o, none⟩ := by
    by_cases e : cw = i + 1
    · exact ⟨0, fun h => by omega, by rw [if_pos e]⟩
    · exact ⟨(i + 1) * 3, fun _ => rfl, by rw [if_neg e]⟩
  have Ho := hid ho
  clear ho
  have hiz : (i : Int) < 9223372036854775807 := by omega
  have hwz : IntKind.i64.wrap ((i : Int) + 1) = (i : Int) + 1 := by
    unfold IntKind.wrap
    simp [IntKind.bits, IntKind.signed]
    omega
  have hwn : ((i : Int) + 1).toNat = i + 1 := by omega
  have hw0 : (0 : Int) ≤ (i : Int) + 1 := by omega
  have hic : i ≤ cw := by omega
  have hin : (i : Int) + 1 ≤ (wl : Int) := by omega
  have bC : Below wB.heap.size wB wB.drew := (Below.refl _ _).drew
  have u1 := keep bC f1
  obtain ⟨x1, d1, w1, x2, d2, w2, hap1, hap2, hkeep, hfz, HC⟩ := (HH.out.1.below (on HB.out bC)).cut (by omega) i wb cw o (by rw [Hwl.out]; exact hi) HW.out.1 HW.out.2 Ho.out
  rw [Hwl.out] at hap2 HC
  rw [Hq.out] at hfz HC
  have hqA : q < wB.drew.heap.size := cell_lt' u1
  obtain ⟨y1, y2, y3⟩ := hkeep q 1 _ hqA u1
  have HBC := hid (on HB.out bC)
  clear hkeep
  go_wp2_with fail
  refine wp_region_last (fun v => v.cell? ⟨q, 1, none⟩ = some (.slice (some ⟨wb, 0, none⟩) wl cw)) 19 (by kernel_rfl) u1 (fun hS => ?_)
  generalize wB.drew = wC at *
  refine By.lk 0 ?_
  refine By.lk 2 ?_
  refine By.lk 3 ?_
  refine By.lk 4 ?_
  refine By.lk 5 ?_
  refine By.lk 6 ?_
  refine By.lk 7 ?_
  refine By.lk 9 ?_
  refine By.lk 10 ?_
  refine By.lk 11 ?_
  refine By.lk 12 ?_
  refine By.lk 13 ?_
  refine By.lk 14 ?_
  refine By.lk 15 ?_
  refine wpAnyL_one (i := 1) (by kernel_rfl) rfl (fun K hK => ?_)
  go_simp
  refine hK.out _ _ (fun _ => y1) ?_
  clear hK K
  refine wpAnyL_one (i := 8) (by kernel_rfl) rfl (fun K hK => ?_)
  refine ready_append rfl _ _ 30 rfl _ _ rfl rfl hap1 ?_
  (try simp only [Act.put, List.getElem_toArray, List.getElem_cons_succ, List.getElem_cons_zero, List.setIfInBounds_toArray, List.set_cons_zero, List.set_cons_succ])
  refine hK.out _ _ (fun _ => y2) ?_
  clear hK K
  refine wpAnyL_one (i := 16) (by kernel_rfl) rfl (fun K hK => ?_)
  refine ready_append rfl _ _ 30 rfl _ _ rfl rfl hap2 ?_
  (try simp only [Act.put, List.getElem_toArray, List.getElem_cons_succ, List.getElem_cons_zero, List.setIfInBounds_toArray, List.set_cons_zero, List.set_cons_succ])
  refine hK.out _ _ (fun _ => y3) ?_
  clear hK K
  refine wpAnyL_one (i := 17) (by kernel_rfl) rfl (fun K hK => ?_)
  go_simp
  refine hK.out _ _ (fun _ => y3) ?_
  clear hK K
  refine wpAnyL_one (i := 18) (by kernel_rfl) rfl (fun K hK => ?_)
  go_simp
  refine hK.out _ _ (fun _ => y3) ?_
  clear hK K
  refine wpAnyL_one (i := 19) (by kernel_rfl) rfl (fun K hK => ?_)
  go_simp
  refine hK.out _ _ (fun h => absurd rfl h) ?_
  clear hK K
  refine wpAnyL_done (by kernel_rfl) ?_ _
  go_wp2_with fail
  go_ret
  obtain ⟨g', _, _, r3, t3⟩ := HC.out
  exact ⟨rfl, g', sts, _, said, G, r3.more (by omega) (by omega), (GTo.of_below HBC.out).trans t3, fun _ h => h, fun _ _ h => h⟩

set_option maxHeartbeats 3200000 in
theorem does_twice (h : Grp w B n g sts W said G D K) (h1 : 1 ≤ n) (hn : n ≤ 7) (hK : K ≤ 900) (hD : D < 59000) (a : Int) (a1 : -9223372036854775808 ≤ a) (a2 : a ≤ 9223372036854775807) (x : Option Addr) (vn vc : Nat) (hne : W ≠ []) :
    Calls Try.prog 10 #[.pointer (some ⟨g.q, 0, none⟩), .agg #[.int .i64 4, .int .i64 a, .slice x vn vc]] w fun e w' => e = .returned (.bool true) ∧ Hid (Acted w w' B n g sts said G D K) := by
  obtain ⟨lb, lc, hRl, hlc, hptr⟩ := h.ptr h1
  have c0 := h.c0
  rw [hRl] at c0
  have c1 := h.c1
  have c2 := h.c2
  have hqs := h.obj.lt
  have bA : Below w.heap.size w (w.alloc (.cells #[.int .i64 4, .int .i64 a, .slice x vn vc] 37)).drew := on (al _ _) (Below.refl _ _).drew
  have k0 : (w.alloc (.cells #[.int .i64 4, .int .i64 a, .slice x vn vc] 37)).drew.cell? ⟨w.heap.size, 0, none⟩ = some (.int .i64 4) := by go_simp
  have k1 : (w.alloc (.cells #[.int .i64 4, .int .i64 a, .slice x vn vc] 37)).drew.cell? ⟨w.heap.size, 1, none⟩ = some (.int .i64 a) := by go_simp
  have k2 : (w.alloc (.cells #[.int .i64 4, .int .i64 a, .slice x vn vc] 37)).drew.cell? ⟨w.heap.size, 2, none⟩ = some (.slice x vn vc) := by go_simp
  have s0 := keep bA c0
  have s1 := keep bA c1
  have s2 := keep bA c2
  have hAt := fun W => ati_any a n h1 (by omega) a1 a2 W
  have hwl := h.wlen
  obtain ⟨wb, cw, hRw, hwc, hcm, _, hwb⟩ := h.wrow.there hne
  have hcb : cw ≤ 9223372036854775807 := by unfold maxLen at hcm; omega
  have hl1 : 1 ≤ W.length := by
    cases W with
    | nil => exact absurd rfl hne
    | cons _ _ => simp
  have c1b := h.c1
  rw [hRw] at c1b
  have s1b := keep bA c1b
  have HW := hid (And.intro hRw hwc)
  obtain ⟨wl, hwl2⟩ : ∃ wl, W.length = wl := ⟨_, rfl⟩
  have Hwl := hid hwl2
  rw [hwl2] at s1b hwl hl1 hwc
  have hAt2 := fun V => ati_any a wl hl1 (by omega) a1 a2 V
  have HH := hid (And.intro h (And.intro hptr hRl))
  obtain ⟨q, hq⟩ : ∃ q, g.q = q := ⟨_, rfl⟩
  have Hq := hid hq
  rw [hq] at s0 s1 s2 s1b hqs ⊢
  clear h hptr hRl c0 c1 c2 hq c1b hRw hcm hwl2 s1 hne
  go_enter Try.func10, Try.ntmps10
  go_wp2_with fail
  refine wp_region_held_drew (S := fun v => v.cell? ⟨q, 0, none⟩ = some (.slice (some ⟨lb, 0, none⟩) n lc) ∧ v.cell? ⟨w.heap.size, 1, none⟩ = some (.int .i64 a)) (by kernel_rfl) ⟨s0, k1⟩ (fun hHeld => ?_)
  generalize (w.alloc (.cells #[.int .i64 4, .int .i64 a, .slice x vn vc] 37)).drew = wA at *
  refine By.hk 0 ?_
  refine By.hk 1 ?_
  refine By.hk 2 ?_
  refine By.hk 3 ?_
  refine By.hk 4 ?_
  refine By.hk 5 ?_
  refine By.hk 6 ?_
  refine wpAnyH_ready (rs := [7]) (by kernel_rfl) (by simp) ?_
  refine AllReadyH.cons rfl (fun K hK => ?_) AllReadyH.nil
  go_simp
  refine (hAt _).mono ?_
  rintro e w9 ⟨r, hr, rfl, hw9⟩
  subst w9
  refine hK.out _ _ ⟨s0, k1⟩ (fun hHeld => ?_)
  clear hK K
  refine By.hk 8 ?_
  refine wpAnyH_done (by kernel_rfl) ?_ _
  clear hHeld hAt
  have p0 := keep bA (HH.out.2.1 r hr)
  have idn : (r : Int) < (n : Int) := by omega
  obtain ⟨pd, hpd⟩ : ∃ pd, (g.gs r).p = pd := ⟨_, rfl⟩
  have Hpd := hid hpd
  rw [hpd] at p0
  clear hpd
  have bB : Below wA.heap.size wA wA.drew := (Below.refl _ _).drew
  have f1 := keep bB s1b
  have f2 := keep bB k1
  have f3 := keep bB k0
  have i14 : ¬ (wl : Int) = 0 := by omega
  have i15 : ((wl : Int) == 0) = false := by simpa using i14
  go_wp2_with fail
  refine wp_region_held_drew (S := fun v => v.cell? ⟨q, 1, none⟩ = some (.slice (some ⟨wb, 0, none⟩) wl cw) ∧ v.cell? ⟨w.heap.size, 1, none⟩ = some (.int .i64 a)) (by kernel_rfl) ⟨f1, f2⟩ (fun hHeld => ?_)
  generalize wA.drew = wB at *
  refine By.hk 0 ?_
  refine By.hk 1 ?_
  refine By.hk 2 ?_
  refine By.hk 3 ?_
  refine By.hk 4 ?_
  refine By.hk 5 ?_
  refine By.hk 6 ?_
  refine wpAnyH_ready (rs := [7]) (by kernel_rfl) (by simp) ?_
  refine AllReadyH.cons rfl (fun K hK => ?_) AllReadyH.nil
  go_simp
  refine (hAt2 _).mono ?_
  rintro e w9 ⟨i, hi, rfl, hw9⟩
  subst w9
  refine hK.out _ _ ⟨f1, f2⟩ (fun hHeld => ?_)
  clear hK K
  refine By.hk 8 ?_
  refine wpAnyH_done (by kernel_rfl) ?_ _
  clear hHeld hAt2
  have HB := hid (on bA bB)
  clear bB s0 s1b s2 k1 k2 k0 p0
  have bC : Below wB.heap.size wB wB.drew := (Below.refl _ _).drew
  have u1 := keep bC f1
  obtain ⟨m, hm⟩ : ∃ m, W[i]? = some m := ⟨W[i]'(by rw [Hwl.out]; exact hi), List.getElem?_eq_getElem (by rw [Hwl.out]; exact hi)⟩
  have HM := hid hm
  have own1 := (HH.out.1.below (on HB.out bC)).wrow
  rw [HW.out.1] at own1
  have m0 : wB.drew.cell? ⟨wb, i * 3, none⟩ = some (.int .i64 (m.fr : Int)) := own1.cell wyrow.len hm (j := 0) rfl
  have m1 : wB.drew.cell? ⟨wb, i * 3 + 1, none⟩ = some (.int .i64 (m.dst : Int)) := own1.cell wyrow.len hm (j := 1) rfl
  have m2 : wB.drew.cell? ⟨wb, i * 3 + 2, none⟩ = some (.slice m.x m.n m.c) := own1.cell wyrow.len hm (j := 2) rfl
  clear own1
  obtain ⟨mf, md, mx, mn, mc⟩ := m
  dsimp only at m0 m1 m2
  have HU : Hid (∀ wE W2, Below wB.heap.size wB wE → W2 = wE.alloc (.cells #[.int .i64 (mf : Int), .int .i64 (md : Int), .slice mx mn mc] 52) → ∃ x' c' w3, (Builtin.append_ #[30, 30] 30 #[.slice (some ⟨wb, 0, none⟩) wl cw, .slice (some ⟨wE.heap.size, 0, none⟩) 1 1]).run Try.prog W2 = .ok (.slice x' (wl + 1) c') w3 ∧ w3.cell? ⟨q, 1, none⟩ = some (.slice (some ⟨wb, 0, none⟩) wl cw) ∧ w3.frozen? ⟨q, 1, none⟩ = false ∧ Hid (Acted w (w3.setCell ⟨q, 1, none⟩ (.slice x' (wl + 1) c')) B n g sts said G D K)) := by
    intro wE W2 bE hW2
    have b2 : Below wE.heap.size wE W2 := by rw [hW2]; exact al _ _
    have bW := on (on HB.out bE) b2
    have rG := (HH.out.1.below bW).more (D' := D) (K' := K + 1) (Nat.le_refl _) (by omega)
    have hz : W2.heap.size = wE.heap.size + 1 := by rw [hW2]; simp
    have hBs : B ≤ W2.heap.size := Nat.le_trans rG.low.1 (Nat.le_of_lt rG.obj.lt)
    obtain ⟨x', c', w3, hap, HO⟩ := rG.wrow.push wyrow hBs ⟨wE.heap.size, 0, none⟩ 1 1 [⟨mf, md, mx, mn, mc⟩] rfl (fun j u hj => by
      rw [add_at, Nat.zero_add]
      rw [flat_one] at hj
      rw [hW2]
      match j, hj with
      | 0, hj => simpa [encW] using hj
      | 1, hj => simpa [encW] using hj
      | 2, hj => simpa [encW] using hj
      | j + 3, hj => simp [encW] at hj) (by have := Hwl.out; omega)
    obtain ⟨o3, t3, n3⟩ := HO.out
    have hu3 : ∀ j, g.Rw.ownBlock = some j → ¬ Tb W2 j 5 := fun j hj ht => by
      have := ht.same (rG.wrow.tb hj).2
      revert this
      decide
    obtain ⟨a1, a2, a3, a4⟩ := rG.setW t3 o3 (by rw [List.length_append]; have := Hwl.out; have := HH.out.1.wlen; simp; omega) (fun m9 hm9 => by
      rcases List.mem_append.1 hm9 with hm9 | hm9
      · exact (rG.ways m9 hm9).turns t3 hu3
      · simp at hm9
        subst hm9
        exact (rG.ways _ (List.mem_of_getElem? HM.out)).turns t3 hu3) (fun j hj => by
      rcases n3 j hj with e | e
      · exact .inl e
      · exact .inr (by omega))
    rw [HW.out.1, Hwl.out] at a1 hap
    rw [Hq.out] at a1 a2 a3 a4
    rw [Hwl.out] at a3 a4
    exact ⟨x', c', w3, hap, a1, a2, _, sts, _, said, G, a3.more (by omega) (Nat.le_refl _), (GTo.of_below bW).trans a4, fun _ h => h, fun _ _ h => h⟩
  obtain ⟨x', c', w3, hap, b3, b4, HN⟩ := HU.out _ _ bC rfl
  clear HU HM hm
  have b1 := keep (al wB.drew (.cells #[.int .i64 (mf : Int), .int .i64 (md : Int), .slice mx mn mc] 52)) u1
  go_wp2_with fail
  refine wp_region_last (fun v => v.cell? ⟨q, 1, none⟩ = some (.slice (some ⟨wb, 0, none⟩) wl cw)) 16 (by kernel_rfl) u1 (fun hS => ?_)
  generalize wB.drew = wC at *
  refine By.lk 0 ?_
  refine By.lk 1 ?_
  refine By.lk 2 ?_
  refine By.lk 3 ?_
  refine By.lk 4 ?_
  refine By.lk 5 ?_
  refine By.lk 6 ?_
  refine By.lk 7 ?_
  refine By.lk 8 ?_
  refine By.lk 9 ?_
  refine By.lk 10 ?_
  refine wpAnyL_one (i := 11) (by kernel_rfl) rfl (fun K hK => ?_)
  go_simp
  refine hK.out _ _ (fun _ => u1) ?_
  clear hK K
  refine wpAnyL_one (i := 12) (by kernel_rfl) rfl (fun K hK => ?_)
  go_simp
  refine hK.out _ _ (fun _ => b1) ?_
  clear hK K
  refine wpAnyL_one (i := 13) (by kernel_rfl) rfl (fun K hK => ?_)
  refine ready_append rfl _ _ 30 rfl _ _ rfl rfl hap ?_
  (try simp only [Act.put, List.getElem_toArray, List.getElem_cons_succ, List.getElem_cons_zero, List.setIfInBounds_toArray, List.set_cons_zero, List.set_cons_succ])
  refine hK.out _ _ (fun _ => b3) ?_
  clear hK K
  refine wpAnyL_one (i := 14) (by kernel_rfl) rfl (fun K hK => ?_)
  go_simp
  refine hK.out _ _ (fun _ => b3) ?_
  clear hK K
  refine wpAnyL_one (i := 15) (by kernel_rfl) rfl (fun K hK => ?_)
  go_simp
  refine hK.out _ _ (fun _ => b3) ?_
  clear hK K
  refine wpAnyL_one (i := 16) (by kernel_rfl) rfl (fun K hK => ?_)
  go_simp
  refine hK.out _ _ (fun h => absurd rfl h) ?_
  clear hK K
  refine wpAnyL_done (by kernel_rfl) ?_ _
  go_wp2_with fail
  go_ret
  exact ⟨rfl, HN.out⟩

set_option maxHeartbeats 3200000 in
theorem does_other (h : Grp w B n g sts W said G D K) (h1 : 1 ≤ n) (hn : n ≤ 7) (hK : K ≤ 900) (hD : D < 59000) (do_ : Int) (a : Int) (a1 : -9223372036854775808 ≤ a) (a2 : a ≤ 9223372036854775807) (x : Option Addr) (vn vc : Nat) (hne : W ≠ []) (d0 : (do_ == 0) = false) (d1 : (do_ == 1) = false) (d5 : (do_ == 5) = false) (d2 : (do_ == 2) = false) (d3 : (do_ == 3) = false) (d4 : (do_ == 4) = false) :
    Calls Try.prog 10 #[.pointer (some ⟨g.q, 0, none⟩), .agg #[.int .i64 do_, .int .i64 a, .slice x vn vc]] w fun e w' => e = .returned (.bool true) ∧ Hid (Acted w w' B n g sts said G D K) := by
  obtain ⟨lb, lc, hRl, hlc, hptr⟩ := h.ptr h1
  have c0 := h.c0
  rw [hRl] at c0
  have c1 := h.c1
  have c2 := h.c2
  have hqs := h.obj.lt
  have bA : Below w.heap.size w (w.alloc (.cells #[.int .i64 do_, .int .i64 a, .slice x vn vc] 37)).drew := on (al _ _) (Below.refl _ _).drew
  have k0 : (w.alloc (.cells #[.int .i64 do_, .int .i64 a, .slice x vn vc] 37)).drew.cell? ⟨w.heap.size, 0, none⟩ = some (.int .i64 do_) := by go_simp
  have k1 : (w.alloc (.cells #[.int .i64 do_, .int .i64 a, .slice x vn vc] 37)).drew.cell? ⟨w.heap.size, 1, none⟩ = some (.int .i64 a) := by go_simp
  have k2 : (w.alloc (.cells #[.int .i64 do_, .int .i64 a, .slice x vn vc] 37)).drew.cell? ⟨w.heap.size, 2, none⟩ = some (.slice x vn vc) := by go_simp
  have s0 := keep bA c0
  have s1 := keep bA c1
  have s2 := keep bA c2
  have hAt := fun W => ati_any a n h1 (by omega) a1 a2 W
  have hwl := h.wlen
  obtain ⟨wb, cw, hRw, hwc, hcm, _, hwb⟩ := h.wrow.there hne
  have hcb : cw ≤ 9223372036854775807 := by unfold maxLen at hcm; omega
  have hl1 : 1 ≤ W.length := by
    cases W with
    | nil => exact absurd rfl hne
    | cons _ _ => simp
  have c1b := h.c1
  rw [hRw] at c1b
  have s1b := keep bA c1b
  have HW := hid (And.intro hRw hwc)
  obtain ⟨wl, hwl2⟩ : ∃ wl, W.length = wl := ⟨_, rfl⟩
  have Hwl := hid hwl2
  rw [hwl2] at s1b hwl hl1 hwc
  have hAt2 := fun V => ati_any a wl hl1 (by omega) a1 a2 V
  have HH := hid (And.intro h (And.intro hptr hRl))
  obtain ⟨q, hq⟩ : ∃ q, g.q = q := ⟨_, rfl⟩
  have Hq := hid hq
  rw [hq] at s0 s1 s2 s1b hqs ⊢
  clear h hptr hRl c0 c1 c2 hq c1b hRw hcm hwl2 s1 hne
  go_enter Try.func10, Try.ntmps10
  go_wp2_with fail
  refine wp_region_held_drew (S := fun v => v.cell? ⟨q, 0, none⟩ = some (.slice (some ⟨lb, 0, none⟩) n lc) ∧ v.cell? ⟨w.heap.size, 1, none⟩ = some (.int .i64 a)) (by kernel_rfl) ⟨s0, k1⟩ (fun hHeld => ?_)
  generalize (w.alloc (.cells #[.int .i64 do_, .int .i64 a, .slice x vn vc] 37)).drew = wA at *
  refine By.hk 0 ?_
  refine By.hk 1 ?_
  refine By.hk 2 ?_
  refine By.hk 3 ?_
  refine By.hk 4 ?_
  refine By.hk 5 ?_
  refine By.hk 6 ?_
  refine wpAnyH_ready (rs := [7]) (by kernel_rfl) (by simp) ?_
  refine AllReadyH.cons rfl (fun K hK => ?_) AllReadyH.nil
  go_simp
  refine (hAt _).mono ?_
  rintro e w9 ⟨r, hr, rfl, hw9⟩
  subst w9
  refine hK.out _ _ ⟨s0, k1⟩ (fun hHeld => ?_)
  clear hK K
  refine By.hk 8 ?_
  refine wpAnyH_done (by kernel_rfl) ?_ _
  clear hHeld hAt
  have p0 := keep bA (HH.out.2.1 r hr)
  have idn : (r : Int) < (n : Int) := by omega
  obtain ⟨pd, hpd⟩ : ∃ pd, (g.gs r).p = pd := ⟨_, rfl⟩
  have Hpd := hid hpd
  rw [hpd] at p0
  clear hpd
  have bB : Below wA.heap.size wA wA.drew := (Below.refl _ _).drew
  have f1 := keep bB s1b
  have f2 := keep bB k1
  have f3 := keep bB k0
  have i14 : ¬ (wl : Int) = 0 := by omega
  have i15 : ((wl : Int) == 0) = false := by simpa using i14
  go_wp2_with fail
  refine wp_region_held_drew (S := fun v => v.cell? ⟨q, 1, none⟩ = some (.slice (some ⟨wb, 0, none⟩) wl cw) ∧ v.cell? ⟨w.heap.size, 1, none⟩ = some (.int .i64 a)) (by kernel_rfl) ⟨f1, f2⟩ (fun hHeld => ?_)
  generalize wA.drew = wB at *
  refine By.hk 0 ?_
  refine By.hk 1 ?_
  refine By.hk 2 ?_
  refine By.hk 3 ?_
  refine By.hk 4 ?_
  refine By.hk 5 ?_
  refine By.hk 6 ?_
  refine wpAnyH_ready (rs := [7]) (by kernel_rfl) (by simp) ?_
  refine AllReadyH.cons rfl (fun K hK => ?_) AllReadyH.nil
  go_simp
  refine (hAt2 _).mono ?_
  rintro e w9 ⟨i, hi, rfl, hw9⟩
  subst w9
  refine hK.out _ _ ⟨f1, f2⟩ (fun hHeld => ?_)
  clear hK K
  refine By.hk 8 ?_
  refine wpAnyH_done (by kernel_rfl) ?_ _
  clear hHeld hAt2
  have HB := hid (on bA bB)
  clear bB s0 s1b s2 k1 k2 k0 p0
  go_wp2_with fail
  go_ret
  exact ⟨rfl, g, sts, W, said, G, (HH.out.1.below HB.out).more (by omega) (by omega), GTo.of_below HB.out, fun _ h => h, fun _ _ h => h⟩

set_option maxHeartbeats 3200000 in
theorem does_empty (h : Grp w B n g sts W said G D K) (h1 : 1 ≤ n) (hn : n ≤ 7) (hK : K ≤ 900) (hD : D < 59000) (do_ : Int) (a : Int) (a1 : -9223372036854775808 ≤ a) (a2 : a ≤ 9223372036854775807) (x : Option Addr) (vn vc : Nat) (hW : W = []) (d0 : (do_ == 0) = false) (d1 : (do_ == 1) = false) (d5 : (do_ == 5) = false) :
    Calls Try.prog 10 #[.pointer (some ⟨g.q, 0, none⟩), .agg #[.int .i64 do_, .int .i64 a, .slice x vn vc]] w fun e w' => e = .returned (.bool true) ∧ Hid (Acted w w' B n g sts said G D K) := by
  obtain ⟨lb, lc, hRl, hlc, hptr⟩ := h.ptr h1
  have c0 := h.c0
  rw [hRl] at c0
  have c1 := h.c1
  have c2 := h.c2
  have hqs := h.obj.lt
  have bA : Below w.heap.size w (w.alloc (.cells #[.int .i64 do_, .int .i64 a, .slice x vn vc] 37)).drew := on (al _ _) (Below.refl _ _).drew
  have k0 : (w.alloc (.cells #[.int .i64 do_, .int .i64 a, .slice x vn vc] 37)).drew.cell? ⟨w.heap.size, 0, none⟩ = some (.int .i64 do_) := by go_simp
  have k1 : (w.alloc (.cells #[.int .i64 do_, .int .i64 a, .slice x vn vc] 37)).drew.cell? ⟨w.heap.size, 1, none⟩ = some (.int .i64 a) := by go_simp
  have k2 : (w.alloc (.cells #[.int .i64 do_, .int .i64 a, .slice x vn vc] 37)).drew.cell? ⟨w.heap.size, 2, none⟩ = some (.slice x vn vc) := by go_simp
  have s0 := keep bA c0
  have s1 := keep bA c1
  have s2 := keep bA c2
  have hAt := fun W => ati_any a n h1 (by omega) a1 a2 W
  obtain ⟨xw, cw, hRw, _⟩ := h.wrow.form
  have c1b := h.c1
  rw [hRw, hW] at c1b
  have s1b := keep bA c1b
  have HH := hid (And.intro h (And.intro hptr hRl))
  obtain ⟨q, hq⟩ : ∃ q, g.q = q := ⟨_, rfl⟩
  have Hq := hid hq
  rw [hq] at s0 s1 s2 s1b hqs ⊢
  clear h hptr hRl c0 c1 c2 hq c1b hRw s1 hW
  go_enter Try.func10, Try.ntmps10
  go_wp2_with fail
  refine wp_region_held_drew (S := fun v => v.cell? ⟨q, 0, none⟩ = some (.slice (some ⟨lb, 0, none⟩) n lc) ∧ v.cell? ⟨w.heap.size, 1, none⟩ = some (.int .i64 a)) (by kernel_rfl) ⟨s0, k1⟩ (fun hHeld => ?_)
  generalize (w.alloc (.cells #[.int .i64 do_, .int .i64 a, .slice x vn vc] 37)).drew = wA at *
  refine By.hk 0 ?_
  refine By.hk 1 ?_
  refine By.hk 2 ?_
  refine By.hk 3 ?_
  refine By.hk 4 ?_
  refine By.hk 5 ?_
  refine By.hk 6 ?_
  refine wpAnyH_ready (rs := [7]) (by kernel_rfl) (by simp) ?_
  refine AllReadyH.cons rfl (fun K hK => ?_) AllReadyH.nil
  go_simp
  refine (hAt _).mono ?_
  rintro e w9 ⟨r, hr, rfl, hw9⟩
  subst w9
  refine hK.out _ _ ⟨s0, k1⟩ (fun hHeld => ?_)
  clear hK K
  refine By.hk 8 ?_
  refine wpAnyH_done (by kernel_rfl) ?_ _
  clear hHeld hAt
  have p0 := keep bA (HH.out.2.1 r hr)
  have idn : (r : Int) < (n : Int) := by omega
  obtain ⟨pd, hpd⟩ : ∃ pd, (g.gs r).p = pd := ⟨_, rfl⟩
  have Hpd := hid hpd
  rw [hpd] at p0
  clear hpd
  go_wp2_with fail
  go_ret
  exact ⟨rfl, g, sts, W, said, G, (HH.out.1.below bA).more (by omega) (by omega), GTo.of_below bA, fun _ h => h, fun _ _ h => h⟩

end

end Go.Proofs.Ytfgfjfemaniaiaa.Px

/-
  The statement's does, whatever the act.
  Conditions: the group lies in memory ('Grp').
-/
namespace Go.Proofs.Ytfgfjfemaniaiaa.Px
open Go.RowKit Wi By Fl Ba
set_option linter.unusedVariables false
set_option linter.unusedSimpArgs false
set_option maxRecDepth 100000

theorem does_any {w : World} {B n : Nat} {g : Gl} {sts : Nat → Nd} {W : List Wy} {said : ByteArray → Prop} {G : Gh} {D K : Nat} (h : Grp w B n g sts W said G D K) (h1 : 1 ≤ n) (hn : n ≤ 7) (hK : K ≤ 900) (hD : D < 59000) (do_ a : Int) (a1 : -9223372036854775808 ≤ a) (a2 : a ≤ 9223372036854775807) (x : Option Addr) (vn vc : Nat) (l : List Nat) (hl : Fl.Sl w x vn vc l) (hx : vn ≠ 0 → ∀ ad, x = some ad → ad.block < B) (hv : vn ≤ 140737488351232) :
    Calls Try.prog 10 #[.pointer (some ⟨g.q, 0, none⟩), .agg #[.int .i64 do_, .int .i64 a, .slice x vn vc]] w fun e w' => e = .returned (.bool true) ∧ Hid (Acted w w' B n g sts said G D K) := by
  by_cases d0 : do_ = 0
  · subst d0
    by_cases hv4 : vn ≤ 4096
    · exact does_prop h h1 hn hK hD a a1 a2 x vn vc hv4 l hl hx
    · exact does_long h h1 hn hK hD a a1 a2 x vn vc (by omega) hv
  by_cases d1 : do_ = 1
  · subst d1
    exact does_tick h h1 hn hK hD a a1 a2 x vn vc
  by_cases d5 : do_ = 5
  · subst d5
    exact does_crash h h1 hn hK hD a a1 a2 x vn vc
  have e0 : (do_ == 0) = false := by simpa using d0
  have e1 : (do_ == 1) = false := by simpa using d1
  have e5 : (do_ == 5) = false := by simpa using d5
  by_cases hW : W = []
  · exact does_empty h h1 hn hK hD do_ a a1 a2 x vn vc hW e0 e1 e5
  by_cases d2 : do_ = 2
  · subst d2
    exact does_deliver h h1 hn hK hD a a1 a2 x vn vc hW
  by_cases d3 : do_ = 3
  · subst d3
    exact does_drop h h1 hn hK hD a a1 a2 x vn vc hW
  by_cases d4 : do_ = 4
  · subst d4
    exact does_twice h h1 hn hK hD a a1 a2 x vn vc hW
  exact does_other h h1 hn hK hD do_ a a1 a2 x vn vc hW e0 e1 e5 (by simpa using d2) (by simpa using d3) (by simpa using d4)

end Go.Proofs.Ytfgfjfemaniaiaa.Px

/-
  The statement's agreed: what all know is the same, proposed, and known for ever.
  Conditions: the group lies in memory ('Grp').
-/
namespace Go.Proofs.Ytfgfjfemaniaiaa.Px
open Go.RowKit Wi By Fl Ba
set_option linter.unusedVariables false
set_option linter.unusedSimpArgs false
set_option maxRecDepth 100000

structure BV where
  x : Option Addr
  n : Nat
  c : Nat

def encS (b : BV) : List Value := [.slice b.x b.n b.c]

theorem bsrow : Row 27 35 1 24 encS := by
  have hi : (Try.prog.info? 35).map (fun i => (i.zero, i.size, i.bytes)) = some (some (.slice none 0 0), 1, 24) := by kernel_rfl
  obtain ⟨i0, h1, h2, h3, h4⟩ := info_parts hi
  exact ⟨Try.underlying27, ⟨i0, _, h1, h2, h3, h4, rfl⟩, by decide, by decide, fun a => rfl, fun a v hv => by simp [encS] at hv; subst hv; rfl⟩

/- What is known. -/
structure KnAt (w : World) (B n : Nat) (G : Gh) (R : Value) (L : List BV) : Prop where
  own : Own w B 35 1 encS R L
  few : L.length ≤ 60000
  val : ∀ i v, L[i]? = some v → ∃ d, Ch n G (i + 1) (dbytes d) ∧ Sd n d ∧ Bm w v.x v.n v.c (nat d.val)

section
variable {w w' : World} {B n : Nat} {g : Gl} {sts : Nat → Nd} {W : List Wy} {said : ByteArray → Prop} {G G' : Gh} {D K : Nat} {R : Value} {L : List BV}

theorem KnAt.turns {F : Nat → Prop} (h : KnAt w B n G R L) (t : Turns F w w') (hR : ∀ k, R.ownBlock = some k → ¬ F k) (hu : ∀ k, F k → ¬ Tb w k 5) : KnAt w' B n G R L :=
  ⟨h.own.turns t hR, h.few, fun i v hv => by
    obtain ⟨d, h1, h2, h3⟩ := h.val i v hv
    exact ⟨d, h1, h2, h3.turns t hu⟩⟩
theorem KnAt.below (h : KnAt w B n G R L) (b : Below w.heap.size w w') : KnAt w' B n G R L := h.turns (Turns.of_below (F := fun _ => False) b) (fun _ _ h => h) (fun _ h => h.elim)
theorem KnAt.more (h : KnAt w B n G R L) (k : ChM n G G') : KnAt w B n G' R L := ⟨h.own, h.few, fun i v hv => by
  obtain ⟨d, h1, h2, h3⟩ := h.val i v hv
  exact ⟨d, k _ _ h1, h2, h3⟩⟩

/- How far agreed is. -/
def Agr (w wr : World) (B n : Nat) (g : Gl) (sts : Nat → Nd) (W : List Wy) (said : ByteArray → Prop) (G : Gh) (D K : Nat) (R0 R : Value) (m : Nat) : Prop :=
  ∃ L, KnAt wr B n G R L ∧ m ≤ L.length ∧ Grp wr B n g sts W said G D K ∧ Turns (fun k => R0.ownBlock = some k) w wr ∧ ∀ k, R.ownBlock = some k → R0.ownBlock = some k ∨ w.heap.size ≤ k

theorem Agr.below {wr w2 : World} {R0 R : Value} {m : Nat} (h : Agr w wr B n g sts W said G D K R0 R m) (b : Below wr.heap.size wr w2) : Agr w w2 B n g sts W said G D K R0 R m := by
  obtain ⟨L, h1, h2, h3, h4, h5⟩ := h
  exact ⟨L, h1.below b, h2, h3.below b, h4.trans (Turns.of_below b), h5⟩

theorem Agr.less {wr : World} {R0 R : Value} {m m' : Nat} (h : Agr w wr B n g sts W said G D K R0 R m) (k : m' ≤ m) : Agr w wr B n g sts W said G D K R0 R m' := by
  obtain ⟨L, h1, h2, h3, h4, h5⟩ := h
  exact ⟨L, h1, by omega, h3, h4, h5⟩

/- One more is known. -/
theorem Agr.push {wr : World} {R0 : Value} {m : Nat} {x0 : Option Addr} {c0 : Nat} (h : Agr w wr B n g sts W said G D K R0 (.slice x0 m c0) m) (x : Option Addr) (vn vc : Nat) (d : Dc) (hc : Ch n G (m + 1) (dbytes d)) (hd : Sd n d) (hv : Bm wr x vn vc (nat d.val)) (hm : m < 60000) (hB : B ≤ wr.heap.size) :
    ∃ R' w2, (Builtin.append_ #[27, 27] 27 #[.slice x0 m c0, .slice (some ⟨wr.heap.size, 0, none⟩) 1 1]).run Try.prog (wr.alloc (.cells #[.slice x vn vc] 35)) = .ok R' w2 ∧ Hid (Agr w w2 B n g sts W said G D K R0 R' (m + 1)) ∧ Hid (Bm w2 x vn vc (nat d.val)) := by
  obtain ⟨L, h1, h2, h3, h4, h5⟩ := h
  obtain ⟨x9, c9, e9, _⟩ := h1.own.form
  injection e9 with _ e9 _
  have b1 := al wr (.cells #[.slice x vn vc] 35)
  obtain ⟨x', c', w2, hap, H⟩ := (h1.own.below b1).push bsrow (by simp; omega) ⟨wr.heap.size, 0, none⟩ 1 1 [⟨x, vn, vc⟩] rfl (fun j u hj => by
    rw [add_at, Nat.zero_add]
    rw [flat_one] at hj
    match j, hj with
    | 0, hj => simpa [encS] using hj
    | j + 1, hj => simp [encS] at hj) (by omega)
  obtain ⟨o2, t2, n2⟩ := H.out
  have hty : ∀ k, (Value.slice x0 m c0).ownBlock = some k → Tb (wr.alloc (.cells #[.slice x vn vc] 35)) k 35 := fun k hk => ((h1.own.below b1).tb hk).2
  have hu : ∀ k, (Value.slice x0 m c0).ownBlock = some k → ¬ Tb (wr.alloc (.cells #[.slice x vn vc] 35)) k 5 := fun k hk ht => by
    have := ht.same (hty k hk)
    revert this
    decide
  have hv2 := (hv.below b1).turns t2 hu
  refine ⟨_, w2, hap, ⟨_, ⟨o2, by rw [List.length_append]; simp; omega, fun i v hi => ?_⟩, by rw [List.length_append]; simp; omega, (h3.below b1).turns t2 (fun k hk e => ?_) hu, h4.more (((Turns.of_below b1).trans t2)) (fun k hk => h5 k hk), fun k hk => ?_⟩, hv2⟩
  · by_cases e : i < L.length
    · rw [List.getElem?_append_left e] at hi
      obtain ⟨d', q1, q2, q3⟩ := h1.val i v hi
      exact ⟨d', q1, q2, (q3.below b1).turns t2 hu⟩
    · rw [List.getElem?_append_right (by omega)] at hi
      have e0 : i - L.length = 0 := by
        have := (List.getElem?_eq_some_iff.1 hi).1
        simp at this
        omega
      rw [e0] at hi
      simp at hi
      subst hi
      rw [show i = m by omega]
      exact ⟨d, hc, hd, hv2⟩
  · have := (h3.below b1).ty k hk _ (hty k e)
    revert this
    decide
  · rcases n2 k hk with e | e
    · exact h5 k e
    · refine .inr ?_
      rw [e]
      simp
      have := h4.size
      omega

set_option maxHeartbeats 4800000 in
theorem agreed_any (h : Grp w B n g sts W said G D K) (h1 : 1 ≤ n) (hn : n ≤ 7) (hD : D < 59900) (R0 : Value) (hk : KnAt w B n G R0 L) :
    Calls Try.prog 11 #[.pointer (some ⟨g.q, 0, none⟩), R0] w fun e w' => ∃ R, e = .returned (.tuple #[R, .bool true]) ∧ Hid (Agr w w' B n g sts W said G D K R0 R 0) := by
  have H0 : Hid (Agr w w B n g sts W said G D K R0 R0 0) := ⟨L, hk, Nat.zero_le _, h, Turns.refl _ _, fun k hk => .inl hk⟩
  obtain ⟨lb, lc, hRl, hlc, hptr⟩ := h.ptr h1
  have HH := hid (And.intro h hRl)
  obtain ⟨q, hq⟩ : ∃ q, g.q = q := ⟨_, rfl⟩
  have Hq := hid hq
  rw [hq]
  clear h hk hRl hptr hq
  have HF : Hid (∀ wr R m, Agr w wr B n g sts W said G D K R0 R m → wr.cell? ⟨q, 0, none⟩ = some (.slice (some ⟨lb, 0, none⟩) n lc) ∧ wr.cell? ⟨q, 2, none⟩ = some (.map (some g.sm)) ∧ (∀ i, i < n → wr.cell? ⟨lb, i, none⟩ = some (.pointer (some ⟨(g.gs i).p, 0, none⟩)))) := fun wr R m hA => by
    obtain ⟨L1, a1, a2, a3, a4, a5⟩ := hA
    have c0 := a3.c0
    have c2 := a3.c2
    rw [HH.out.2, Hq.out] at c0
    rw [Hq.out] at c2
    obtain ⟨lb', lc', e', _, p'⟩ := a3.ptr h1
    have e9 := e'.symm.trans HH.out.2
    injection e9 with e9 _ _
    injection e9 with e9
    injection e9 with e9 _ _
    subst e9
    exact ⟨c0, c2, p'⟩
  go_enter Try.func11, Try.ntmps11
  go_wp2_with fail
  go_loopw [1, 6, 7, 8, 9, 10, 11, 12, 13] (fun R i _ _ _ _ _ _ _ wr => ∃ k : Nat, k ≤ n ∧ i = .int .i64 k ∧ Hid (Agr w wr B n g sts W said G D K R0 R 0)) (fun _ i _ _ _ _ _ _ _ _ => n - (intOf i).toNat)
  case atStart => exact ⟨0, by omega, rfl, H0.out⟩
  case round =>
    clear H0
    obtain ⟨k, hkn, rfl, HR⟩ := hrel
    obtain ⟨f0, f2, fp⟩ := HF.out _ _ _ HR.out
    by_cases hlt : k < n
    · have p0 := fp k hlt
      have ikn : (k : Int) < (n : Int) := by omega
      obtain ⟨pd, hpd⟩ : ∃ pd, (g.gs k).p = pd := ⟨_, rfl⟩
      have Hpd := hid hpd
      rw [hpd] at p0
      clear hpd fp
      have hlen0 : (sts k).dec.length ≤ 59900 := by have := ((HH.out.1.all k hlt).rs).dl; omega
      obtain ⟨len, hlen⟩ : ∃ len, (sts k).dec.length = len := ⟨_, rfl⟩
      have Hlen := hid hlen
      rw [hlen] at hlen0
      clear hlen
      have HR0 : Hid (Agr w wr B n g sts W said G D K R0 u1 0) := HR
      obtain ⟨wo, hwo⟩ : ∃ wo, wo = wr := ⟨_, rfl⟩
      subst hwo
      clear HR
      go_wp2_with fail
      clear f0 f2 p0
      go_loopw [1, 7, 8, 9] (fun R i _ _ wr => ∃ j : Nat, j ≤ len ∧ i = .int .i64 ((j : Int) + 1) ∧ Hid (Agr w wr B n g sts W said G D K R0 R j)) (fun _ i _ _ _ => len + 1 - (intOf i).toNat)
      case atStart => exact ⟨0, by omega, rfl, HR0.out⟩
      case round =>
        clear HR0
        obtain ⟨j, hj, rfl, HR⟩ := hrel
        obtain ⟨f0, f2, fp⟩ := HF.out _ _ _ HR.out
        have p0 := fp k hlt
        rw [Hpd.out] at p0
        clear fp
        have hLn : Calls Try.prog 12 #[.pointer (some ⟨pd, 0, none⟩)] wr fun e w' => e = .returned (.int .i64 (len : Int)) ∧ w' = wr := by
          obtain ⟨L1, a1, a2, a3, a4, a5⟩ := HR.out
          have p := len_any (a3.nd k hlt)
          rw [Hpd.out, Hlen.out] at p
          exact p
        by_cases hjl : j < len
        · obtain ⟨d, hd⟩ : ∃ d, (sts k).dec[j]? = some d := ⟨(sts k).dec[j]'(by rw [Hlen.out]; exact hjl), List.getElem?_eq_getElem (by rw [Hlen.out]; exact hjl)⟩
          obtain ⟨dv, hdv⟩ : ∃ dv, dv = d.val := ⟨_, rfl⟩
          have HDC : Hid (Ch n G (j + 1) (dbytes d) ∧ Asked n said d ∧ dv = d.val) := ⟨((HH.out.1.all k hlt).ok.dec j d hd).1, ((HH.out.1.all k hlt).ok.dec j d hd).2, hdv⟩
          have hGt : Calls Try.prog 24 #[.pointer (some ⟨pd, 0, none⟩), .int .i64 ((j : Int) + 1)] wr fun e w' => ∃ y m cy, e = .returned (.tuple #[.slice y m cy, .bool true]) ∧ Hid (m = dv.size ∧ Vl wr w' y m cy (nat dv)) := by
            obtain ⟨L1, a1, a2, a3, a4, a5⟩ := HR.out
            have p := get_yes (a3.nd k hlt) j d hd
            rw [Hpd.out] at p
            rw [hdv]
            exact p
          clear hdv hd
          have ij : (j : Int) + 1 ≤ (len : Int) := by omega
          go_wp2_with (first
            | (go_at_call 12; refine hLn.mono ?_; rintro e w9 ⟨rfl, hw9⟩; subst w9; clear hLn)
            | (go_at_call 24; refine hGt.mono ?_; rintro e w5 ⟨y, m, cy, rfl, H5⟩; clear hGt
               have bD := on H5.out.2.1 ((Below.refl _ _).drew)
               have s2 := keep bD f2
               have cv := conv_sl (H5.out.2.2.1.below ((Below.refl _ _).drew : Below w5.heap.size w5 w5.drew))
               rw [str_nat] at cv
               have HDs : Hid (dv.size ≤ 4096) := by have := HDC.out.2.1.ok.val; rw [HDC.out.2.2]; exact this
               have lk : (Instr.lookup 31 (.map (some g.sm)) (.string dv) false).run Try.prog w5.drew = .ok (.bool true) w5.drew := by
                 obtain ⟨L1, a1, a2, a3, a4, a5⟩ := HR.out
                 refine (a3.below bD).sd.look dv (by have := HDs.out; omega) ?_
                 rw [HDC.out.2.2]
                 exact HDC.out.2.1.said
               have HB := hid bD
               clear bD f2))
          refine wp_region_held_drew (S := fun v => v.cell? ⟨q, 2, none⟩ = some (.map (some g.sm)) ∧ (convert 35 9 (.slice y m cy)).run Try.prog v = .ok (.string dv) v ∧ (Instr.lookup 31 (.map (some g.sm)) (.string dv) false).run Try.prog v = .ok (.bool true) v) (by kernel_rfl) ⟨s2, cv, lk⟩ (fun hHeld => ?_)
          have hVB : Bm w5.drew y m cy (nat dv) := ⟨H5.out.2.2.1.below ((Below.refl _ _).drew : Below w5.heap.size w5 w5.drew), by have h8 := H5.out.1; have h9 := HDs.out; omega, fun a ha => (H5.out.2.2.2 a ha).2.of_heap rfl⟩
          have HVB := hid hVB
          clear hVB H5
          generalize w5.drew = wD at *
          refine By.hk 0 ?_
          refine By.hk 1 ?_
          refine By.hk 2 ?_
          refine By.hk 3 ?_
          refine By.hk 4 ?_
          refine By.hk 5 ?_
          refine By.hk 6 ?_
          refine By.hk 7 ?_
          refine By.hk 8 ?_
          refine By.hk 9 ?_
          refine By.hk 10 ?_
          refine By.hk 11 ?_
          refine wpAnyH_done (by kernel_rfl) ?_ _
          clear hHeld s2 cv lk
          have HAD : Hid (Agr w wD B n g sts W said G D K R0 u1 j) := HR.out.below HB.out
          have hBw : B ≤ wD.heap.size := by
            obtain ⟨L1, a1, a2, a3, a4, a5⟩ := HAD.out
            exact Nat.le_trans a3.low.1 (Nat.le_of_lt a3.obj.lt)
          obtain ⟨x1, l1, c1, hR1, hl1, hle⟩ : ∃ x1 l1 c1, u1 = .slice x1 l1 c1 ∧ l1 ≤ 60000 ∧ j ≤ l1 := by
            obtain ⟨L1, a1, a2, a3, a4, a5⟩ := HAD.out
            obtain ⟨x1, c1, e1, _⟩ := a1.own.form
            exact ⟨x1, _, c1, e1, a1.few, a2⟩
          subst hR1
          have HK : Hid (∀ wE x2 ln c2, Agr w wE B n g sts W said G D K R0 (.slice x2 ln c2) (j + 1) → j < ln ∧ ∃ kb kx km kc, x2 = some ⟨kb, 0, none⟩ ∧ wE.cell? ⟨kb, j, none⟩ = some (.slice kx km kc) ∧ Bm wE kx km kc (nat dv)) := fun wE x2 ln c2 hA => by
            obtain ⟨L1, a1, a2, a3, a4, a5⟩ := hA
            obtain ⟨b, hb⟩ : ∃ b, L1[j]? = some b := ⟨L1[j]'(by omega), List.getElem?_eq_getElem (by omega)⟩
            obtain ⟨kb, kc0, e1, _⟩ := a1.own.there (by intro e; rw [e] at a2; simp at a2)
            injection e1 with e1 e2 e3
            obtain ⟨d8, q1, q2, q3⟩ := a1.val j b hb
            have own := a1.own
            rw [e1] at own
            have hc := own.cell bsrow.len hb (j := 0) rfl
            rw [Nat.mul_one, Nat.add_zero] at hc
            have hdd : d8 = d := dbytes_inj hn q2 (asked_sd HDC.out.2.1) (a3.gi.same q1 HDC.out.1)
            rw [hdd, ← HDC.out.2.2] at q3
            exact ⟨by omega, kb, b.x, b.n, b.c, e1, hc, q3⟩
          by_cases hap : l1 = j
          · have hap2 := hap.symm
            subst hap2
            have i7 : (j : Int) < (j : Int) + 1 := by omega
            obtain ⟨R', w8, hr8, HA8, HV8⟩ := HAD.out.push y m cy d HDC.out.1 (asked_sd HDC.out.2.1) (by rw [← HDC.out.2.2]; exact HVB.out) (by omega) hBw
            obtain ⟨x2, ln, c2, hR2⟩ : ∃ x2 ln c2, R' = .slice x2 ln c2 := by
              obtain ⟨L1, a1, a2, a3, a4, a5⟩ := HA8.out
              obtain ⟨x1, c1, e1, _⟩ := a1.own.form
              exact ⟨x1, _, c1, e1⟩
            subst hR2
            obtain ⟨hln, kb, kx, km, kc, e2, KC, KB⟩ := HK.out _ _ _ _ HA8.out
            subst e2
            have VB := HV8.out
            rw [← HDC.out.2.2] at VB
            have HAg := HA8
            clear HK
            go_wp2_with (at_builtin; refine wpList_append_run rfl _ _ 27 rfl _ _ rfl rfl hr8 ?_; clear hr8)
            generalize w8 = wE at *
            have v1 : wE.cell? ⟨kb, j, none⟩ = some (.slice kx km kc) := KC
            have bG : Below wE.heap.size wE wE.drew := (Below.refl _ _).drew
            have x1 := keep bG v1
            have cv1 := conv_sl (KB.sl.below bG)
            have cv2 := conv_sl (VB.sl.below bG)
            rw [str_nat] at cv1 cv2
            have hjj : wrap64 ((j : Int) + 1 - 1) = (j : Int) := by unfold wrap64; omega
            have hj0 : ((j : Int) + 1 - 1) = (j : Int) := by omega
            have hjl : (j : Int) < (ln : Int) := by omega
            have hwj : IntKind.i64.wrap (j : Int) = (j : Int) := wrap_i64 (by omega) (by omega)
            have hse : (dv.toList == dv.toList) = true := by simp
            go_wp2_with fail
            refine wp_region_held_drew (S := fun v => v.cell? ⟨kb, j, none⟩ = some (.slice kx km kc) ∧ (convert 35 9 (.slice kx km kc)).run Try.prog v = .ok (.string dv) v ∧ (convert 35 9 (.slice y m cy)).run Try.prog v = .ok (.string dv) v) (by kernel_rfl) ⟨x1, cv1, cv2⟩ (fun hHeld => ?_)
            generalize wE.drew = wG at *
            refine By.hk 0 ?_
            refine By.hk 1 ?_
            refine By.hk 2 ?_
            refine By.hk 3 ?_
            refine By.hk 4 ?_
            refine By.hk 5 ?_
            refine By.hk 6 ?_
            refine By.hk 7 ?_
            refine By.hk 8 ?_
            refine wpAnyH_done (by kernel_rfl) ?_ _
            clear hHeld
            go_wp2_with fail
            go_roundw
            case rel => exact ⟨j + 1, by omega, by go_num, HAg.out.below bG⟩
            case measure => simp [intOf]; omega
          · have i7 : ¬ (l1 : Int) < (j : Int) + 1 := by omega
            have HAg : Hid (Agr w wD B n g sts W said G D K R0 (.slice x1 l1 c1) (j + 1)) := by
              obtain ⟨L1, a1, a2, a3, a4, a5⟩ := HAD.out
              obtain ⟨x9, c9, e9, _⟩ := a1.own.form
              injection e9 with _ e9 _
              exact ⟨L1, a1, by omega, a3, a4, a5⟩
            obtain ⟨hln, kb, kx, km, kc, e2, KC, KB⟩ := HK.out _ _ _ _ HAg.out
            subst e2
            have VB := HVB.out
            clear HK
            generalize l1 = ln at *
            generalize wD = wE at *
            have v1 : wE.cell? ⟨kb, j, none⟩ = some (.slice kx km kc) := KC
            have bG : Below wE.heap.size wE wE.drew := (Below.refl _ _).drew
            have x1 := keep bG v1
            have cv1 := conv_sl (KB.sl.below bG)
            have cv2 := conv_sl (VB.sl.below bG)
            rw [str_nat] at cv1 cv2
            have hjj : wrap64 ((j : Int) + 1 - 1) = (j : Int) := by unfold wrap64; omega
            have hj0 : ((j : Int) + 1 - 1) = (j : Int) := by omega
            have hjl : (j : Int) < (ln : Int) := by omega
            have hwj : IntKind.i64.wrap (j : Int) = (j : Int) := wrap_i64 (by omega) (by omega)
            have hse : (dv.toList == dv.toList) = true := by simp
            go_wp2_with fail
            refine wp_region_held_drew (S := fun v => v.cell? ⟨kb, j, none⟩ = some (.slice kx km kc) ∧ (convert 35 9 (.slice kx km kc)).run Try.prog v = .ok (.string dv) v ∧ (convert 35 9 (.slice y m cy)).run Try.prog v = .ok (.string dv) v) (by kernel_rfl) ⟨x1, cv1, cv2⟩ (fun hHeld => ?_)
            generalize wE.drew = wG at *
            refine By.hk 0 ?_
            refine By.hk 1 ?_
            refine By.hk 2 ?_
            refine By.hk 3 ?_
            refine By.hk 4 ?_
            refine By.hk 5 ?_
            refine By.hk 6 ?_
            refine By.hk 7 ?_
            refine By.hk 8 ?_
            refine wpAnyH_done (by kernel_rfl) ?_ _
            clear hHeld
            go_wp2_with fail
            go_roundw
            case rel => exact ⟨j + 1, by omega, by go_num, HAg.out.below bG⟩
            case measure => simp [intOf]; omega
        · obtain rfl : j = len := by omega
          have ij : ¬ (j : Int) + 1 ≤ (j : Int) := by omega
          have bD : Below wr.heap.size wr wr.drew := (Below.refl _ _).drew
          have s0 := keep bD f0
          have s1 := keep bD p0
          have HAD : Hid (Agr w wr.drew B n g sts W said G D K R0 u1 0) := (HR.out.below bD).less (Nat.zero_le _)
          have hLn2 : Calls Try.prog 12 #[.pointer (some ⟨pd, 0, none⟩)] wr.drew fun e w' => e = .returned (.int .i64 (j : Int)) ∧ w' = wr.drew := by
            obtain ⟨L1, a1, a2, a3, a4, a5⟩ := HAD.out
            have p := len_any (a3.nd k hlt)
            rw [Hpd.out, Hlen.out] at p
            exact p
          have hG1 : ∀ i : Int, i < 1 ∨ (j : Int) < i → Calls Try.prog 24 #[.pointer (some ⟨pd, 0, none⟩), .int .i64 i] wr.drew fun e w' => e = .returned (.tuple #[.slice none 0 0, .bool false]) ∧ w' = wr.drew := fun i hi => by
            obtain ⟨L1, a1, a2, a3, a4, a5⟩ := HAD.out
            have p := get_no (a3.nd k hlt) i (by rw [Hlen.out]; exact hi)
            rw [Hpd.out] at p
            exact p
          have hG2 := hG1 ((j : Int) + 1) (.inr (by omega))
          have hG0 := hG1 0 (.inl (by omega))
          have hw1 : IntKind.i64.wrap ((j : Int) + 1) = (j : Int) + 1 := wrap_i64 (by omega) (by omega)
          clear hG1
          go_wp2_with (go_at_call 12; refine hLn.mono ?_; rintro e w9 ⟨rfl, hw9⟩; subst w9; clear hLn)
          refine wp_region_held_drew (S := fun v => v.cell? ⟨q, 0, none⟩ = some (.slice (some ⟨lb, 0, none⟩) n lc) ∧ v.cell? ⟨lb, k, none⟩ = some (.pointer (some ⟨pd, 0, none⟩))) (by kernel_rfl) ⟨s0, s1⟩ (fun hHeld => ?_)
          generalize wr.drew = wD at *
          refine By.hk 0 ?_
          refine By.hk 1 ?_
          refine By.hk 2 ?_
          refine By.hk 3 ?_
          refine By.hk 4 ?_
          refine By.hk 5 ?_
          refine By.hk 6 ?_
          refine By.hk 7 ?_
          refine By.hk 8 ?_
          refine By.hk 9 ?_
          refine By.hk 10 ?_
          refine By.hk 11 ?_
          refine By.hk 12 ?_
          refine By.hk 13 ?_
          refine wpAnyH_ready (rs := [14]) (by kernel_rfl) (by simp) ?_
          refine AllReadyH.cons rfl (fun K hK => ?_) AllReadyH.nil
          go_simp
          refine hLn2.mono ?_
          rintro e w9 ⟨rfl, hw9⟩
          subst w9
          refine hK.out _ _ ⟨s0, s1⟩ (fun hHeld => ?_)
          clear hK K
          refine By.hk 15 ?_
          refine wpAnyH_ready (rs := [16]) (by kernel_rfl) (by simp) ?_
          refine AllReadyH.cons rfl (fun K hK => ?_) AllReadyH.nil
          go_simp
          refine hG2.mono ?_
          rintro e w9 ⟨rfl, hw9⟩
          subst w9
          refine hK.out _ _ ⟨s0, s1⟩ (fun hHeld => ?_)
          clear hK K
          refine By.hk 17 ?_
          refine By.hk 18 ?_
          refine By.hk 19 ?_
          refine By.hk 20 ?_
          refine By.hk 21 ?_
          refine wpAnyH_done (by kernel_rfl) ?_ _
          clear hHeld
          go_wp2_with (go_at_call 24; refine hG0.mono ?_; rintro e w9 ⟨rfl, hw9⟩; subst w9; clear hG0)
          go_roundw
          case rel => exact ⟨k + 1, by omega, by go_num, HAD.out⟩
          case measure => simp [intOf]; omega
    · obtain rfl : k = n := by omega
      have ikn : ¬ (k : Int) < (k : Int) := by omega
      go_wp2_with fail
      go_ret2
      exact ⟨_, rfl, HR.out⟩

end

end Go.Proofs.Ytfgfjfemaniaiaa.Px
