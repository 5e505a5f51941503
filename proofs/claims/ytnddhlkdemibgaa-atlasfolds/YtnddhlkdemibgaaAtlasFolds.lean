/-
  Behind any changes the map is what each, one behind the other, makes of it: 'mooringlaw13.AtlasFolds' returns true and leaves its arguments as they were.
  Conditions: none.
-/
import Derived.Test.YtnddhlkdemibgaaRows
import Derived.WalkKit
import Derived.ProofKit
import Derived.OpenShut
import Derived.SizedLaws
import Derived.ShutString
import Derived.ChangeOld
import Derived.Below
import Derived.Test.YtnddhlkdemibgaaJ01
import Derived.Test.YtnddhlkdemibgaaJ03
import Derived.Test.YtnddhlkdemibgaaJ06
import Derived.Test.YtnddhlkdemibgaaJ11
import Derived.Test.YtnddhlkdemibgaaJ12
namespace Go.Proofs.Ytnddhlkdemibgaa.atlasFolds
open Go.ChangeShapes Go.WideShapes Go.ChangeAt Go.RowKit By
open Fl At
set_option linter.unusedVariables false
set_option linter.unusedSimpArgs false
set_option maxRecDepth 100000

theorem own : ownKnob Try.prog.godebug = none := by kernel_rfl
theorem laidOut : laidOutB Try.prog = true := by kernel_rfl

theorem fold_may : ∀ (l : List Ch) (m : Mp), mayM m = true → mayM (foldP m l).2 = true
  | [], m, h => h
  | c :: l, m, h => by
    refine fold_may l _ ?_
    by_cases h0 : (advP m c).1 = 0
    · exact (adv_may h h0).1
    · have : (advP m c).2 = m := by
        unfold advP at h0 ⊢
        split
        · rfl
        · split
          · rename_i h1 h2
            simp [h1, h2] at h0
          · rfl
      rw [this]
      exact h

theorem adv_same {m : Mp} {c : Ch} (h0 : (advP m c).1 ≠ 0) : (advP m c).2 = m := by
  unfold advP at h0 ⊢
  split
  · rfl
  · split
    · rename_i h1 h2
      simp [h1, h2] at h0
    · rfl

theorem walk_long (V0 : Pool) (x : Option Addr) (n c : Nat) (l : List Ch) (w : World) (h : Cs w x n c l) (hn : 300 < n) : Calls Try.prog 5 #[vP V0, .slice x n c] w fun e w' => e = .returned (.bool true) ∧ Below w.heap.size w w' := by
  have hW := fun W => awake_any W
  have hi : (300 : Int) < (n : Int) := by omega
  obtain ⟨k, m, g, d⟩ := V0
  unfold vP
  clear h
  go_enter Try.func5, Try.ntmps5
  go_wp2_with (go_at_call 19; refine (hW _).mono ?_; rintro e w7 ⟨rfl, hb7⟩; clear hW)
  go_ret
  exact ⟨rfl, on (al _ _) hb7⟩

theorem walk_no (V0 : Pool) (x : Option Addr) (n c : Nat) (l : List Ch) (w : World) (hk : V0.k ≤ 9223372036854775807) (h : Cs w x n c l) (hn : n ≤ 300) (hp : poolB V0 = false) : Calls Try.prog 5 #[vP V0, .slice x n c] w fun e w' => e = .returned (.bool true) ∧ Below w.heap.size w w' := by
  have hW := fun W => awake_any W
  have hF := fun W => fold_no (w := W) (x := x) (n := n) (c := c) V0 hk hp
  have hP := fun W => rpool_any V0 W
  rw [hp] at hP
  have hi : ¬ (300 : Int) < (n : Int) := by omega
  obtain ⟨k, m, g, d⟩ := V0
  unfold vP vM noP at *
  dsimp only at hF hP ⊢
  clear h hk hp
  go_enter Try.func5, Try.ntmps5
  go_wp2_with (first
    | (
       go_at_call 23; refine (hF _).mono ?_; rintro e w1 ⟨rfl, hb1⟩; clear hF
       have k0 := keep hb1 (b := w.heap.size) (o := 0) (x := .int .i64 k) (by first | assumption | go_simp)
       have k1 := keep hb1 (b := w.heap.size) (o := 1) (x := .int .i64 m) (by first | assumption | go_simp)
       have k2 := keep hb1 (b := w.heap.size) (o := 2) (x := .int .i64 g) (by first | assumption | go_simp)
       have k3 := keep hb1 (b := w.heap.size) (o := 3) (x := .int .i64 d) (by first | assumption | go_simp)
       have l0 : w.heap.size < w1.heap.size := cell_lt' k0
       have B1 := on (on (al w _) hb1) (al w1 (.cells #[.int .i64 0, .int .i64 0, .int .i64 0, .int .i64 0, .int .i64 0, .slice none 0 0] 26))
       clear hb1)
    | (
       go_at_call 13; refine (hP _).mono ?_; rintro e w2 ⟨rfl, hb2⟩; clear hP
       have B2 := on B1 hb2
       clear hb2)
    | (
       go_at_call 19; refine (hW _).mono ?_; rintro e w7 ⟨rfl, hb7⟩; clear hW))
  go_ret
  exact ⟨rfl, on B2 hb7⟩

theorem foldP_app : ∀ (a b : List Ch) (m : Mp), foldP m (a ++ b) = ((foldP m a).1 ++ (foldP (foldP m a).2 b).1, (foldP (foldP m a).2 b).2)
  | [], b, m => by simp [foldP]
  | c :: a, b, m => by simp [foldP, foldP_app a b]

theorem fold_get {l : List Ch} {q : Nat} {c : Ch} (m : Mp) (h : l[q]? = some c) : (foldP m l).1[q]? = some (advP (foldP m (l.take q)).2 c).1 := by
  have hq := (List.getElem?_eq_some_iff.1 h).1
  have e := foldP_app (l.take (q + 1)) (l.drop (q + 1)) m
  rw [List.take_append_drop] at e
  rw [e, fold_take m h]
  dsimp only
  have hl : (foldP m (l.take q)).1.length = q := by rw [foldP_len, List.length_take]; omega
  rw [List.append_assoc, List.getElem?_append_right (by omega), hl, Nat.sub_self]
  simp

theorem os_ne {w : World} {y : Option Addr} {yn yc wb : Nat} {L : List Osd} {cs : Array Value} {t : TypeId} {z : Nat × Nat} (h : At.Os w y yn yc L) (hb : w.heap[wb]? = some (.cells cs t z)) (hs : cs.size ≤ 7) : yn ≠ 0 → ∀ a, y = some a → a.block ≠ wb := by
  intro h0 a ha e
  rcases h.row with q | ⟨b, o, e1, _, hc⟩
  · exact h0 q
  · rw [e1] at ha
    injection ha with ha
    subst ha
    have e2 : b = wb := e
    subst e2
    obtain ⟨u, hu⟩ : ∃ u, L[0]? = some u := ⟨L[0]'(by have := h.len; omega), List.getElem?_eq_getElem (by have := h.len; omega)⟩
    have := hc 0 u hu 7 (.int .i64 u.rack) rfl
    simp only [World.cell?, hb] at this
    rw [Array.getElem?_eq_none (by omega)] at this
    cases this

structure FA (W3 wr : World) (wb q : Nat) (m0 : Mp) (l : List Ch) (y : Option Addr) (yn yc : Nat) : Prop where
  blk : wr.heap[wb]? = some (.cells #[.int .i64 (foldP m0 (l.take q)).2.ep, .int .i64 (foldP m0 (l.take q)).2.pool.k, .int .i64 (foldP m0 (l.take q)).2.pool.m, .int .i64 (foldP m0 (l.take q)).2.pool.pgs, .int .i64 (foldP m0 (l.take q)).2.pool.dom, .slice y yn yc] 26 (0, 0))
  os : At.Os wr y yn yc (foldP m0 (l.take q)).2.osds
  turns : Turns (fun k => k = wb) W3 wr

theorem FA.below {W3 wr wr' : World} {wb q : Nat} {m0 : Mp} {l : List Ch} {y : Option Addr} {yn yc : Nat} (h : FA W3 wr wb q m0 l y yn yc) (b : Below wr.heap.size wr wr') : FA W3 wr' wb q m0 l y yn yc :=
  ⟨(b.block _ (Array.getElem?_eq_some_iff.1 h.blk).1).trans h.blk, h.os.below b, h.turns.trans (Turns.of_below b)⟩

theorem FA.cell {W3 wr : World} {wb q : Nat} {m0 : Mp} {l : List Ch} {y : Option Addr} {yn yc : Nat} (h : FA W3 wr wb q m0 l y yn yc) {b j : Nat} {v : Value} (hb : b ≠ wb) (hv : W3.cell? ⟨b, j, none⟩ = some v) : wr.cell? ⟨b, j, none⟩ = some v :=
  (World.cell?_of_block (a := ⟨b, j, none⟩) (h.turns.block b (cell_lt' hv) hb)).trans hv

/- A change that is refused. -/
theorem FA.stay {W3 wr : World} {wb q : Nat} {m0 : Mp} {l : List Ch} {c : Ch} {y : Option Addr} {yn yc : Nat} (h : FA W3 wr wb q m0 l y yn yc) (hc : l[q]? = some c) (h0 : (advP (foldP m0 (l.take q)).2 c).1 ≠ 0) : FA W3 wr wb (q + 1) m0 l y yn yc := by
  have e : (foldP m0 (l.take (q + 1))).2 = (foldP m0 (l.take q)).2 := by rw [fold_take m0 hc]; exact adv_same h0
  exact ⟨by rw [e]; exact h.blk, by rw [e]; exact h.os, h.turns⟩

/- One that is taken. -/
theorem FA.step {W3 wr : World} {wb q : Nat} {m0 m' : Mp} {l : List Ch} {c : Ch} {y : Option Addr} {yn yc : Nat} {z : Option Addr} {zn zc : Nat} (h : FA W3 wr wb q m0 l y yn yc) (hc : l[q]? = some c) (hm : m' = (advP (foldP m0 (l.take q)).2 c).2) (ho : At.Os wr z zn zc m'.osds) :
    FA W3 ((((((wr.setCell ⟨wb, 0, none⟩ (.int .i64 m'.ep)).setCell ⟨wb, 1, none⟩ (.int .i64 m'.pool.k)).setCell ⟨wb, 2, none⟩ (.int .i64 m'.pool.m)).setCell ⟨wb, 3, none⟩ (.int .i64 m'.pool.pgs)).setCell ⟨wb, 4, none⟩ (.int .i64 m'.pool.dom)).setCell ⟨wb, 5, none⟩ (.slice z zn zc)) wb (q + 1) m0 l z zn zc := by
  have e : (foldP m0 (l.take (q + 1))).2 = m' := by rw [fold_take m0 hc, hm]
  have T : Turns (fun k => k = wb) wr _ := turns_put (turns_put (turns_put (turns_put (turns_put (turns_put (Turns.refl (fun k => k = wb) wr) 0 (.int .i64 m'.ep)) 1 (.int .i64 m'.pool.k)) 2 (.int .i64 m'.pool.m)) 3 (.int .i64 m'.pool.pgs)) 4 (.int .i64 m'.pool.dom)) 5 (.slice z zn zc)
  refine ⟨?_, ?_, h.turns.trans T⟩
  · rw [e]
    exact heap_set (heap_set (heap_set (heap_set (heap_set (heap_set h.blk _) _) _) _) _) _
  · rw [e]
    exact ho.turns T (os_ne ho h.blk (by simp))

theorem app_one {m : Mp} {c : Ch} (h : mayM m = true) : (applyP m c).1 = (advP m c).1 ∧ ((advP m c).1 = 0 → (applyP m c).2 = (advP m c).2) := by
  by_cases h0 : (advP m c).1 = 0
  · rw [apply_ok h h0]; exact ⟨rfl, fun _ => rfl⟩
  · rw [apply_err h h0]; exact ⟨rfl, fun e => absurd e h0⟩

set_option maxHeartbeats 12800000 in
theorem walk_yes (V0 : Pool) (x : Option Addr) (n c : Nat) (l : List Ch) (w : World) (hk : V0.k ≤ 9223372036854775807) (h : Cs w x n c l) (hn : n ≤ 300) (hp : poolB V0 = true) : Calls Try.prog 5 #[vP V0, .slice x n c] w fun e w' => e = .returned (.bool true) ∧ Below w.heap.size w w' := by
  have hW := fun W => awake_any W
  have HCs := hid h
  have HL := hid h.len
  have b0 := al w (.cells #[.int .i64 V0.k, .int .i64 V0.m, .int .i64 V0.pgs, .int .i64 V0.dom] 23)
  have hF := fold_yes V0 hk hp (h.below b0) hn
  have hP := fun W => rpool_any V0 W
  rw [hp] at hP
  obtain ⟨m0, hm0⟩ : ∃ m0, m0 = (⟨0, V0, []⟩ : Mp) := ⟨_, rfl⟩
  rw [← hm0] at hF
  have HM0 := hid hm0
  have HMay : Hid (∀ q, mayM (foldP m0 (l.take q)).2 = true) := fun q => fold_may _ _ (by rw [HM0.out]; exact may_mk ⟨⟨by show (0 : Int) ≤ 0; omega, by show (0 : Int) ≤ 1048576; omega⟩, hp, by show 0 ≤ 64; omega, fun i a ha => by simp at ha⟩)
  obtain ⟨T, mf, hTm⟩ : ∃ T mf, foldP m0 l = (T, mf) := ⟨_, _, rfl⟩
  have HTm := hid hTm
  rw [hTm] at hF
  have hS := fun W (y : Option Addr) (yn yc : Nat) (z : Option Addr) (zn zc : Nat) (h1 : At.Os W y yn yc mf.osds) (h2 : At.Os W z zn zc mf.osds) => rsame_any mf mf h1 h2
  rw [(eqM_iff _ _).2 rfl] at hS
  have hi : ¬ (300 : Int) < (n : Int) := by omega
  have HB0 := hid b0
  clear hTm hm0 hk hp h b0
  obtain ⟨k, m, g, d⟩ := V0
  unfold vP vM at *
  dsimp only at hF hP hS HB0 ⊢
  go_enter Try.func5, Try.ntmps5
  go_wp2_with (first
    | (
       go_at_call 23; refine hF.mono ?_; rintro e w1 ⟨fy, fyn, fyc, gt, rfl, H1⟩; clear hF
       have hb1 := H1.out.1
       have k0 := keep hb1 (b := w.heap.size) (o := 0) (x := .int .i64 k) (by first | assumption | go_simp)
       have k1 := keep hb1 (b := w.heap.size) (o := 1) (x := .int .i64 m) (by first | assumption | go_simp)
       have k2 := keep hb1 (b := w.heap.size) (o := 2) (x := .int .i64 g) (by first | assumption | go_simp)
       have k3 := keep hb1 (b := w.heap.size) (o := 3) (x := .int .i64 d) (by first | assumption | go_simp)
       have l0 : w.heap.size < w1.heap.size := cell_lt' k0
       have bm := al w1 (.cells #[.int .i64 mf.ep, .int .i64 mf.pool.k, .int .i64 mf.pool.m, .int .i64 mf.pool.pgs, .int .i64 mf.pool.dom, .slice fy fyn fyc] 26)
       have B1 := on (on HB0.out hb1) bm
       have NT := H1.out.2.2.1.below bm
       have OM := (own_os H1.out.2.1 (by have := H1.out.2.2.2.2; omega)).below bm
       clear hb1)
    | (
       go_at_call 13; refine (hP _).mono ?_; rintro e w2 ⟨rfl, hb2⟩; clear hP
       have k0 := keep hb2 (b := w.heap.size) (o := 0) (x := .int .i64 k) (by first | assumption | go_simp)
       have k1 := keep hb2 (b := w.heap.size) (o := 1) (x := .int .i64 m) (by first | assumption | go_simp)
       have k2 := keep hb2 (b := w.heap.size) (o := 2) (x := .int .i64 g) (by first | assumption | go_simp)
       have k3 := keep hb2 (b := w.heap.size) (o := 3) (x := .int .i64 d) (by first | assumption | go_simp)
       have em2 := (hb2.block _ (by simp)).trans (heap_alloc_new w1 (.cells #[.int .i64 mf.ep, .int .i64 mf.pool.k, .int .i64 mf.pool.m, .int .i64 mf.pool.pgs, .int .i64 mf.pool.dom, .slice fy fyn fyc] 26))
       have l2 : w.heap.size < w2.heap.size := cell_lt' k0
       have l3 : w1.heap.size < w2.heap.size := (Array.getElem?_eq_some_iff.1 em2).1))
  obtain ⟨W3, hW3⟩ : ∃ W3, W3 = w2.alloc (.cells #[.int .i64 0, .int .i64 k, .int .i64 m, .int .i64 g, .int .i64 d, .slice none 0 0] 26) := ⟨_, rfl⟩
  have b3 : Below w2.heap.size w2 W3 := by rw [hW3]; exact al _ _
  have e3 : W3.heap[w2.heap.size]? = some (.cells #[.int .i64 0, .int .i64 k, .int .i64 m, .int .i64 g, .int .i64 d, .slice none 0 0] 26 (0, 0)) := by rw [hW3]; exact heap_alloc_new _ _
  have HT := hid ((NT.below hb2).below b3)
  have HMB := hid ((b3.block _ l3).trans em2)
  have HOM := hid ((OM.below hb2).below b3)
  have HB3 := hid (on (on B1 hb2) b3)
  have HFA0 : Hid (FA W3 W3 w2.heap.size 0 m0 l none 0 0) := ⟨by rw [HM0.out]; exact e3, by rw [HM0.out]; exact os_none _, Turns.refl _ _⟩
  have lgt : gt < w2.heap.size := (NT.below hb2).lt
  rw [← hW3]
  clear hW3 b3 e3 NT hb2 em2 OM B1 H1 k0 k1 k2 k3
  go_loopw [9, 10, 11] (fun i _ _ wr => ∃ q : Nat, q ≤ n ∧ i = .int .i64 q ∧ Hid (∃ y yn yc, FA W3 wr w2.heap.size q m0 l y yn yc)) (fun i _ _ _ => n - (intOf i).toNat)
  case atStart => exact ⟨0, by omega, rfl, _, _, _, HFA0.out⟩
  case round =>
    obtain ⟨q, hq, rfl, HR⟩ := hrel
    by_cases hlt : q < n
    · have hqI : (q : Int) < (n : Int) := by omega
      obtain ⟨y, yn, yc, hFA⟩ := HR.out
      have HFA := hid hFA
      obtain ⟨cc, hcc⟩ : ∃ a, l[q]? = some a := ⟨l[q]'(by have := HL.out; omega), List.getElem?_eq_getElem (by have := HL.out; omega)⟩
      rcases HCs.out.row with h0 | ⟨b, ob, rfl, hbl, hcell⟩
      · omega
      have hu := Cs.at (fun k a hk j v hv => hFA.cell (by omega) (keep HB3.out (hcell k a hk j v hv))) hcc
      obtain ⟨f0, f1, f2, f3, f4, f5, f6, f7, f8⟩ := hu
      have HCC := hid hcc
      have hone := app_one (c := cc) (HMay.out q)
      have hget := fold_get m0 hcc
      rw [HTm.out] at hget
      obtain ⟨wm, hwm⟩ : ∃ wm, wm = (foldP m0 (l.take q)).2 := ⟨_, rfl⟩
      have HWM := hid hwm
      rw [← hwm] at hone hget
      have hAp := fun W (y : Option Addr) (yn yc : Nat) (h1 : At.Os W y yn yc wm.osds) => rapply_any wm cc h1
      obtain ⟨⟨r1, r2⟩, hr⟩ : ∃ r, r = applyP wm cc := ⟨_, rfl⟩
      rw [← hr] at hAp hone
      dsimp only at hone
      rw [← hone.1] at hget
      have HTq := hid hget
      have hblk := hFA.blk
      rw [← hwm] at hblk
      have e0 : wr.cell? ⟨w2.heap.size, 0, none⟩ = some (.int .i64 wm.ep) := cell_heap hblk rfl
      have e1 : wr.cell? ⟨w2.heap.size, 1, none⟩ = some (.int .i64 wm.pool.k) := cell_heap hblk rfl
      have e2 : wr.cell? ⟨w2.heap.size, 2, none⟩ = some (.int .i64 wm.pool.m) := cell_heap hblk rfl
      have e3 : wr.cell? ⟨w2.heap.size, 3, none⟩ = some (.int .i64 wm.pool.pgs) := cell_heap hblk rfl
      have e4 : wr.cell? ⟨w2.heap.size, 4, none⟩ = some (.int .i64 wm.pool.dom) := cell_heap hblk rfl
      have e5 : wr.cell? ⟨w2.heap.size, 5, none⟩ = some (.slice y yn yc) := cell_heap hblk rfl
      have HON := hid hone
      clear hFA hcell hcc hget hwm hr hblk hone
      obtain ⟨ck, c0, c1, c2, c3, c4, c5, c6, c7⟩ := cc
      unfold vC vM at hAp
      dsimp only at f0 f1 f2 f3 f4 f5 f6 f7 f8 hAp
      have lb2 : b < w2.heap.size := by omega
      have lw1 : w2.heap.size < wr.heap.size := cell_lt' e0
      have lw2 : b < wr.heap.size := cell_lt' f0
      by_cases hz : r1 = 0
      · subst hz
        have HM2 : Hid (r2 = (advP (foldP m0 (l.take q)).2 ⟨ck, ⟨c0, c1, c2, c3, c4, c5, c6, c7⟩⟩).2) := by
          rw [← HWM.out]
          exact HON.out.2 HON.out.1.symm
        go_wp2_with fail
        refine wp_region_held_drew (S := fun v => v.cell? ⟨w2.heap.size, 0, none⟩ = some (.int .i64 wm.ep) ∧ v.cell? ⟨w2.heap.size, 1, none⟩ = some (.int .i64 wm.pool.k) ∧ v.cell? ⟨w2.heap.size, 2, none⟩ = some (.int .i64 wm.pool.m) ∧ v.cell? ⟨w2.heap.size, 3, none⟩ = some (.int .i64 wm.pool.pgs) ∧ v.cell? ⟨w2.heap.size, 4, none⟩ = some (.int .i64 wm.pool.dom) ∧ v.cell? ⟨w2.heap.size, 5, none⟩ = some (.slice y yn yc) ∧ v.cell? ⟨b, ob + q * 9, none⟩ = some (.int .i64 ck) ∧ v.cell? ⟨b, ob + q * 9 + 1, none⟩ = some (.int .i64 c0) ∧ v.cell? ⟨b, ob + q * 9 + 2, none⟩ = some (.bool c1) ∧ v.cell? ⟨b, ob + q * 9 + 3, none⟩ = some (.bool c2) ∧ v.cell? ⟨b, ob + q * 9 + 4, none⟩ = some (.int .i64 c3) ∧ v.cell? ⟨b, ob + q * 9 + 5, none⟩ = some (.int .i64 c4) ∧ v.cell? ⟨b, ob + q * 9 + 6, none⟩ = some (.int .i64 c5) ∧ v.cell? ⟨b, ob + q * 9 + 7, none⟩ = some (.int .i64 c6) ∧ v.cell? ⟨b, ob + q * 9 + 8, none⟩ = some (.int .i64 c7)) (by kernel_rfl) ⟨keep (Below.refl _ wr).drew e0, keep (Below.refl _ wr).drew e1, keep (Below.refl _ wr).drew e2, keep (Below.refl _ wr).drew e3, keep (Below.refl _ wr).drew e4, keep (Below.refl _ wr).drew e5, keep (Below.refl _ wr).drew f0, keep (Below.refl _ wr).drew f1, keep (Below.refl _ wr).drew f2, keep (Below.refl _ wr).drew f3, keep (Below.refl _ wr).drew f4, keep (Below.refl _ wr).drew f5, keep (Below.refl _ wr).drew f6, keep (Below.refl _ wr).drew f7, keep (Below.refl _ wr).drew f8⟩ (fun hHeld => ?_)
        obtain ⟨wD, hwD⟩ : ∃ wD, wD = wr.drew := ⟨_, rfl⟩
        have hbD : Below wr.heap.size wr wD := by rw [hwD]; exact (Below.refl _ _).drew
        rw [← hwD] at hHeld ⊢
        clear hwD
        have hFD := HFA.out.below hbD
        have HFD := hid hFD
        have e0d := keep hbD e0
        have e1d := keep hbD e1
        have e2d := keep hbD e2
        have e3d := keep hbD e3
        have e4d := keep hbD e4
        have e5d := keep hbD e5
        have f0d := keep hbD f0
        have f1d := keep hbD f1
        have f2d := keep hbD f2
        have f3d := keep hbD f3
        have f4d := keep hbD f4
        have f5d := keep hbD f5
        have f6d := keep hbD f6
        have f7d := keep hbD f7
        have f8d := keep hbD f8
        refine wpAnyH_take (i := 0) (v := ?_) rfl (by kernel_rfl) (by kernel_rfl) (by kernel_rfl) (fun _ _ _ h => h) (Or.inl ⟨by rfl, ?_⟩) (by assumption) ?_
        case refine_2 => (intro w hSw; (try dsimp only at hSw); go_simp; (try with_reducible rfl))
        (try simp only [Act.put, List.getElem_toArray, List.getElem_cons_succ, List.getElem_cons_zero, List.setIfInBounds_toArray, List.set_cons_zero, List.set_cons_succ])
        refine wpAnyH_take (i := 1) (v := ?_) rfl (by kernel_rfl) (by kernel_rfl) (by kernel_rfl) (fun _ _ _ h => h) (Or.inl ⟨by rfl, ?_⟩) (by assumption) ?_
        case refine_2 => (intro w hSw; (try dsimp only at hSw); go_simp; (try with_reducible rfl))
        (try simp only [Act.put, List.getElem_toArray, List.getElem_cons_succ, List.getElem_cons_zero, List.setIfInBounds_toArray, List.set_cons_zero, List.set_cons_succ])
        refine wpAnyH_take (i := 2) (v := ?_) rfl (by kernel_rfl) (by kernel_rfl) (by kernel_rfl) (fun _ _ _ h => h) (Or.inl ⟨by rfl, ?_⟩) (by assumption) ?_
        case refine_2 => (intro w hSw; (try dsimp only at hSw); go_simp; (try with_reducible rfl))
        (try simp only [Act.put, List.getElem_toArray, List.getElem_cons_succ, List.getElem_cons_zero, List.setIfInBounds_toArray, List.set_cons_zero, List.set_cons_succ])
        refine wpAnyH_take (i := 3) (v := ?_) rfl (by kernel_rfl) (by kernel_rfl) (by kernel_rfl) (fun _ _ _ h => h) (Or.inl ⟨by rfl, ?_⟩) (by assumption) ?_
        case refine_2 => (intro w hSw; (try dsimp only at hSw); go_simp; (try with_reducible rfl))
        (try simp only [Act.put, List.getElem_toArray, List.getElem_cons_succ, List.getElem_cons_zero, List.setIfInBounds_toArray, List.set_cons_zero, List.set_cons_succ])
        refine wpAnyH_take (i := 4) (v := ?_) rfl (by kernel_rfl) (by kernel_rfl) (by kernel_rfl) (fun _ _ _ h => h) (Or.inl ⟨by rfl, ?_⟩) (by assumption) ?_
        case refine_2 => (intro w hSw; (try dsimp only at hSw); go_simp; (try with_reducible rfl))
        (try simp only [Act.put, List.getElem_toArray, List.getElem_cons_succ, List.getElem_cons_zero, List.setIfInBounds_toArray, List.set_cons_zero, List.set_cons_succ])
        refine wpAnyH_ready (rs := [5, 9]) (by kernel_rfl) (by simp) ?_
        refine AllReadyH.cons rfl (fun K hK => ?_) (AllReadyH.cons rfl (fun K hK => ?_) AllReadyH.nil)
        · go_simp
          refine (hAp wD y yn yc (by rw [HWM.out]; exact HFD.out.os)).mono ?_
          rintro e w5 ⟨z, zn, zc, rfl, H5⟩
          have hb5 := H5.out.1
          have bA := al w5 (.cells #[.int .i64 0, .int .i64 0, .int .i64 0, .int .i64 0, .int .i64 0, .slice none 0 0] 26)
          have bF := al w5 (.cells #[.int .i64 r2.ep, .int .i64 r2.pool.k, .int .i64 r2.pool.m, .int .i64 r2.pool.pgs, .int .i64 r2.pool.dom, .slice z zn zc] 26)
          refine hK.out _ _ ⟨keep hb5 e0d, keep hb5 e1d, keep hb5 e2d, keep hb5 e3d, keep hb5 e4d, keep hb5 e5d, keep hb5 f0d, keep hb5 f1d, keep hb5 f2d, keep hb5 f3d, keep hb5 f4d, keep hb5 f5d, keep hb5 f6d, keep hb5 f7d, keep hb5 f8d⟩ (fun hHeld => ?_)
          clear hK K
          refine wpAnyH_take (i := 6) (v := ?_) rfl (by kernel_rfl) (by kernel_rfl) (by kernel_rfl) (fun _ _ _ h => h) (Or.inl ⟨by rfl, ?_⟩) (by assumption) ?_
          case refine_2 => (intro w hSw; (try dsimp only at hSw); go_simp; (try with_reducible rfl))
          (try simp only [Act.put, List.getElem_toArray, List.getElem_cons_succ, List.getElem_cons_zero, List.setIfInBounds_toArray, List.set_cons_zero, List.set_cons_succ])
          refine wpAnyH_take (i := 7) (v := ?_) rfl (by kernel_rfl) (by kernel_rfl) (by kernel_rfl) (fun _ _ _ h => h) (Or.inl ⟨by rfl, ?_⟩) (by assumption) ?_
          case refine_2 => (intro w hSw; (try dsimp only at hSw); go_simp; (try with_reducible rfl))
          (try simp only [Act.put, List.getElem_toArray, List.getElem_cons_succ, List.getElem_cons_zero, List.setIfInBounds_toArray, List.set_cons_zero, List.set_cons_succ])
          refine wpAnyH_take (i := 8) (v := ?_) rfl (by kernel_rfl) (by kernel_rfl) (by kernel_rfl) (fun _ _ _ h => h) (Or.inl ⟨by rfl, ?_⟩) (by assumption) ?_
          case refine_2 => (intro w hSw; (try dsimp only at hSw); go_simp; (try with_reducible rfl))
          (try simp only [Act.put, List.getElem_toArray, List.getElem_cons_succ, List.getElem_cons_zero, List.setIfInBounds_toArray, List.set_cons_zero, List.set_cons_succ])
          refine wpAnyH_ready (rs := [9]) (by kernel_rfl) (by simp) ?_
          refine AllReadyH.cons rfl (fun K hK => ?_) AllReadyH.nil
          go_simp
          refine hK.out _ _ ⟨keep bA (keep hb5 e0d), keep bA (keep hb5 e1d), keep bA (keep hb5 e2d), keep bA (keep hb5 e3d), keep bA (keep hb5 e4d), keep bA (keep hb5 e5d), keep bA (keep hb5 f0d), keep bA (keep hb5 f1d), keep bA (keep hb5 f2d), keep bA (keep hb5 f3d), keep bA (keep hb5 f4d), keep bA (keep hb5 f5d), keep bA (keep hb5 f6d), keep bA (keep hb5 f7d), keep bA (keep hb5 f8d)⟩ (fun hHeld => ?_)
          clear hK K
          refine wpAnyH_ready (rs := [10]) (by kernel_rfl) (by simp) ?_
          refine AllReadyH.cons rfl (fun K hK => ?_) AllReadyH.nil
          go_simp
          refine hK.out _ _ ⟨keep bF (keep hb5 e0d), keep bF (keep hb5 e1d), keep bF (keep hb5 e2d), keep bF (keep hb5 e3d), keep bF (keep hb5 e4d), keep bF (keep hb5 e5d), keep bF (keep hb5 f0d), keep bF (keep hb5 f1d), keep bF (keep hb5 f2d), keep bF (keep hb5 f3d), keep bF (keep hb5 f4d), keep bF (keep hb5 f5d), keep bF (keep hb5 f6d), keep bF (keep hb5 f7d), keep bF (keep hb5 f8d)⟩ (fun hHeld => ?_)
          clear hK K
          refine wpAnyH_take (i := 11) (v := ?_) rfl (by kernel_rfl) (by kernel_rfl) (by kernel_rfl) (fun _ _ _ h => h) (Or.inl ⟨by rfl, ?_⟩) (by assumption) ?_
          case refine_2 => (intro w hSw; (try dsimp only at hSw); go_simp; (try with_reducible rfl))
          (try simp only [Act.put, List.getElem_toArray, List.getElem_cons_succ, List.getElem_cons_zero, List.setIfInBounds_toArray, List.set_cons_zero, List.set_cons_succ])
          refine wpAnyH_done (by kernel_rfl) ?_ _
          clear hHeld
          obtain ⟨nb, hnb⟩ : ∃ nb, nb = w5.heap.size := ⟨_, rfl⟩
          obtain ⟨wX, hwX⟩ : ∃ wX, wX = w5.alloc (.cells #[.int .i64 r2.ep, .int .i64 r2.pool.k, .int .i64 r2.pool.m, .int .i64 r2.pool.pgs, .int .i64 r2.pool.dom, .slice z zn zc] 26) := ⟨_, rfl⟩
          have eN : wX.heap[nb]? = some (.cells #[.int .i64 r2.ep, .int .i64 r2.pool.k, .int .i64 r2.pool.m, .int .i64 r2.pool.pgs, .int .i64 r2.pool.dom, .slice z zn zc] 26 (0, 0)) := by rw [hwX, hnb]; exact heap_alloc_new _ _
          have bX : Below wD.heap.size wD wX := by rw [hwX]; exact on hb5 bF
          have hX := HFD.out.below bX
          have OX : Hid (At.Os wX z zn zc r2.osds) := by rw [hwX]; exact H5.out.2.below bF
          have lnb : nb ≠ w2.heap.size := by have := (Array.getElem?_eq_some_iff.1 HFD.out.blk).1; have := hb5.size; omega
          rw [← hwX, ← hnb]
          clear hwX hnb hb5 bA bF bX H5 hAp
          have T0 := hX.cell (by omega) (HT.out.cell HTq.out)
          have lX1 : w2.heap.size < wX.heap.size := (Array.getElem?_eq_some_iff.1 hX.blk).1
          have HX := hid hX
          have x0 : wX.cell? ⟨nb, 0, none⟩ = some (.int .i64 r2.ep) := cell_heap eN rfl
          have x1 : wX.cell? ⟨nb, 1, none⟩ = some (.int .i64 r2.pool.k) := cell_heap eN rfl
          have x2 : wX.cell? ⟨nb, 2, none⟩ = some (.int .i64 r2.pool.m) := cell_heap eN rfl
          have x3 : wX.cell? ⟨nb, 3, none⟩ = some (.int .i64 r2.pool.pgs) := cell_heap eN rfl
          have x4 : wX.cell? ⟨nb, 4, none⟩ = some (.int .i64 r2.pool.dom) := cell_heap eN rfl
          have x5 : wX.cell? ⟨nb, 5, none⟩ = some (.slice z zn zc) := cell_heap eN rfl
          have g0 : wX.cell? ⟨w2.heap.size, 0, none⟩ = some (.int .i64 wm.ep) := by first | exact cell_heap hX.blk rfl | (rw [HWM.out]; exact cell_heap hX.blk rfl)
          have g1 : wX.cell? ⟨w2.heap.size, 1, none⟩ = some (.int .i64 wm.pool.k) := by first | exact cell_heap hX.blk rfl | (rw [HWM.out]; exact cell_heap hX.blk rfl)
          have g2 : wX.cell? ⟨w2.heap.size, 2, none⟩ = some (.int .i64 wm.pool.m) := by first | exact cell_heap hX.blk rfl | (rw [HWM.out]; exact cell_heap hX.blk rfl)
          have g3 : wX.cell? ⟨w2.heap.size, 3, none⟩ = some (.int .i64 wm.pool.pgs) := by first | exact cell_heap hX.blk rfl | (rw [HWM.out]; exact cell_heap hX.blk rfl)
          have g4 : wX.cell? ⟨w2.heap.size, 4, none⟩ = some (.int .i64 wm.pool.dom) := by first | exact cell_heap hX.blk rfl | (rw [HWM.out]; exact cell_heap hX.blk rfl)
          have g5 : wX.cell? ⟨w2.heap.size, 5, none⟩ = some (.slice y yn yc) := by first | exact cell_heap hX.blk rfl | (rw [HWM.out]; exact cell_heap hX.blk rfl)
          have h0 := fr_heap hX.blk 0
          have h1 := fr_heap hX.blk 1
          have h2 := fr_heap hX.blk 2
          have h3 := fr_heap hX.blk 3
          have h4 := fr_heap hX.blk 4
          have h5 := fr_heap hX.blk 5
          clear hX
          go_wp2_with fail
          go_roundw
          case rel => exact ⟨q + 1, by omega, by go_num, z, zn, zc, HX.out.step HCC.out HM2.out OX.out⟩
          case measure => simp [intOf]; omega
        · go_simp
          have bA := al wD (.cells #[.int .i64 0, .int .i64 0, .int .i64 0, .int .i64 0, .int .i64 0, .slice none 0 0] 26)
          refine hK.out _ _ ⟨keep bA e0d, keep bA e1d, keep bA e2d, keep bA e3d, keep bA e4d, keep bA e5d, keep bA f0d, keep bA f1d, keep bA f2d, keep bA f3d, keep bA f4d, keep bA f5d, keep bA f6d, keep bA f7d, keep bA f8d⟩ (fun hHeld => ?_)
          clear hK K
          refine wpAnyH_ready (rs := [5]) (by kernel_rfl) (by simp) ?_
          refine AllReadyH.cons rfl (fun K hK => ?_) AllReadyH.nil
          go_simp
          refine (hAp _ y yn yc (by rw [HWM.out]; exact (HFD.out.below bA).os)).mono ?_
          rintro e w5 ⟨z, zn, zc, rfl, H5⟩
          have hb5 := H5.out.1
          have eZ : w5.heap[wD.heap.size]? = some (.cells #[.int .i64 0, .int .i64 0, .int .i64 0, .int .i64 0, .int .i64 0, .slice none 0 0] 26 (0, 0)) := (hb5.block _ (by simp)).trans (heap_alloc_new _ _)
          have lnb0 : wD.heap.size ≠ w2.heap.size := by have := (Array.getElem?_eq_some_iff.1 HFD.out.blk).1; omega
          have lbD : b < wD.heap.size := cell_lt' f0d
          have v0 : w5.cell? ⟨wD.heap.size, 0, none⟩ = some (.int .i64 0) := cell_heap eZ rfl
          have v1 : w5.cell? ⟨wD.heap.size, 1, none⟩ = some (.int .i64 0) := cell_heap eZ rfl
          have v2 : w5.cell? ⟨wD.heap.size, 2, none⟩ = some (.int .i64 0) := cell_heap eZ rfl
          have v3 : w5.cell? ⟨wD.heap.size, 3, none⟩ = some (.int .i64 0) := cell_heap eZ rfl
          have v4 : w5.cell? ⟨wD.heap.size, 4, none⟩ = some (.int .i64 0) := cell_heap eZ rfl
          have v5 : w5.cell? ⟨wD.heap.size, 5, none⟩ = some (.slice none 0 0) := cell_heap eZ rfl
          have vf0 := fr_heap eZ 0
          have vf1 := fr_heap eZ 1
          have vf2 := fr_heap eZ 2
          have vf3 := fr_heap eZ 3
          have vf4 := fr_heap eZ 4
          have vf5 := fr_heap eZ 5
          have Tz : Turns (fun k => k = wD.heap.size) w5 ((((((w5.setCell ⟨wD.heap.size, 0, none⟩ (.int .i64 r2.ep)).setCell ⟨wD.heap.size, 1, none⟩ (.int .i64 r2.pool.k)).setCell ⟨wD.heap.size, 2, none⟩ (.int .i64 r2.pool.m)).setCell ⟨wD.heap.size, 3, none⟩ (.int .i64 r2.pool.pgs)).setCell ⟨wD.heap.size, 4, none⟩ (.int .i64 r2.pool.dom)).setCell ⟨wD.heap.size, 5, none⟩ (.slice z zn zc)) := turns_put (turns_put (turns_put (turns_put (turns_put (turns_put (Turns.refl _ _) _ _) _ _) _ _) _ _) _ _) _ _
          have kz := fun (p j : Nat) (v : Value) (hp : p ≠ wD.heap.size) (hv : w5.cell? ⟨p, j, none⟩ = some v) => (World.cell?_of_block (a := ⟨p, j, none⟩) (Tz.block p (cell_lt' hv) hp)).trans hv
          refine hK.out _ _ ⟨keep hb5 (keep bA e0d), keep hb5 (keep bA e1d), keep hb5 (keep bA e2d), keep hb5 (keep bA e3d), keep hb5 (keep bA e4d), keep hb5 (keep bA e5d), keep hb5 (keep bA f0d), keep hb5 (keep bA f1d), keep hb5 (keep bA f2d), keep hb5 (keep bA f3d), keep hb5 (keep bA f4d), keep hb5 (keep bA f5d), keep hb5 (keep bA f6d), keep hb5 (keep bA f7d), keep hb5 (keep bA f8d)⟩ (fun hHeld => ?_)
          clear hK K
          refine wpAnyH_take (i := 6) (v := ?_) rfl (by kernel_rfl) (by kernel_rfl) (by kernel_rfl) (fun _ _ _ h => h) (Or.inl ⟨by rfl, ?_⟩) (by assumption) ?_
          case refine_2 => (intro w hSw; (try dsimp only at hSw); go_simp; (try with_reducible rfl))
          (try simp only [Act.put, List.getElem_toArray, List.getElem_cons_succ, List.getElem_cons_zero, List.setIfInBounds_toArray, List.set_cons_zero, List.set_cons_succ])
          refine wpAnyH_take (i := 7) (v := ?_) rfl (by kernel_rfl) (by kernel_rfl) (by kernel_rfl) (fun _ _ _ h => h) (Or.inl ⟨by rfl, ?_⟩) (by assumption) ?_
          case refine_2 => (intro w hSw; (try dsimp only at hSw); go_simp; (try with_reducible rfl))
          (try simp only [Act.put, List.getElem_toArray, List.getElem_cons_succ, List.getElem_cons_zero, List.setIfInBounds_toArray, List.set_cons_zero, List.set_cons_succ])
          refine wpAnyH_take (i := 8) (v := ?_) rfl (by kernel_rfl) (by kernel_rfl) (by kernel_rfl) (fun _ _ _ h => h) (Or.inl ⟨by rfl, ?_⟩) (by assumption) ?_
          case refine_2 => (intro w hSw; (try dsimp only at hSw); go_simp; (try with_reducible rfl))
          (try simp only [Act.put, List.getElem_toArray, List.getElem_cons_succ, List.getElem_cons_zero, List.setIfInBounds_toArray, List.set_cons_zero, List.set_cons_succ])
          refine wpAnyH_ready (rs := [10]) (by kernel_rfl) (by simp) ?_
          refine AllReadyH.cons rfl (fun K hK => ?_) AllReadyH.nil
          go_simp
          refine hK.out _ _ ⟨kz _ _ _ (by omega) (keep hb5 (keep bA e0d)), kz _ _ _ (by omega) (keep hb5 (keep bA e1d)), kz _ _ _ (by omega) (keep hb5 (keep bA e2d)), kz _ _ _ (by omega) (keep hb5 (keep bA e3d)), kz _ _ _ (by omega) (keep hb5 (keep bA e4d)), kz _ _ _ (by omega) (keep hb5 (keep bA e5d)), kz _ _ _ (by omega) (keep hb5 (keep bA f0d)), kz _ _ _ (by omega) (keep hb5 (keep bA f1d)), kz _ _ _ (by omega) (keep hb5 (keep bA f2d)), kz _ _ _ (by omega) (keep hb5 (keep bA f3d)), kz _ _ _ (by omega) (keep hb5 (keep bA f4d)), kz _ _ _ (by omega) (keep hb5 (keep bA f5d)), kz _ _ _ (by omega) (keep hb5 (keep bA f6d)), kz _ _ _ (by omega) (keep hb5 (keep bA f7d)), kz _ _ _ (by omega) (keep hb5 (keep bA f8d))⟩ (fun hHeld => ?_)
          clear hK K
          refine wpAnyH_take (i := 11) (v := ?_) rfl (by kernel_rfl) (by kernel_rfl) (by kernel_rfl) (fun _ _ _ h => h) (Or.inl ⟨by rfl, ?_⟩) (by assumption) ?_
          case refine_2 => (intro w hSw; (try dsimp only at hSw); go_simp; (try with_reducible rfl))
          (try simp only [Act.put, List.getElem_toArray, List.getElem_cons_succ, List.getElem_cons_zero, List.setIfInBounds_toArray, List.set_cons_zero, List.set_cons_succ])
          refine wpAnyH_done (by kernel_rfl) ?_ _
          clear hHeld
          obtain ⟨wX, hwX⟩ : ∃ wX, wX = ((((((w5.setCell ⟨wD.heap.size, 0, none⟩ (.int .i64 r2.ep)).setCell ⟨wD.heap.size, 1, none⟩ (.int .i64 r2.pool.k)).setCell ⟨wD.heap.size, 2, none⟩ (.int .i64 r2.pool.m)).setCell ⟨wD.heap.size, 3, none⟩ (.int .i64 r2.pool.pgs)).setCell ⟨wD.heap.size, 4, none⟩ (.int .i64 r2.pool.dom)).setCell ⟨wD.heap.size, 5, none⟩ (.slice z zn zc)) := ⟨_, rfl⟩
          rw [← hwX]
          obtain ⟨nb, hnb⟩ : ∃ nb, nb = wD.heap.size := ⟨_, rfl⟩
          have eN : wX.heap[nb]? = some (.cells #[.int .i64 r2.ep, .int .i64 r2.pool.k, .int .i64 r2.pool.m, .int .i64 r2.pool.pgs, .int .i64 r2.pool.dom, .slice z zn zc] 26 (0, 0)) := by rw [hwX, hnb]; exact heap_set (heap_set (heap_set (heap_set (heap_set (heap_set eZ _) _) _) _) _) _
          have bX : Below wD.heap.size wD wX := by
            rw [hwX]
            exact (bA.trans (hb5.mono (by simp))).trans (Tz.below (B := wD.heap.size) (fun k hk => by omega) (by have := hb5.size; simp at this; omega))
          have hX := HFD.out.below bX
          have OX : Hid (At.Os wX z zn zc r2.osds) := by rw [hwX]; exact H5.out.2.turns Tz (os_ne H5.out.2 eZ (by simp))
          have lnb : nb ≠ w2.heap.size := by omega
          rw [← hnb]
          clear hwX hnb hb5 bA bX H5 hAp eZ Tz kz v0 v1 v2 v3 v4 v5 vf0 vf1 vf2 vf3 vf4 vf5
          have T0 := hX.cell (by omega) (HT.out.cell HTq.out)
          have lX1 : w2.heap.size < wX.heap.size := (Array.getElem?_eq_some_iff.1 hX.blk).1
          have HX := hid hX
          have x0 : wX.cell? ⟨nb, 0, none⟩ = some (.int .i64 r2.ep) := cell_heap eN rfl
          have x1 : wX.cell? ⟨nb, 1, none⟩ = some (.int .i64 r2.pool.k) := cell_heap eN rfl
          have x2 : wX.cell? ⟨nb, 2, none⟩ = some (.int .i64 r2.pool.m) := cell_heap eN rfl
          have x3 : wX.cell? ⟨nb, 3, none⟩ = some (.int .i64 r2.pool.pgs) := cell_heap eN rfl
          have x4 : wX.cell? ⟨nb, 4, none⟩ = some (.int .i64 r2.pool.dom) := cell_heap eN rfl
          have x5 : wX.cell? ⟨nb, 5, none⟩ = some (.slice z zn zc) := cell_heap eN rfl
          have g0 : wX.cell? ⟨w2.heap.size, 0, none⟩ = some (.int .i64 wm.ep) := by first | exact cell_heap hX.blk rfl | (rw [HWM.out]; exact cell_heap hX.blk rfl)
          have g1 : wX.cell? ⟨w2.heap.size, 1, none⟩ = some (.int .i64 wm.pool.k) := by first | exact cell_heap hX.blk rfl | (rw [HWM.out]; exact cell_heap hX.blk rfl)
          have g2 : wX.cell? ⟨w2.heap.size, 2, none⟩ = some (.int .i64 wm.pool.m) := by first | exact cell_heap hX.blk rfl | (rw [HWM.out]; exact cell_heap hX.blk rfl)
          have g3 : wX.cell? ⟨w2.heap.size, 3, none⟩ = some (.int .i64 wm.pool.pgs) := by first | exact cell_heap hX.blk rfl | (rw [HWM.out]; exact cell_heap hX.blk rfl)
          have g4 : wX.cell? ⟨w2.heap.size, 4, none⟩ = some (.int .i64 wm.pool.dom) := by first | exact cell_heap hX.blk rfl | (rw [HWM.out]; exact cell_heap hX.blk rfl)
          have g5 : wX.cell? ⟨w2.heap.size, 5, none⟩ = some (.slice y yn yc) := by first | exact cell_heap hX.blk rfl | (rw [HWM.out]; exact cell_heap hX.blk rfl)
          have h0 := fr_heap hX.blk 0
          have h1 := fr_heap hX.blk 1
          have h2 := fr_heap hX.blk 2
          have h3 := fr_heap hX.blk 3
          have h4 := fr_heap hX.blk 4
          have h5 := fr_heap hX.blk 5
          clear hX
          go_wp2_with fail
          go_roundw
          case rel => exact ⟨q + 1, by omega, by go_num, z, zn, zc, HX.out.step HCC.out HM2.out OX.out⟩
          case measure => simp [intOf]; omega
      · have hz' : (r1 == 0) = false := by simpa using hz
        have HM2 : Hid ((advP (foldP m0 (l.take q)).2 ⟨ck, ⟨c0, c1, c2, c3, c4, c5, c6, c7⟩⟩).1 ≠ 0) := by
          rw [← HWM.out]
          exact fun e => hz (HON.out.1.trans e)
        go_wp2_with fail
        refine wp_region_held_drew (S := fun v => v.cell? ⟨w2.heap.size, 0, none⟩ = some (.int .i64 wm.ep) ∧ v.cell? ⟨w2.heap.size, 1, none⟩ = some (.int .i64 wm.pool.k) ∧ v.cell? ⟨w2.heap.size, 2, none⟩ = some (.int .i64 wm.pool.m) ∧ v.cell? ⟨w2.heap.size, 3, none⟩ = some (.int .i64 wm.pool.pgs) ∧ v.cell? ⟨w2.heap.size, 4, none⟩ = some (.int .i64 wm.pool.dom) ∧ v.cell? ⟨w2.heap.size, 5, none⟩ = some (.slice y yn yc) ∧ v.cell? ⟨b, ob + q * 9, none⟩ = some (.int .i64 ck) ∧ v.cell? ⟨b, ob + q * 9 + 1, none⟩ = some (.int .i64 c0) ∧ v.cell? ⟨b, ob + q * 9 + 2, none⟩ = some (.bool c1) ∧ v.cell? ⟨b, ob + q * 9 + 3, none⟩ = some (.bool c2) ∧ v.cell? ⟨b, ob + q * 9 + 4, none⟩ = some (.int .i64 c3) ∧ v.cell? ⟨b, ob + q * 9 + 5, none⟩ = some (.int .i64 c4) ∧ v.cell? ⟨b, ob + q * 9 + 6, none⟩ = some (.int .i64 c5) ∧ v.cell? ⟨b, ob + q * 9 + 7, none⟩ = some (.int .i64 c6) ∧ v.cell? ⟨b, ob + q * 9 + 8, none⟩ = some (.int .i64 c7)) (by kernel_rfl) ⟨keep (Below.refl _ wr).drew e0, keep (Below.refl _ wr).drew e1, keep (Below.refl _ wr).drew e2, keep (Below.refl _ wr).drew e3, keep (Below.refl _ wr).drew e4, keep (Below.refl _ wr).drew e5, keep (Below.refl _ wr).drew f0, keep (Below.refl _ wr).drew f1, keep (Below.refl _ wr).drew f2, keep (Below.refl _ wr).drew f3, keep (Below.refl _ wr).drew f4, keep (Below.refl _ wr).drew f5, keep (Below.refl _ wr).drew f6, keep (Below.refl _ wr).drew f7, keep (Below.refl _ wr).drew f8⟩ (fun hHeld => ?_)
        obtain ⟨wD, hwD⟩ : ∃ wD, wD = wr.drew := ⟨_, rfl⟩
        have hbD : Below wr.heap.size wr wD := by rw [hwD]; exact (Below.refl _ _).drew
        rw [← hwD] at hHeld ⊢
        clear hwD
        have hFD := HFA.out.below hbD
        have HFD := hid hFD
        have e0d := keep hbD e0
        have e1d := keep hbD e1
        have e2d := keep hbD e2
        have e3d := keep hbD e3
        have e4d := keep hbD e4
        have e5d := keep hbD e5
        have f0d := keep hbD f0
        have f1d := keep hbD f1
        have f2d := keep hbD f2
        have f3d := keep hbD f3
        have f4d := keep hbD f4
        have f5d := keep hbD f5
        have f6d := keep hbD f6
        have f7d := keep hbD f7
        have f8d := keep hbD f8
        refine wpAnyH_take (i := 0) (v := ?_) rfl (by kernel_rfl) (by kernel_rfl) (by kernel_rfl) (fun _ _ _ h => h) (Or.inl ⟨by rfl, ?_⟩) (by assumption) ?_
        case refine_2 => (intro w hSw; (try dsimp only at hSw); go_simp; (try with_reducible rfl))
        (try simp only [Act.put, List.getElem_toArray, List.getElem_cons_succ, List.getElem_cons_zero, List.setIfInBounds_toArray, List.set_cons_zero, List.set_cons_succ])
        refine wpAnyH_take (i := 1) (v := ?_) rfl (by kernel_rfl) (by kernel_rfl) (by kernel_rfl) (fun _ _ _ h => h) (Or.inl ⟨by rfl, ?_⟩) (by assumption) ?_
        case refine_2 => (intro w hSw; (try dsimp only at hSw); go_simp; (try with_reducible rfl))
        (try simp only [Act.put, List.getElem_toArray, List.getElem_cons_succ, List.getElem_cons_zero, List.setIfInBounds_toArray, List.set_cons_zero, List.set_cons_succ])
        refine wpAnyH_take (i := 2) (v := ?_) rfl (by kernel_rfl) (by kernel_rfl) (by kernel_rfl) (fun _ _ _ h => h) (Or.inl ⟨by rfl, ?_⟩) (by assumption) ?_
        case refine_2 => (intro w hSw; (try dsimp only at hSw); go_simp; (try with_reducible rfl))
        (try simp only [Act.put, List.getElem_toArray, List.getElem_cons_succ, List.getElem_cons_zero, List.setIfInBounds_toArray, List.set_cons_zero, List.set_cons_succ])
        refine wpAnyH_take (i := 3) (v := ?_) rfl (by kernel_rfl) (by kernel_rfl) (by kernel_rfl) (fun _ _ _ h => h) (Or.inl ⟨by rfl, ?_⟩) (by assumption) ?_
        case refine_2 => (intro w hSw; (try dsimp only at hSw); go_simp; (try with_reducible rfl))
        (try simp only [Act.put, List.getElem_toArray, List.getElem_cons_succ, List.getElem_cons_zero, List.setIfInBounds_toArray, List.set_cons_zero, List.set_cons_succ])
        refine wpAnyH_take (i := 4) (v := ?_) rfl (by kernel_rfl) (by kernel_rfl) (by kernel_rfl) (fun _ _ _ h => h) (Or.inl ⟨by rfl, ?_⟩) (by assumption) ?_
        case refine_2 => (intro w hSw; (try dsimp only at hSw); go_simp; (try with_reducible rfl))
        (try simp only [Act.put, List.getElem_toArray, List.getElem_cons_succ, List.getElem_cons_zero, List.setIfInBounds_toArray, List.set_cons_zero, List.set_cons_succ])
        refine wpAnyH_ready (rs := [5, 9]) (by kernel_rfl) (by simp) ?_
        refine AllReadyH.cons rfl (fun K hK => ?_) (AllReadyH.cons rfl (fun K hK => ?_) AllReadyH.nil)
        · go_simp
          refine (hAp wD y yn yc (by rw [HWM.out]; exact HFD.out.os)).mono ?_
          rintro e w5 ⟨z, zn, zc, rfl, H5⟩
          have hb5 := H5.out.1
          have bA := al w5 (.cells #[.int .i64 0, .int .i64 0, .int .i64 0, .int .i64 0, .int .i64 0, .slice none 0 0] 26)
          have bF := al w5 (.cells #[.int .i64 r2.ep, .int .i64 r2.pool.k, .int .i64 r2.pool.m, .int .i64 r2.pool.pgs, .int .i64 r2.pool.dom, .slice z zn zc] 26)
          refine hK.out _ _ ⟨keep hb5 e0d, keep hb5 e1d, keep hb5 e2d, keep hb5 e3d, keep hb5 e4d, keep hb5 e5d, keep hb5 f0d, keep hb5 f1d, keep hb5 f2d, keep hb5 f3d, keep hb5 f4d, keep hb5 f5d, keep hb5 f6d, keep hb5 f7d, keep hb5 f8d⟩ (fun hHeld => ?_)
          clear hK K
          refine wpAnyH_take (i := 6) (v := ?_) rfl (by kernel_rfl) (by kernel_rfl) (by kernel_rfl) (fun _ _ _ h => h) (Or.inl ⟨by rfl, ?_⟩) (by assumption) ?_
          case refine_2 => (intro w hSw; (try dsimp only at hSw); go_simp; (try with_reducible rfl))
          (try simp only [Act.put, List.getElem_toArray, List.getElem_cons_succ, List.getElem_cons_zero, List.setIfInBounds_toArray, List.set_cons_zero, List.set_cons_succ])
          refine wpAnyH_take (i := 7) (v := ?_) rfl (by kernel_rfl) (by kernel_rfl) (by kernel_rfl) (fun _ _ _ h => h) (Or.inl ⟨by rfl, ?_⟩) (by assumption) ?_
          case refine_2 => (intro w hSw; (try dsimp only at hSw); go_simp; (try with_reducible rfl))
          (try simp only [Act.put, List.getElem_toArray, List.getElem_cons_succ, List.getElem_cons_zero, List.setIfInBounds_toArray, List.set_cons_zero, List.set_cons_succ])
          refine wpAnyH_take (i := 8) (v := ?_) rfl (by kernel_rfl) (by kernel_rfl) (by kernel_rfl) (fun _ _ _ h => h) (Or.inl ⟨by rfl, ?_⟩) (by assumption) ?_
          case refine_2 => (intro w hSw; (try dsimp only at hSw); go_simp; (try with_reducible rfl))
          (try simp only [Act.put, List.getElem_toArray, List.getElem_cons_succ, List.getElem_cons_zero, List.setIfInBounds_toArray, List.set_cons_zero, List.set_cons_succ])
          refine wpAnyH_ready (rs := [9]) (by kernel_rfl) (by simp) ?_
          refine AllReadyH.cons rfl (fun K hK => ?_) AllReadyH.nil
          go_simp
          refine hK.out _ _ ⟨keep bA (keep hb5 e0d), keep bA (keep hb5 e1d), keep bA (keep hb5 e2d), keep bA (keep hb5 e3d), keep bA (keep hb5 e4d), keep bA (keep hb5 e5d), keep bA (keep hb5 f0d), keep bA (keep hb5 f1d), keep bA (keep hb5 f2d), keep bA (keep hb5 f3d), keep bA (keep hb5 f4d), keep bA (keep hb5 f5d), keep bA (keep hb5 f6d), keep bA (keep hb5 f7d), keep bA (keep hb5 f8d)⟩ (fun hHeld => ?_)
          clear hK K
          refine wpAnyH_ready (rs := [10]) (by kernel_rfl) (by simp) ?_
          refine AllReadyH.cons rfl (fun K hK => ?_) AllReadyH.nil
          go_simp
          refine hK.out _ _ ⟨keep bF (keep hb5 e0d), keep bF (keep hb5 e1d), keep bF (keep hb5 e2d), keep bF (keep hb5 e3d), keep bF (keep hb5 e4d), keep bF (keep hb5 e5d), keep bF (keep hb5 f0d), keep bF (keep hb5 f1d), keep bF (keep hb5 f2d), keep bF (keep hb5 f3d), keep bF (keep hb5 f4d), keep bF (keep hb5 f5d), keep bF (keep hb5 f6d), keep bF (keep hb5 f7d), keep bF (keep hb5 f8d)⟩ (fun hHeld => ?_)
          clear hK K
          refine wpAnyH_take (i := 11) (v := ?_) rfl (by kernel_rfl) (by kernel_rfl) (by kernel_rfl) (fun _ _ _ h => h) (Or.inl ⟨by rfl, ?_⟩) (by assumption) ?_
          case refine_2 => (intro w hSw; (try dsimp only at hSw); go_simp; (try with_reducible rfl))
          (try simp only [Act.put, List.getElem_toArray, List.getElem_cons_succ, List.getElem_cons_zero, List.setIfInBounds_toArray, List.set_cons_zero, List.set_cons_succ])
          refine wpAnyH_done (by kernel_rfl) ?_ _
          clear hHeld
          obtain ⟨nb, hnb⟩ : ∃ nb, nb = w5.heap.size := ⟨_, rfl⟩
          obtain ⟨wX, hwX⟩ : ∃ wX, wX = w5.alloc (.cells #[.int .i64 r2.ep, .int .i64 r2.pool.k, .int .i64 r2.pool.m, .int .i64 r2.pool.pgs, .int .i64 r2.pool.dom, .slice z zn zc] 26) := ⟨_, rfl⟩
          have eN : wX.heap[nb]? = some (.cells #[.int .i64 r2.ep, .int .i64 r2.pool.k, .int .i64 r2.pool.m, .int .i64 r2.pool.pgs, .int .i64 r2.pool.dom, .slice z zn zc] 26 (0, 0)) := by rw [hwX, hnb]; exact heap_alloc_new _ _
          have bX : Below wD.heap.size wD wX := by rw [hwX]; exact on hb5 bF
          have hX := HFD.out.below bX
          have OX : Hid (At.Os wX z zn zc r2.osds) := by rw [hwX]; exact H5.out.2.below bF
          have lnb : nb ≠ w2.heap.size := by have := (Array.getElem?_eq_some_iff.1 HFD.out.blk).1; have := hb5.size; omega
          rw [← hwX, ← hnb]
          clear hwX hnb hb5 bA bF bX H5 hAp
          have T0 := hX.cell (by omega) (HT.out.cell HTq.out)
          have lX1 : w2.heap.size < wX.heap.size := (Array.getElem?_eq_some_iff.1 hX.blk).1
          have HX := hid hX
          have x0 : wX.cell? ⟨nb, 0, none⟩ = some (.int .i64 r2.ep) := cell_heap eN rfl
          have x1 : wX.cell? ⟨nb, 1, none⟩ = some (.int .i64 r2.pool.k) := cell_heap eN rfl
          have x2 : wX.cell? ⟨nb, 2, none⟩ = some (.int .i64 r2.pool.m) := cell_heap eN rfl
          have x3 : wX.cell? ⟨nb, 3, none⟩ = some (.int .i64 r2.pool.pgs) := cell_heap eN rfl
          have x4 : wX.cell? ⟨nb, 4, none⟩ = some (.int .i64 r2.pool.dom) := cell_heap eN rfl
          have x5 : wX.cell? ⟨nb, 5, none⟩ = some (.slice z zn zc) := cell_heap eN rfl
          have g0 : wX.cell? ⟨w2.heap.size, 0, none⟩ = some (.int .i64 wm.ep) := by first | exact cell_heap hX.blk rfl | (rw [HWM.out]; exact cell_heap hX.blk rfl)
          have g1 : wX.cell? ⟨w2.heap.size, 1, none⟩ = some (.int .i64 wm.pool.k) := by first | exact cell_heap hX.blk rfl | (rw [HWM.out]; exact cell_heap hX.blk rfl)
          have g2 : wX.cell? ⟨w2.heap.size, 2, none⟩ = some (.int .i64 wm.pool.m) := by first | exact cell_heap hX.blk rfl | (rw [HWM.out]; exact cell_heap hX.blk rfl)
          have g3 : wX.cell? ⟨w2.heap.size, 3, none⟩ = some (.int .i64 wm.pool.pgs) := by first | exact cell_heap hX.blk rfl | (rw [HWM.out]; exact cell_heap hX.blk rfl)
          have g4 : wX.cell? ⟨w2.heap.size, 4, none⟩ = some (.int .i64 wm.pool.dom) := by first | exact cell_heap hX.blk rfl | (rw [HWM.out]; exact cell_heap hX.blk rfl)
          have g5 : wX.cell? ⟨w2.heap.size, 5, none⟩ = some (.slice y yn yc) := by first | exact cell_heap hX.blk rfl | (rw [HWM.out]; exact cell_heap hX.blk rfl)
          have h0 := fr_heap hX.blk 0
          have h1 := fr_heap hX.blk 1
          have h2 := fr_heap hX.blk 2
          have h3 := fr_heap hX.blk 3
          have h4 := fr_heap hX.blk 4
          have h5 := fr_heap hX.blk 5
          clear hX
          go_wp2_with fail
          go_roundw
          case rel => exact ⟨q + 1, by omega, by go_num, y, yn, yc, HX.out.stay HCC.out HM2.out⟩
          case measure => simp [intOf]; omega
        · go_simp
          have bA := al wD (.cells #[.int .i64 0, .int .i64 0, .int .i64 0, .int .i64 0, .int .i64 0, .slice none 0 0] 26)
          refine hK.out _ _ ⟨keep bA e0d, keep bA e1d, keep bA e2d, keep bA e3d, keep bA e4d, keep bA e5d, keep bA f0d, keep bA f1d, keep bA f2d, keep bA f3d, keep bA f4d, keep bA f5d, keep bA f6d, keep bA f7d, keep bA f8d⟩ (fun hHeld => ?_)
          clear hK K
          refine wpAnyH_ready (rs := [5]) (by kernel_rfl) (by simp) ?_
          refine AllReadyH.cons rfl (fun K hK => ?_) AllReadyH.nil
          go_simp
          refine (hAp _ y yn yc (by rw [HWM.out]; exact (HFD.out.below bA).os)).mono ?_
          rintro e w5 ⟨z, zn, zc, rfl, H5⟩
          have hb5 := H5.out.1
          have eZ : w5.heap[wD.heap.size]? = some (.cells #[.int .i64 0, .int .i64 0, .int .i64 0, .int .i64 0, .int .i64 0, .slice none 0 0] 26 (0, 0)) := (hb5.block _ (by simp)).trans (heap_alloc_new _ _)
          have lnb0 : wD.heap.size ≠ w2.heap.size := by have := (Array.getElem?_eq_some_iff.1 HFD.out.blk).1; omega
          have lbD : b < wD.heap.size := cell_lt' f0d
          have v0 : w5.cell? ⟨wD.heap.size, 0, none⟩ = some (.int .i64 0) := cell_heap eZ rfl
          have v1 : w5.cell? ⟨wD.heap.size, 1, none⟩ = some (.int .i64 0) := cell_heap eZ rfl
          have v2 : w5.cell? ⟨wD.heap.size, 2, none⟩ = some (.int .i64 0) := cell_heap eZ rfl
          have v3 : w5.cell? ⟨wD.heap.size, 3, none⟩ = some (.int .i64 0) := cell_heap eZ rfl
          have v4 : w5.cell? ⟨wD.heap.size, 4, none⟩ = some (.int .i64 0) := cell_heap eZ rfl
          have v5 : w5.cell? ⟨wD.heap.size, 5, none⟩ = some (.slice none 0 0) := cell_heap eZ rfl
          have vf0 := fr_heap eZ 0
          have vf1 := fr_heap eZ 1
          have vf2 := fr_heap eZ 2
          have vf3 := fr_heap eZ 3
          have vf4 := fr_heap eZ 4
          have vf5 := fr_heap eZ 5
          have Tz : Turns (fun k => k = wD.heap.size) w5 ((((((w5.setCell ⟨wD.heap.size, 0, none⟩ (.int .i64 r2.ep)).setCell ⟨wD.heap.size, 1, none⟩ (.int .i64 r2.pool.k)).setCell ⟨wD.heap.size, 2, none⟩ (.int .i64 r2.pool.m)).setCell ⟨wD.heap.size, 3, none⟩ (.int .i64 r2.pool.pgs)).setCell ⟨wD.heap.size, 4, none⟩ (.int .i64 r2.pool.dom)).setCell ⟨wD.heap.size, 5, none⟩ (.slice z zn zc)) := turns_put (turns_put (turns_put (turns_put (turns_put (turns_put (Turns.refl _ _) _ _) _ _) _ _) _ _) _ _) _ _
          have kz := fun (p j : Nat) (v : Value) (hp : p ≠ wD.heap.size) (hv : w5.cell? ⟨p, j, none⟩ = some v) => (World.cell?_of_block (a := ⟨p, j, none⟩) (Tz.block p (cell_lt' hv) hp)).trans hv
          refine hK.out _ _ ⟨keep hb5 (keep bA e0d), keep hb5 (keep bA e1d), keep hb5 (keep bA e2d), keep hb5 (keep bA e3d), keep hb5 (keep bA e4d), keep hb5 (keep bA e5d), keep hb5 (keep bA f0d), keep hb5 (keep bA f1d), keep hb5 (keep bA f2d), keep hb5 (keep bA f3d), keep hb5 (keep bA f4d), keep hb5 (keep bA f5d), keep hb5 (keep bA f6d), keep hb5 (keep bA f7d), keep hb5 (keep bA f8d)⟩ (fun hHeld => ?_)
          clear hK K
          refine wpAnyH_take (i := 6) (v := ?_) rfl (by kernel_rfl) (by kernel_rfl) (by kernel_rfl) (fun _ _ _ h => h) (Or.inl ⟨by rfl, ?_⟩) (by assumption) ?_
          case refine_2 => (intro w hSw; (try dsimp only at hSw); go_simp; (try with_reducible rfl))
          (try simp only [Act.put, List.getElem_toArray, List.getElem_cons_succ, List.getElem_cons_zero, List.setIfInBounds_toArray, List.set_cons_zero, List.set_cons_succ])
          refine wpAnyH_take (i := 7) (v := ?_) rfl (by kernel_rfl) (by kernel_rfl) (by kernel_rfl) (fun _ _ _ h => h) (Or.inl ⟨by rfl, ?_⟩) (by assumption) ?_
          case refine_2 => (intro w hSw; (try dsimp only at hSw); go_simp; (try with_reducible rfl))
          (try simp only [Act.put, List.getElem_toArray, List.getElem_cons_succ, List.getElem_cons_zero, List.setIfInBounds_toArray, List.set_cons_zero, List.set_cons_succ])
          refine wpAnyH_take (i := 8) (v := ?_) rfl (by kernel_rfl) (by kernel_rfl) (by kernel_rfl) (fun _ _ _ h => h) (Or.inl ⟨by rfl, ?_⟩) (by assumption) ?_
          case refine_2 => (intro w hSw; (try dsimp only at hSw); go_simp; (try with_reducible rfl))
          (try simp only [Act.put, List.getElem_toArray, List.getElem_cons_succ, List.getElem_cons_zero, List.setIfInBounds_toArray, List.set_cons_zero, List.set_cons_succ])
          refine wpAnyH_ready (rs := [10]) (by kernel_rfl) (by simp) ?_
          refine AllReadyH.cons rfl (fun K hK => ?_) AllReadyH.nil
          go_simp
          refine hK.out _ _ ⟨kz _ _ _ (by omega) (keep hb5 (keep bA e0d)), kz _ _ _ (by omega) (keep hb5 (keep bA e1d)), kz _ _ _ (by omega) (keep hb5 (keep bA e2d)), kz _ _ _ (by omega) (keep hb5 (keep bA e3d)), kz _ _ _ (by omega) (keep hb5 (keep bA e4d)), kz _ _ _ (by omega) (keep hb5 (keep bA e5d)), kz _ _ _ (by omega) (keep hb5 (keep bA f0d)), kz _ _ _ (by omega) (keep hb5 (keep bA f1d)), kz _ _ _ (by omega) (keep hb5 (keep bA f2d)), kz _ _ _ (by omega) (keep hb5 (keep bA f3d)), kz _ _ _ (by omega) (keep hb5 (keep bA f4d)), kz _ _ _ (by omega) (keep hb5 (keep bA f5d)), kz _ _ _ (by omega) (keep hb5 (keep bA f6d)), kz _ _ _ (by omega) (keep hb5 (keep bA f7d)), kz _ _ _ (by omega) (keep hb5 (keep bA f8d))⟩ (fun hHeld => ?_)
          clear hK K
          refine wpAnyH_take (i := 11) (v := ?_) rfl (by kernel_rfl) (by kernel_rfl) (by kernel_rfl) (fun _ _ _ h => h) (Or.inl ⟨by rfl, ?_⟩) (by assumption) ?_
          case refine_2 => (intro w hSw; (try dsimp only at hSw); go_simp; (try with_reducible rfl))
          (try simp only [Act.put, List.getElem_toArray, List.getElem_cons_succ, List.getElem_cons_zero, List.setIfInBounds_toArray, List.set_cons_zero, List.set_cons_succ])
          refine wpAnyH_done (by kernel_rfl) ?_ _
          clear hHeld
          obtain ⟨wX, hwX⟩ : ∃ wX, wX = ((((((w5.setCell ⟨wD.heap.size, 0, none⟩ (.int .i64 r2.ep)).setCell ⟨wD.heap.size, 1, none⟩ (.int .i64 r2.pool.k)).setCell ⟨wD.heap.size, 2, none⟩ (.int .i64 r2.pool.m)).setCell ⟨wD.heap.size, 3, none⟩ (.int .i64 r2.pool.pgs)).setCell ⟨wD.heap.size, 4, none⟩ (.int .i64 r2.pool.dom)).setCell ⟨wD.heap.size, 5, none⟩ (.slice z zn zc)) := ⟨_, rfl⟩
          rw [← hwX]
          obtain ⟨nb, hnb⟩ : ∃ nb, nb = wD.heap.size := ⟨_, rfl⟩
          have eN : wX.heap[nb]? = some (.cells #[.int .i64 r2.ep, .int .i64 r2.pool.k, .int .i64 r2.pool.m, .int .i64 r2.pool.pgs, .int .i64 r2.pool.dom, .slice z zn zc] 26 (0, 0)) := by rw [hwX, hnb]; exact heap_set (heap_set (heap_set (heap_set (heap_set (heap_set eZ _) _) _) _) _) _
          have bX : Below wD.heap.size wD wX := by
            rw [hwX]
            exact (bA.trans (hb5.mono (by simp))).trans (Tz.below (B := wD.heap.size) (fun k hk => by omega) (by have := hb5.size; simp at this; omega))
          have hX := HFD.out.below bX
          have OX : Hid (At.Os wX z zn zc r2.osds) := by rw [hwX]; exact H5.out.2.turns Tz (os_ne H5.out.2 eZ (by simp))
          have lnb : nb ≠ w2.heap.size := by omega
          rw [← hnb]
          clear hwX hnb hb5 bA bX H5 hAp eZ Tz kz v0 v1 v2 v3 v4 v5 vf0 vf1 vf2 vf3 vf4 vf5
          have T0 := hX.cell (by omega) (HT.out.cell HTq.out)
          have lX1 : w2.heap.size < wX.heap.size := (Array.getElem?_eq_some_iff.1 hX.blk).1
          have HX := hid hX
          have x0 : wX.cell? ⟨nb, 0, none⟩ = some (.int .i64 r2.ep) := cell_heap eN rfl
          have x1 : wX.cell? ⟨nb, 1, none⟩ = some (.int .i64 r2.pool.k) := cell_heap eN rfl
          have x2 : wX.cell? ⟨nb, 2, none⟩ = some (.int .i64 r2.pool.m) := cell_heap eN rfl
          have x3 : wX.cell? ⟨nb, 3, none⟩ = some (.int .i64 r2.pool.pgs) := cell_heap eN rfl
          have x4 : wX.cell? ⟨nb, 4, none⟩ = some (.int .i64 r2.pool.dom) := cell_heap eN rfl
          have x5 : wX.cell? ⟨nb, 5, none⟩ = some (.slice z zn zc) := cell_heap eN rfl
          have g0 : wX.cell? ⟨w2.heap.size, 0, none⟩ = some (.int .i64 wm.ep) := by first | exact cell_heap hX.blk rfl | (rw [HWM.out]; exact cell_heap hX.blk rfl)
          have g1 : wX.cell? ⟨w2.heap.size, 1, none⟩ = some (.int .i64 wm.pool.k) := by first | exact cell_heap hX.blk rfl | (rw [HWM.out]; exact cell_heap hX.blk rfl)
          have g2 : wX.cell? ⟨w2.heap.size, 2, none⟩ = some (.int .i64 wm.pool.m) := by first | exact cell_heap hX.blk rfl | (rw [HWM.out]; exact cell_heap hX.blk rfl)
          have g3 : wX.cell? ⟨w2.heap.size, 3, none⟩ = some (.int .i64 wm.pool.pgs) := by first | exact cell_heap hX.blk rfl | (rw [HWM.out]; exact cell_heap hX.blk rfl)
          have g4 : wX.cell? ⟨w2.heap.size, 4, none⟩ = some (.int .i64 wm.pool.dom) := by first | exact cell_heap hX.blk rfl | (rw [HWM.out]; exact cell_heap hX.blk rfl)
          have g5 : wX.cell? ⟨w2.heap.size, 5, none⟩ = some (.slice y yn yc) := by first | exact cell_heap hX.blk rfl | (rw [HWM.out]; exact cell_heap hX.blk rfl)
          have h0 := fr_heap hX.blk 0
          have h1 := fr_heap hX.blk 1
          have h2 := fr_heap hX.blk 2
          have h3 := fr_heap hX.blk 3
          have h4 := fr_heap hX.blk 4
          have h5 := fr_heap hX.blk 5
          clear hX
          go_wp2_with fail
          go_roundw
          case rel => exact ⟨q + 1, by omega, by go_num, y, yn, yc, HX.out.stay HCC.out HM2.out⟩
          case measure => simp [intOf]; omega
    · obtain rfl : q = n := by omega
      obtain ⟨y, yn, yc, hFA⟩ := HR.out
      have htk : l.take q = l := by rw [← HL.out]; exact List.take_length
      have hblk := hFA.blk
      have hos := hFA.os
      rw [htk, HTm.out] at hblk hos
      dsimp only at hblk hos
      have e0 : wr.cell? ⟨w2.heap.size, 0, none⟩ = some (.int .i64 mf.ep) := cell_heap hblk rfl
      have d0 := hFA.cell (by omega) (cell_heap (j := 0) HMB.out rfl)
      have e1 : wr.cell? ⟨w2.heap.size, 1, none⟩ = some (.int .i64 mf.pool.k) := cell_heap hblk rfl
      have d1 := hFA.cell (by omega) (cell_heap (j := 1) HMB.out rfl)
      have e2 : wr.cell? ⟨w2.heap.size, 2, none⟩ = some (.int .i64 mf.pool.m) := cell_heap hblk rfl
      have d2 := hFA.cell (by omega) (cell_heap (j := 2) HMB.out rfl)
      have e3 : wr.cell? ⟨w2.heap.size, 3, none⟩ = some (.int .i64 mf.pool.pgs) := cell_heap hblk rfl
      have d3 := hFA.cell (by omega) (cell_heap (j := 3) HMB.out rfl)
      have e4 : wr.cell? ⟨w2.heap.size, 4, none⟩ = some (.int .i64 mf.pool.dom) := cell_heap hblk rfl
      have d4 := hFA.cell (by omega) (cell_heap (j := 4) HMB.out rfl)
      have e5 : wr.cell? ⟨w2.heap.size, 5, none⟩ = some (.slice y yn yc) := cell_heap hblk rfl
      have d5 := hFA.cell (by omega) (cell_heap (j := 5) HMB.out rfl)
      have hBr : Below w.heap.size w wr := HB3.out.trans (hFA.turns.below (B := w.heap.size) (fun k hk => by omega) HB3.out.size)
      have hOm : At.Os wr fy fyn fyc mf.osds := HOM.out.turns hFA.turns (fun h0 a ha e => by
        have := os_ne HOM.out HFA0.out.blk (by simp) h0 a ha
        exact this e)
      have hS1 := hS wr fy fyn fyc y yn yc hOm hos
      have HBr := hid hBr
      clear hFA hblk hos hBr hOm hS
      go_wp2_with (first
        | (go_at_call 14; refine hS1.mono ?_; rintro e w6 ⟨rfl, hb6⟩; clear hS1)
        | (go_at_call 19; refine (hW _).mono ?_; rintro e w7 ⟨rfl, hb7⟩; clear hW))
      go_ret
      exact ⟨rfl, on (on HBr.out hb6) hb7⟩

theorem walk (V0 : Pool) (x : Option Addr) (n c : Nat) (l : List Ch) (w : World) (hk : V0.k ≤ 9223372036854775807) (h : Cs w x n c l) : Calls Try.prog 5 #[vP V0, .slice x n c] w fun e w' => e = .returned (.bool true) ∧ Below w.heap.size w w' := by
  by_cases hn : 300 < n
  · exact walk_long V0 x n c l w h hn
  · cases hp : poolB V0 with
    | true => exact walk_yes V0 x n c l w hk h (by omega) hp
    | false => exact walk_no V0 x n c l w hk h (by omega) hp

set_option maxRecDepth 100000 in
theorem lifted (os : Os) (started : os.Started) (H : Type) (enc : TypeId × Value → H) :
    ReturnsInHanded {} Try.checked os 5 .any (Rows.atlasFoldsSpec.pre6 enc Try.prog Try.f5 Rows.atlasFoldsRow.domain false) (Rows.atlasFoldsSpec.post enc Try.prog Try.f5 false true false false) := by
  refine returnsInHanded_of_change_sized (C := Try.checked) own started (by kernel_rfl) Try.func5
    (ChangeSpec.witness6 (enc := enc) (C := Try.checked) false ⟨#[], #[.agg #[.int .i64 0, .int .i64 0, .int .i64 0, .int .i64 0], .slice none 0 0], []⟩ 8 (by kernel_rfl) (by kernel_rfl) (by kernel_rfl) (by kernel_rfl)) ?_
  intro W base args ds gs before hval0 hW hcnd hsz0 _
  have hsz : (DataW.weightsEach Try.prog (Try.f5.params.toList ++ Rows.atlasFoldsSpec.plain.varTypes Try.prog) (ds ++ gs)).all (· ≤ reachBytes) = true := hsz0
  have hval : ∀ (j : Nat) t v, Try.f5.params[j]? = some t → args[j]? = some v → Value.okWide Try.prog W .any base t v := hval0
  have hW' := hW
  obtain ⟨p, q, hA0, hV, rfl, hfz, hnd⟩ := hW
  have hA : DataW.TrodAll enc Try.prog W 0 (fun _ => true) true Try.f5.params.toList args.toList ds p := hA0
  rw [Try.params5] at hA hval hsz
  obtain ⟨v0, vs0, d0, ds0, p0, q0, hargs, rfl, rfl, h0, r0⟩ := trodAll_cons hA
  obtain ⟨v1, vs1, d1, ds1, p1, q1, rfl, rfl, rfl, h1, r1⟩ := trodAll_cons r0
  obtain ⟨rfl, rfl, rfl⟩ := trodAll_nil r1
  obtain rfl : args = #[v0, v1] := by cases args; simp_all
  obtain ⟨rfl, rfl⟩ := trodVars_none hV
  have k0 := h0
  have lt0 : ∀ x ∈ p0, x.block < W.heap.size := by obtain ⟨m, hm⟩ := k0; exact DataW.trod_lt m _ _ _ hm
  have s0 : ∀ x ∈ d0.weights Try.prog 23, x ≤ reachBytes := fun x hx => by
    have := List.all_eq_true.1 hsz x (DataW.weights_mem_each (j := 0) rfl rfl x hx)
    simpa using this
  obtain ⟨V0, rfl, w0⟩ := At.pool_in (okWide_struct Try.underlying23 (hval 0 23 v0 rfl rfl)) h0
  have k1 := h1
  have lt1 : ∀ x ∈ p1, x.block < W.heap.size := by obtain ⟨m, hm⟩ := k1; exact DataW.trod_lt m _ _ _ hm
  have s1 : ∀ x ∈ d1.weights Try.prog 47, x ≤ reachBytes := fun x hx => by
    have := List.all_eq_true.1 hsz x (DataW.weights_mem_each (j := 1) rfl rfl x hx)
    simpa using this
  obtain ⟨b1, nn1, cc1, rfl⟩ := okWide_slice Try.underlying47 (hval 1 47 v1 rfl rfl)
  obtain ⟨fu1, hf1⟩ := h1
  obtain ⟨a1, len1, cap1, V1, e1, w1, _⟩ := At.chs_in hf1 s1
  simp [Value.cells] at e1
  obtain ⟨rfl, rfl, rfl⟩ := e1
  clear hA0 hval0
  refine (walk V0 b1 nn1 cc1 V1 W w0 w1).mono fun e W' ⟨he, bel⟩ => ?_
  subst he
  exact ⟨_, rfl, _, _, _, [], _, [], hW', trodAll_mk1 (shut_bool Try.underlying4 _), (trodAll_cons_mk (Below.trod laidOut (by kernel_rfl) (of_decide_eq_true (by kernel_rfl)) k0 bel lt0) (trodAll_cons_mk (Below.trod laidOut (by kernel_rfl) (of_decide_eq_true (by kernel_rfl)) k1 bel lt1) trodAll_mk0)), rfl, bel.frame _, fun h => by cases h⟩

theorem over : Rows.atlasFoldsRow.holds Try.pinned (OpenSpec.ofChange Rows.atlasFoldsSpec) :=
  OpenClaim.holds_of_wide 5 Try.f5 rfl rfl rfl rfl rfl rfl rfl ⟨rfl, rfl, rfl, rfl, rfl⟩ rfl rfl rfl rfl rfl (by kernel_rfl) Try.func5 (by kernel_rfl)
    (of_decide_eq_true (by kernel_rfl)) (by unfold Func.isWrapper; first | (rw [if_pos (by decide +kernel)]; kernel_rfl) | (rw [if_neg (by decide +kernel)]; exact ⟨rfl, rfl⟩))
    (fun os started H enc _ => lifted os started H enc)

theorem proved : Rows.AtlasFoldsSaid := over
#print axioms proved
end Go.Proofs.Ytnddhlkdemibgaa.atlasFolds
