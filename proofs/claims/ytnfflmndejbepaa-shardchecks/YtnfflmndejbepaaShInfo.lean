/-
  What is told of a holder: Info.
  Conditions: the holder lies in memory.
-/
import Derived.Test.YtnfflmndejbepaaJShTake
import Derived.Test.YtnfflmndejbepaaJShFil
import Derived.Test.YtnfflmndejbepaaJShWrP
import Derived.Laws.MakeOwn
namespace Go.Proofs.Ytnfflmndejbepaa.Sh
set_option linter.unusedSectionVars false
variable [Inhabited DZ]
open Go.RowKit By Fl
set_option linter.unusedVariables false
set_option linter.unusedSimpArgs false
set_option maxRecDepth 100000

/- One that is told of as standing by. -/
structure TV where
  si : Int
  hd : Int
def enT (v : TV) : List Value := [.int .i64 v.si, .int .i64 v.hd]
def TAt (w : World) (F : Nat → Prop) (v : TV) : Prop := True
def Ts := Lis enT 2 TAt
def tOf (s : SV) : TV := ⟨s.si, s.n2⟩
theorem Ts.below {w w' : World} {F : Nat → Prop} {x : Option Addr} {n c : Nat} {L : List TV} (h : Ts w F x n c L) (k : Below w.heap.size w w') : Ts w' F x n c L := Lis.keeps (fun _ _ => trivial) h (.below k)
theorem t_at {w : World} {b o k : Nat} {L : List TV} {v : TV} (h : ∀ (k : Nat) (v : TV), L[k]? = some v → ∀ (j : Nat) (u : Value), (enT v)[j]? = some u → w.cell? ⟨b, o + k * 2 + j, none⟩ = some u) (hk : L[k]? = some v) :
    w.cell? ⟨b, o + k * 2, none⟩ = some (.int .i64 v.si) ∧ w.cell? ⟨b, o + k * 2 + 1, none⟩ = some (.int .i64 v.hd) := ⟨h k v hk 0 _ rfl, h k v hk 1 _ rfl⟩
theorem trow : Row 48 91 2 16 enT := by
  have hi : (Try.prog.info? 91).map (fun i => (i.zero, i.size, i.bytes)) = some (some (.agg #[.int .i64 0, .int .i64 0]), 2, 16) := by kernel_rfl
  obtain ⟨i0, h1, h2, h3, h4⟩ := info_parts hi
  exact ⟨Try.underlying48, ⟨i0, _, h1, h2, h3, h4, rfl⟩, by decide, by decide, fun a => rfl, fun a v hv => by simp [enT] at hv; rcases hv with rfl | rfl <;> rfl⟩

def zNBox : Array Value := #[.int .i64 0, .int .i64 0, .int .i64 0, .int .i64 0, .slice none 0 0]
/- What is told of a holder. -/
def ITells (w : World) (v : HV) (os li : Int) (e : Ending) (w' : World) : Prop := ∃ x c, e = .returned (.agg #[.int .i64 os, .int .i64 li, .int .i64 v.now.si, .int .i64 v.now.n2, .slice x v.n c]) ∧ Hid (Ts w' (fun _ => True) x v.n c (v.N.map tOf) ∧ Below w.heap.size w w')

def BCells (n : Nat) : Array Value := madeCells #[.int .i64 0, .int .i64 0] (n * 2)
theorem make_t (n : Nat) (hn : n ≤ 100000000) (w : World) : (Instr.makeSlice 48 (.int .i64 (n : Int)) (.int .i64 (n : Int))).run Try.prog w = .ok (.slice (some ⟨w.heap.size, 0, none⟩) n n) (w.alloc (.cells (BCells n) 91)) := by
  have hi : (Try.prog.info? 91).map (fun i => (i.zero, i.size, i.bytes)) = some (some (.agg #[.int .i64 0, .int .i64 0]), 2, 16) := by kernel_rfl
  obtain ⟨i0, h1, h2, h3, h4⟩ := info_parts hi
  have := run_make (P := Try.prog) w 48 91 i0 _ Try.underlying48 h1 h2 .i64 .i64 (n : Int) (n : Int) (by omega) (by omega) (by rw [h4]; omega) (by omega)
  rw [this, h3]
  simp
  rfl

/- A block that is filled as far as k. -/
def Stg (A : Array Value) (n : Nat) (N : List SV) (k : Nat) : Prop := A.size = n * 2 ∧ (∀ j, j < n * 2 → ∃ z : Int, A[j]? = some (.int .i64 z)) ∧ ∀ (i : Nat) (s : SV), i < k → N[i]? = some s → A[i * 2]? = some (.int .i64 s.si) ∧ A[i * 2 + 1]? = some (.int .i64 s.n2)
theorem Stg.new (n : Nat) (N : List SV) : Stg (BCells n) n N 0 := by
  refine ⟨by simp [BCells, madeCells], fun j hj => ⟨0, ?_⟩, fun i s hi => by omega⟩
  unfold BCells madeCells
  have h2 : j % 2 = 0 ∨ j % 2 = 1 := by omega
  rcases h2 with h | h <;> simp [hj, h]
theorem Stg.put {A : Array Value} {n k : Nat} {N : List SV} {s : SV} (h : Stg A n N k) (hs : N[k]? = some s) (hk : k < n) : Stg ((A.setIfInBounds (k * 2) (.int .i64 s.si)).setIfInBounds (k * 2 + 1) (.int .i64 s.n2)) n N (k + 1) := by
  have ge : ∀ j, j < n * 2 → ∃ z : Int, A[j]? = some (.int .i64 z) := h.2.1
  obtain ⟨z0, e0⟩ := ge (k * 2) (by omega)
  obtain ⟨z1, e1⟩ := ge (k * 2 + 1) (by omega)
  have q0 : ((A.setIfInBounds (k * 2) (.int .i64 s.si)).setIfInBounds (k * 2 + 1) (.int .i64 s.n2))[k * 2]? = some (.int .i64 s.si) := by rw [arr_ne (by omega)]; exact arr_eq e0
  have q1 : ((A.setIfInBounds (k * 2) (.int .i64 s.si)).setIfInBounds (k * 2 + 1) (.int .i64 s.n2))[k * 2 + 1]? = some (.int .i64 s.n2) := arr_eq (u := .int .i64 z1) (by rw [arr_ne (by omega)]; exact e1)
  refine ⟨by simpa using h.1, fun j hj => ?_, fun i t hi ht => ?_⟩
  · by_cases c1 : j = k * 2 + 1
    · subst c1; exact ⟨_, q1⟩
    · by_cases c0 : j = k * 2
      · subst c0; exact ⟨_, q0⟩
      · rw [arr_ne c1, arr_ne c0]; exact ge j hj
  · by_cases e : i = k
    · subst e
      rw [hs] at ht
      cases ht
      exact ⟨q0, q1⟩
    · rw [arr_ne (by omega), arr_ne (by omega), arr_ne (by omega), arr_ne (by omega)]
      exact h.2.2 i t (by omega) ht
theorem Stg.done {A : Array Value} {n g : Nat} {N : List SV} {w : World} (h : Stg A n N n) (hl : N.length = n) (hs : n ≤ 100000000) (hg : w.heap[g]? = some (.cells A 91 (0, 0))) : Ts w (fun q => q = g) (some ⟨g, 0, none⟩) n n (N.map tOf) := by
  refine ⟨by simpa using hl, Nat.le_refl _, hs, fun e => (by cases e), .inr ⟨g, 0, rfl, lt_heap hg, rfl, fun k a hk j v hv => ?_⟩, fun _ _ => trivial⟩
  rw [List.getElem?_map] at hk
  obtain ⟨s, hs, rfl⟩ := Option.map_eq_some_iff.1 hk
  have hlt : k < N.length := (List.getElem?_eq_some_iff.1 hs).1
  obtain ⟨q0, q1⟩ := h.2.2 k s (by omega) hs
  rw [Nat.zero_add]
  match j, hv with
  | 0, hv => injection hv with hv; subst hv; exact cell_heap hg q0
  | 1, hv => injection hv with hv; subst hv; exact cell_heap hg q1

/- As far as the k-th. -/
structure InSt (w wr : World) (v : HV) (k : Nat) : Prop where
  bel : Below w.heap.size w wr
  box : wr.heap[w.heap.size]? = some (.cells (HCells v) 29 (0, 0))
  res : wr.heap[w.heap.size + 1]? = some (.cells zNBox 50 (0, 0))
  blk : ∃ A, wr.heap[w.heap.size + 2]? = some (.cells A 91 (0, 0)) ∧ Stg A v.n v.N k

section
variable {w wr wz : World} {v : HV} {k : Nat}
theorem InSt.below (h : InSt w wr v k) (b : Below wr.heap.size wr wz) : InSt w wz v k := by
  obtain ⟨A, hA, hS⟩ := h.blk
  exact ⟨on h.bel b, (b.block _ (lt_heap h.box)).trans h.box, (b.block _ (lt_heap h.res)).trans h.res, A, (b.block _ (lt_heap hA)).trans hA, hS⟩
theorem InSt.step {s : SV} (h : InSt w wr v k) (hs : v.N[k]? = some s) (hk : k < v.n) : InSt w ((wr.setCell ⟨w.heap.size + 2, k * 2, none⟩ (.int .i64 s.si)).setCell ⟨w.heap.size + 2, k * 2 + 1, none⟩ (.int .i64 s.n2)) v (k + 1) := by
  obtain ⟨A, hA, hS⟩ := h.blk
  have t : Turns (fun q => q = w.heap.size + 2) wr ((wr.setCell ⟨w.heap.size + 2, k * 2, none⟩ (.int .i64 s.si)).setCell ⟨w.heap.size + 2, k * 2 + 1, none⟩ (.int .i64 s.n2)) := turns_put (turns_put (Turns.refl _ _) _ _) _ _
  exact ⟨h.bel.trans (t.below (fun q e => by omega) h.bel.size), (t.block _ (lt_heap h.box) (by omega)).trans h.box, (t.block _ (lt_heap h.res) (by omega)).trans h.res, _, heap_set (heap_set hA _) _, hS.put hs hk⟩
end

set_option maxHeartbeats 6400000 in
theorem info_any {w : World} {F : Nat → Prop} {v : HV} (os li : Int) (h : HAt w F v) : Calls Try.prog 21 #[vH v, .int .i64 os, .int .i64 li] w (ITells w v os li) := by
  obtain ⟨w1, hw1⟩ : ∃ w1, w1 = (w.alloc (.cells (HCells v) 29)).alloc (.cells zNBox 50) := ⟨_, rfl⟩
  obtain ⟨bb, hsz, g0, g1⟩ := two_boxes2 w (HCells v) zNBox 29 50
  rw [← hw1] at bb hsz g0 g1
  obtain ⟨w2, hw2⟩ : ∃ w2, w2 = w1.alloc (.cells (BCells v.n) 91) := ⟨_, rfl⟩
  have b2 : Below w1.heap.size w1 w2 := by rw [hw2]; exact al _ _
  have g2 : w2.heap[w.heap.size + 2]? = some (.cells (BCells v.n) 91 (0, 0)) := by rw [hw2, ← hsz]; exact heap_alloc_new _ _
  have HS0 : Hid (InSt w w2 v 0) := hid ⟨on bb b2, (b2.block _ (lt_heap g0)).trans g0, (b2.block _ (lt_heap g1)).trans g1, _, g2, Stg.new _ _⟩
  have hsm := h.n.small
  have hmk := make_t v.n hsm w1
  rw [hsz, ← hw2] at hmk
  have HA := hid h.n
  have HL := hid h.n.len
  have HSz := hid hsz
  have a6 : w1.cell? ⟨w.heap.size, 6, none⟩ = some (.slice v.x v.n v.c) := cell_heap g0 (j := 6) rfl
  have HK6 : Hid (∀ W, InSt w W v 0 → W.cell? ⟨w.heap.size, 6, none⟩ = some (.slice v.x v.n v.c)) := hid fun W hW => cell_heap hW.box rfl
  clear h bb hsz g0 g1 b2 g2 hw2
  obtain ⟨fe, ⟨pl, si, x1, n1, c1, I, x2, n2, c2, E, x3, n3, c3, U⟩, x, n, c, N⟩ := v
  unfold HCells zNBox at hw1
  unfold vH
  dsimp only at *
  go_enter Try.func21, Try.ntmps21
  go_upto_region 1 with (fail)
  rw [← hw1]
  clear hw1
  go_upto_region 2 with (fail)
  clear a6 hmk
  have a6 := HK6.out w2 HS0.out
  go_wp2_with fail
  clear a6 HK6
  go_loopw [17] (fun i wr => ∃ k : Nat, k ≤ n ∧ i = .int .i64 k ∧ Hid (InSt w wr ⟨fe, ⟨pl, si, x1, n1, c1, I, x2, n2, c2, E, x3, n3, c3, U⟩, x, n, c, N⟩ k)) (fun i _ => n - (intOf i).toNat)
  case atStart => exact ⟨0, by omega, rfl, HS0.out⟩
  case round =>
    clear HS0
    obtain ⟨k, hk, rfl, HR⟩ := hrel
    by_cases hlt : k < n
    · have hkn : (k : Int) < (n : Int) := by omega
      obtain ⟨a, ha, hm⟩ := Lis.some HA.out hlt
      rcases HA.out.row with hr0 | ⟨bl, o, hx, hbl, _, hc⟩
      · omega
      obtain ⟨k0, k1, k2, k3, k4⟩ := s_at hc ha
      have hbw := HR.out.bel
      replace k0 := keep hbw k0
      replace k1 := keep hbw k1
      replace k2 := keep hbw k2
      replace k3 := keep hbw k3
      replace k4 := keep hbw k4
      obtain ⟨w3, hw3⟩ : ∃ w3, w3 = wr.alloc (.cells #[.int .i64 a.pl, .int .i64 a.si, .slice a.x1 a.n1 a.c1, .slice a.x2 a.n2 a.c2, .slice a.x3 a.n3 a.c3] 26) := ⟨_, rfl⟩
      have b3 : Below wr.heap.size wr w3 := by rw [hw3]; exact al _ _
      have HM := hid ha
      have HN := hid (fun W (hW : Below wr.heap.size wr W) => (HR.out.below hW).step ha hlt)
      have HAk : Hid (∀ W, Below wr.heap.size wr W → ∃ z0 z1 : Int, W.cell? ⟨w.heap.size + 2, k * 2, none⟩ = some (.int .i64 z0) ∧ W.cell? ⟨w.heap.size + 2, k * 2 + 1, none⟩ = some (.int .i64 z1) ∧ W.frozen? ⟨w.heap.size + 2, k * 2, none⟩ = false ∧ W.frozen? ⟨w.heap.size + 2, k * 2 + 1, none⟩ = false) := hid fun W hW => by
        obtain ⟨A, hA, hS⟩ := (HR.out.below hW).blk
        obtain ⟨z0, e0⟩ := hS.2.1 (k * 2) (by show k * 2 < n * 2; omega)
        obtain ⟨z1, e1⟩ := hS.2.1 (k * 2 + 1) (by show k * 2 + 1 < n * 2; omega)
        exact ⟨z0, z1, cell_heap hA e0, cell_heap hA e1, fr_heap hA _, fr_heap hA _⟩
      have hH := fun W => head_any a W
      have HB3 := hid b3
      obtain ⟨ql, qs, r1, m1, d1, qI, r2, m2, d2, qE, r3, m3, d3, qU⟩ := a
      have HK := hid (⟨by rw [hw3]; go_simp, by rw [hw3]; go_simp, by rw [hw3]; go_simp, by rw [hw3]; go_simp, by rw [hw3]; go_simp⟩ : w3.cell? ⟨wr.heap.size, 0, none⟩ = some (.int .i64 ql) ∧ w3.cell? ⟨wr.heap.size, 1, none⟩ = some (.int .i64 qs) ∧ w3.cell? ⟨wr.heap.size, 2, none⟩ = some (.slice r1 m1 d1) ∧ w3.cell? ⟨wr.heap.size, 3, none⟩ = some (.slice r2 m2 d2) ∧ w3.cell? ⟨wr.heap.size, 4, none⟩ = some (.slice r3 m3 d3))
      unfold vS at hH
      dsimp only at k0 k1 k2 k3 k4 hw3 hH HN
      have HH := hid hH
      have HW3 := hid hw3
      clear hc ha hm hbl hbw b3 hH hw3
      subst hx
      go_wp2_with fail
      rw [← HW3.out]
      clear k0 k1 k2 k3 k4
      refine wp_region_tail (fun v => v.cell? ⟨wr.heap.size, 0, none⟩ = some (.int .i64 ql) ∧ v.cell? ⟨wr.heap.size, 1, none⟩ = some (.int .i64 qs) ∧ v.cell? ⟨wr.heap.size, 2, none⟩ = some (.slice r1 m1 d1) ∧ v.cell? ⟨wr.heap.size, 3, none⟩ = some (.slice r2 m2 d2) ∧ v.cell? ⟨wr.heap.size, 4, none⟩ = some (.slice r3 m3 d3)) [7, 8] (by kernel_rfl) HK.out (fun hS => ?_)
      have bD : Below wr.heap.size wr w3.drew := on HB3.out (Below.refl _ _).drew
      generalize w3.drew = wD at *
      refine By.tk 0 ?_
      refine By.tk 1 ?_
      refine By.tk 2 ?_
      refine By.tk 3 ?_
      refine By.tk 4 ?_
      refine wpAnyT_one (i := 5) (by kernel_rfl) rfl (fun K hK => ?_)
      go_simp
      refine (HH.out wD).mono ?_
      rintro e w4 ⟨rfl, b4⟩
      have S4 := (⟨keep b4 hS.1, keep b4 hS.2.1, keep b4 hS.2.2.1, keep b4 hS.2.2.2.1, keep b4 hS.2.2.2.2⟩ : w4.cell? ⟨wr.heap.size, 0, none⟩ = some (.int .i64 ql) ∧ w4.cell? ⟨wr.heap.size, 1, none⟩ = some (.int .i64 qs) ∧ w4.cell? ⟨wr.heap.size, 2, none⟩ = some (.slice r1 m1 d1) ∧ w4.cell? ⟨wr.heap.size, 3, none⟩ = some (.slice r2 m2 d2) ∧ w4.cell? ⟨wr.heap.size, 4, none⟩ = some (.slice r3 m3 d3))
      refine hK.out _ _ (fun _ => S4) ?_
      clear hK K
      refine By.tk 6 ?_
      obtain ⟨z0, z1, e0, e1, f0, f1⟩ := HAk.out w4 (on bD b4)
      have HN4 := hid (HN.out w4 (on bD b4))
      clear hS S4 bD b4 HN HAk
      refine wpAnyT_one (i := 7) (by kernel_rfl) rfl (fun K hK => ?_)
      go_simp
      refine hK.out _ _ (fun h => absurd (by decide) h) ?_
      clear hK K
      refine wpAnyT_one (i := 8) (by kernel_rfl) rfl (fun K hK => ?_)
      go_simp
      refine hK.out _ _ (fun h => absurd (by decide) h) ?_
      clear hK K
      refine wpAnyT_done (by kernel_rfl) ?_ _
      clear e0 e1 f0 f1
      go_wp2_with fail
      go_roundw
      case rel => exact ⟨k + 1, by omega, by go_num, HN4.out⟩
      case measure => simp [intOf]; omega
    · have hk2 : n = k := by omega
      subst hk2
      obtain ⟨A, hA, hS⟩ := HR.out.blk
      have HD := hid (hS.done (w := wr) HL.out hsm hA)
      have HX := hid HR.out
      have HF : Hid (∀ W4 W, Below wr.heap.size wr W4 → Turns (fun q => q = w.heap.size + 1) W4 W → ITells w ⟨fe, ⟨pl, si, x1, n1, c1, I, x2, n2, c2, E, x3, n3, c3, U⟩, x, n, c, N⟩ os li (.returned (.agg #[.int .i64 os, .int .i64 li, .int .i64 si, .int .i64 n2, .slice (some ⟨w.heap.size + 2, 0, none⟩) n n])) W) := hid fun W4 W b t => by
        have bW : Below w.heap.size w W := (on HX.out.bel b).trans (t.below (fun q e => by omega) (on HX.out.bel b).size)
        exact ⟨_, _, rfl, hid ⟨Lis.weak (fun _ _ => trivial) (Lis.keeps (fun _ _ => trivial) (HD.out.below b) (.turns t fun q e1 e2 => by omega)) fun _ _ => trivial, bW⟩⟩
      have HRs : Hid (∀ W, Below wr.heap.size wr W → W.heap[w.heap.size + 1]? = some (.cells zNBox 50 (0, 0))) := hid fun W hW => (HX.out.below hW).res
      obtain ⟨q0, q1, q2, q3, q4, q5, q6⟩ := hcells HX.out.box
      have S1 := (⟨keep (Below.refl _ _).drew q1, keep (Below.refl _ _).drew q2, keep (Below.refl _ _).drew q3, keep (Below.refl _ _).drew q4, keep (Below.refl _ _).drew q5⟩ : wr.drew.cell? ⟨w.heap.size, 1, none⟩ = some (.int .i64 pl) ∧ wr.drew.cell? ⟨w.heap.size, 2, none⟩ = some (.int .i64 si) ∧ wr.drew.cell? ⟨w.heap.size, 3, none⟩ = some (.slice x1 n1 c1) ∧ wr.drew.cell? ⟨w.heap.size, 4, none⟩ = some (.slice x2 n2 c2) ∧ wr.drew.cell? ⟨w.heap.size, 5, none⟩ = some (.slice x3 n3 c3))
      have hH := fun W => head_any ⟨pl, si, x1, n1, c1, I, x2, n2, c2, E, x3, n3, c3, U⟩ W
      unfold vS at hH
      dsimp only at hH
      have HH := hid hH
      clear hA hS q0 q1 q2 q3 q4 q5 q6 hH HR hlt
      go_upto_region 7 with (fail)
      refine wp_region_tail (fun W => W.cell? ⟨w.heap.size, 1, none⟩ = some (.int .i64 pl) ∧ W.cell? ⟨w.heap.size, 2, none⟩ = some (.int .i64 si) ∧ W.cell? ⟨w.heap.size, 3, none⟩ = some (.slice x1 n1 c1) ∧ W.cell? ⟨w.heap.size, 4, none⟩ = some (.slice x2 n2 c2) ∧ W.cell? ⟨w.heap.size, 5, none⟩ = some (.slice x3 n3 c3)) [10] (by kernel_rfl) S1 (fun hS => ?_)
      have bD : Below wr.heap.size wr wr.drew := (Below.refl _ _).drew
      clear S1
      generalize wr.drew = wD at *
      refine By.tk 0 ?_
      refine By.tk 1 ?_
      refine By.tk 2 ?_
      refine By.tk 3 ?_
      refine By.tk 4 ?_
      refine By.tk 5 ?_
      refine By.tk 6 ?_
      refine By.tk 8 ?_
      refine wpAnyT_one (i := 7) (by kernel_rfl) rfl (fun K hK => ?_)
      go_simp
      refine (HH.out wD).mono ?_
      rintro e w4 ⟨rfl, b4⟩
      have S4 := (⟨keep b4 hS.1, keep b4 hS.2.1, keep b4 hS.2.2.1, keep b4 hS.2.2.2.1, keep b4 hS.2.2.2.2⟩ : w4.cell? ⟨w.heap.size, 1, none⟩ = some (.int .i64 pl) ∧ w4.cell? ⟨w.heap.size, 2, none⟩ = some (.int .i64 si) ∧ w4.cell? ⟨w.heap.size, 3, none⟩ = some (.slice x1 n1 c1) ∧ w4.cell? ⟨w.heap.size, 4, none⟩ = some (.slice x2 n2 c2) ∧ w4.cell? ⟨w.heap.size, 5, none⟩ = some (.slice x3 n3 c3))
      refine hK.out _ _ (fun _ => S4) ?_
      clear hK K
      refine By.tk 9 ?_
      have HB4 := hid (on bD b4)
      clear hS S4 bD b4 HH
      have gr := HRs.out w4 HB4.out
      unfold zNBox at gr
      have b0 := cell_heap gr (j := 0) rfl
      have fb0 := fr_heap gr 0
      have b1 := cell_heap gr (j := 1) rfl
      have fb1 := fr_heap gr 1
      have b2 := cell_heap gr (j := 2) rfl
      have fb2 := fr_heap gr 2
      have b3 := cell_heap gr (j := 3) rfl
      have fb3 := fr_heap gr 3
      have b4 := cell_heap gr (j := 4) rfl
      have fb4 := fr_heap gr 4
      clear gr
      refine wpAnyT_one (i := 10) (by kernel_rfl) rfl (fun K hK => ?_)
      go_simp
      refine hK.out _ _ (fun h => absurd (by decide) h) ?_
      clear hK K
      refine wpAnyT_done (by kernel_rfl) ?_ _
      go_wp2_with fail
      refine bodyPost_ret (v := .agg #[.int .i64 os, .int .i64 li, .int .i64 si, .int .i64 n2, .slice (some ⟨w.heap.size + 2, 0, none⟩) n n]) ?_ rfl ?_
      · rw [results_cell1 rfl]
        go_simp
      · refine HF.out w4 _ HB4.out ?_
        repeat (first | with_reducible exact Turns.refl _ _ | with_reducible refine turns_put ?_ _ _)
end Go.Proofs.Ytnfflmndejbepaa.Sh
