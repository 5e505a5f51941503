/-
  2 texts of this proof, one behind the other: AtRefDecC, AtRefDecM.
-/
import Derived.Test.YtnddhlkdemibgaaJ15
import Derived.Test.YtnddhlkdemibgaaJ16
import Derived.Test.YtnddhlkdemibgaaJ11
import Derived.Test.YtnddhlkdemibgaaJ10
/-
  The document's DecodeChange.
  Conditions: bytes that lie in memory.
-/
namespace Go.Proofs.Ytnddhlkdemibgaa.At
open Go.RowKit By Fl Wi
set_option linter.unusedVariables false
set_option linter.unusedSimpArgs false
set_option maxRecDepth 100000

def putO (w : World) (g : Nat) (v1 v2 v3 v4 v5 v6 v7 v8 : Value) : World := ((((((((w.setCell ⟨g, 1, none⟩ v1).setCell ⟨g, 2, none⟩ v2).setCell ⟨g, 3, none⟩ v3).setCell ⟨g, 4, none⟩ v4).setCell ⟨g, 5, none⟩ v5).setCell ⟨g, 6, none⟩ v6).setCell ⟨g, 7, none⟩ v7).setCell ⟨g, 8, none⟩ v8)

theorem putO_turns (w : World) (g : Nat) (v1 v2 v3 v4 v5 v6 v7 v8 : Value) : Turns (fun k => k = g) w (putO w g v1 v2 v3 v4 v5 v6 v7 v8) := (turns_put (turns_put (turns_put (turns_put (turns_put (turns_put (turns_put (turns_put (Turns.refl _ _) _ _) _ _) _ _) _ _) _ _) _ _) _ _) _ _)

theorem putO_heap {w : World} {g : Nat} {t : TypeId} {z0 z1 z2 z3 z4 z5 z6 z7 z8 : Value} (h : w.heap[g]? = some (.cells #[z0, z1, z2, z3, z4, z5, z6, z7, z8] t (0, 0))) (v1 v2 v3 v4 v5 v6 v7 v8 : Value) : (putO w g v1 v2 v3 v4 v5 v6 v7 v8).heap[g]? = some (.cells #[z0, v1, v2, v3, v4, v5, v6, v7, v8] t (0, 0)) := by
  unfold putO
  refine ((heap_set (heap_set (heap_set (heap_set (heap_set (heap_set (heap_set (heap_set h _) _) _) _) _) _) _) _)).trans ?_
  simp

theorem decCR_parts {L l1 : List Nat} {e1 v1 : Nat} (h : rNum 2147483647 L 0 = (v1, l1, e1)) : decCR L = if mayC ⟨(v1 : Int), osdN (numsR (bigT 8) l1 e1).1⟩ = true ∧ wrB (numsC ⟨(v1 : Int), osdN (numsR (bigT 8) l1 e1).1⟩) = L then (⟨(v1 : Int), osdN (numsR (bigT 8) l1 e1).1⟩, true) else (zCh, false) := by
  have e : numsR (bigT 9) L 0 = ((v1 : Int) :: (numsR (bigT 8) l1 e1).1, (numsR (bigT 8) l1 e1).2) := by
    show numsR (2147483647 :: bigT 8) L 0 = _
    simp only [numsR, h]
  unfold decCR
  dsimp only
  rw [e]
  rfl

set_option maxHeartbeats 3200000 in
theorem rdc_0 {x : Option Addr} {n c : Nat} {L : List Nat} {w : World} (hl : Go.Proofs.Ytnddhlkdemibgaa.Sl w x n c L) (hn : n ≤ 140737488355328) {v1 e1 : Nat} {l1 : List Nat} (hr : rNum 2147483647 L 0 = (v1, l1, e1)) {o : Osd} (ho : osdN (numsR (bigT 8) l1 e1).1 = o) (hm : mayC ⟨(v1 : Int), o⟩ = false) :
    Calls Try.prog 31 #[.slice x n c] w fun ed w' => ed = .returned (.tuple #[.agg #[.int .i64 0, .int .i64 0, .bool false, .bool false, .int .i64 0, .int .i64 0, .int .i64 0, .int .i64 0, .int .i64 0], .int .i64 5]) ∧ Below w.heap.size w w' := by
  obtain ⟨wA, hwA⟩ : ∃ wA, wA = w.alloc (.cells #[.int .i64 0, .int .i64 0, .bool false, .bool false, .int .i64 0, .int .i64 0, .int .i64 0, .int .i64 0, .int .i64 0] 30) := ⟨_, rfl⟩
  have bA : Below w.heap.size w wA := by rw [hwA]; exact al _ _
  have resA : wA.heap[w.heap.size]? = some (.cells #[.int .i64 0, .int .i64 0, .bool false, .bool false, .int .i64 0, .int .i64 0, .int .i64 0, .int .i64 0, .int .i64 0] 30 (0, 0)) := by rw [hwA]; exact heap_alloc_new _ _
  have sA : wA.heap.size = w.heap.size + 1 := by rw [hwA]; simp
  obtain ⟨wR, hwR⟩ : ∃ wR, wR = wA.alloc (.cells #[.slice x n c, .int .i64 0, .int .i64 0] 88) := ⟨_, rfl⟩
  have bR : Below wA.heap.size wA wR := by rw [hwR]; exact al _ _
  have rdb : wR.heap[wA.heap.size]? = some (.cells #[.slice x n c, .int .i64 0, .int .i64 0] 88 (0, 0)) := by rw [hwR]; exact heap_alloc_new _ _
  have hslR := hl.below (on bA bR)
  have hRd : RdR wR (w.heap.size + 1) x n c L L 0 := by
    rw [sA] at rdb
    refine ⟨0, ⟨cell_heap rdb rfl, cell_heap rdb rfl, cell_heap rdb rfl, fun j => fr_heap rdb j, hslR, fun h0 a ha e => ?_, Nat.zero_le _, hn⟩, rfl⟩
    rcases hl.row with h2 | ⟨b, o, h2, h3, _⟩
    · exact h0 h2
    · rw [h2] at ha; injection ha with ha; rw [← ha] at e; have e2 : b = w.heap.size + 1 := e; omega
  have hN : Calls Try.prog 51 #[.pointer (some ⟨w.heap.size + 1, 0, none⟩)] wR fun ed w' => ed = .returned (.int .i64 (v1 : Int)) ∧ Hid (Turns (atP (w.heap.size + 1)) wR w' ∧ RdR w' (w.heap.size + 1) x n c L l1 e1) := (number_any hRd).mono fun ed w' ⟨v, l', e', h1, h2⟩ => by
    have h3 := h2.out.1.symm.trans hr
    injection h3 with h4 h5
    injection h5 with h5 h6
    subst h4 h5 h6
    exact ⟨h1, h2.out.2⟩
  have resR : wR.heap[w.heap.size]? = some (.cells #[.int .i64 0, .int .i64 0, .bool false, .bool false, .int .i64 0, .int .i64 0, .int .i64 0, .int .i64 0, .int .i64 0] 30 (0, 0)) := heap_keep bR resA
  have sR : wR.heap.size = w.heap.size + 2 := by rw [hwR]; simp [sA]
  have HS := hid (And.intro (hl.below (on bA bR)) (And.intro (on bA bR) (And.intro resR sR)))
  have HXb : Hid (n ≠ 0 → ∀ a, x = some a → a.block < w.heap.size) := fun h0 a ha => by
    rcases hl.row with h2 | ⟨b, o, h2, h3, _⟩
    · exact absurd h2 h0
    · rw [h2] at ha; injection ha with ha; rw [← ha]; exact h3
  have hG := fun (W : World) (h : RdR W (w.heap.size + 1) x n c L l1 e1) => getOsd_any h
  rw [ho] at hG
  have hEn := fun W => rencC_any ⟨(v1 : Int), o⟩ W
  rw [hm] at hEn
  have HLt : Hid (∀ v ∈ wrB (numsC ⟨(v1 : Int), o⟩), v < 256) := hid (wrB_lt _)
  have eF : errB false = 1 := rfl
  rw [eF] at hEn
  simp only [Bool.false_eq_true, if_false] at hEn
  clear HLt
  clear hr ho hm hRd resR rdb hslR hl hn bA bR resA sA sR
  obtain ⟨i0, i1, i2, i3, i4, i5, i6, i7⟩ := o
  unfold vO at hG
  unfold vC at *
  dsimp only at hG hEn ⊢
  subst hwR hwA
  go_enter Try.func31, Try.ntmps31
  go_wp2_with (first
    | (
       go_at_call 51; refine hN.mono ?_; rintro ed w1 ⟨rfl, H1⟩; clear hN
       have bC := al w1 (.cells #[.int .i64 (v1 : Int), .int .i64 0, .bool false, .bool false, .int .i64 0, .int .i64 0, .int .i64 0, .int .i64 0, .int .i64 0] 30)
       have hG1 := hG _ (H1.out.2.below bC)
       have hl1 : w.heap.size + 2 ≤ w1.heap.size := by have := H1.out.1.size; have := HS.out.2.2.2; omega
       have res1 := heap_keep bC ((H1.out.1.block w.heap.size (by have := HS.out.2.2.2; omega) (fun e => by have e3 : w.heap.size = w.heap.size + 1 := e; omega)).trans HS.out.2.2.1)
       have box1 := heap_alloc_new w1 (.cells #[.int .i64 (v1 : Int), .int .i64 0, .bool false, .bool false, .int .i64 0, .int .i64 0, .int .i64 0, .int .i64 0, .int .i64 0] 30)
       have HC := hid (And.intro bC (And.intro res1 (And.intro box1 hl1)))
       clear bC hG res1 box1 hl1)
    | (
       go_at_call 53; refine hG1.mono ?_; rintro ed w3 ⟨rfl, H3⟩; clear hG1
       have hl1 := HC.out.2.2.2
       have hne : ¬ atP (w.heap.size + 1) w1.heap.size := fun e => by have e3 : w1.heap.size = w.heap.size + 1 := e; omega
       have res3 := (H3.out.1.block w.heap.size ((Array.getElem?_eq_some_iff.1 HC.out.2.1).1) (fun e => by have e3 : w.heap.size = w.heap.size + 1 := e; omega)).trans HC.out.2.1
       have box3 : w3.heap[w1.heap.size]? = some (.cells #[.int .i64 (v1 : Int), .int .i64 0, .bool false, .bool false, .int .i64 0, .int .i64 0, .int .i64 0, .int .i64 0, .int .i64 0] 30 (0, 0)) := (H3.out.1.block w1.heap.size ((Array.getElem?_eq_some_iff.1 HC.out.2.2.1).1) hne).trans HC.out.2.2.1
       have k0 : w3.cell? ⟨w1.heap.size, 0, none⟩ = some (.int .i64 (v1 : Int)) := cell_heap box3 rfl
       have k1 : w3.cell? ⟨w1.heap.size, 1, none⟩ = some (.int .i64 0) := cell_heap box3 rfl
       have k2 : w3.cell? ⟨w1.heap.size, 2, none⟩ = some (.bool false) := cell_heap box3 rfl
       have k3 : w3.cell? ⟨w1.heap.size, 3, none⟩ = some (.bool false) := cell_heap box3 rfl
       have k4 : w3.cell? ⟨w1.heap.size, 4, none⟩ = some (.int .i64 0) := cell_heap box3 rfl
       have k5 : w3.cell? ⟨w1.heap.size, 5, none⟩ = some (.int .i64 0) := cell_heap box3 rfl
       have k6 : w3.cell? ⟨w1.heap.size, 6, none⟩ = some (.int .i64 0) := cell_heap box3 rfl
       have k7 : w3.cell? ⟨w1.heap.size, 7, none⟩ = some (.int .i64 0) := cell_heap box3 rfl
       have k8 : w3.cell? ⟨w1.heap.size, 8, none⟩ = some (.int .i64 0) := cell_heap box3 rfl
       have g0 := fr_heap box3 0
       have g1 := fr_heap box3 1
       have g2 := fr_heap box3 2
       have g3 := fr_heap box3 3
       have g4 := fr_heap box3 4
       have g5 := fr_heap box3 5
       have g6 := fr_heap box3 6
       have g7 := fr_heap box3 7
       have g8 := fr_heap box3 8
       have HE := hid (And.intro res3 (And.intro box3 hne))
       clear res3 box3 hne hl1)
    | (
       go_at_call 27; refine (hEn _).mono ?_; rintro ed w4 ⟨R4, rfl, H4⟩; clear hEn
       clear k0 k1 k2 k3 k4 k5 k6 k7 k8 g0 g1 g2 g3 g4 g5 g6 g7 g8
       have hb4 : Below (putO w3 w1.heap.size (.int .i64 i0) (.bool i1) (.bool i2) (.int .i64 i3) (.int .i64 i4) (.int .i64 i5) (.int .i64 i6) (.int .i64 i7)).heap.size (putO w3 w1.heap.size (.int .i64 i0) (.bool i1) (.bool i2) (.int .i64 i3) (.int .i64 i4) (.int .i64 i5) (.int .i64 i6) (.int .i64 i7)) w4 := H4.out.2
       have t3 := putO_turns w3 w1.heap.size (.int .i64 i0) (.bool i1) (.bool i2) (.int .i64 i3) (.int .i64 i4) (.int .i64 i5) (.int .i64 i6) (.int .i64 i7)
       have box4 := heap_keep hb4 (putO_heap HE.out.2.1 (.int .i64 i0) (.bool i1) (.bool i2) (.int .i64 i3) (.int .i64 i4) (.int .i64 i5) (.int .i64 i6) (.int .i64 i7))
       have res4 := heap_keep hb4 ((t3.block w.heap.size ((Array.getElem?_eq_some_iff.1 HE.out.1).1) (fun e => by have e3 : w.heap.size = w1.heap.size := e; have := HC.out.2.2.2; omega)).trans HE.out.1)
       have bF : Below w.heap.size w w4 := (((((Turns.of_below (F := fun _ => False) HS.out.2.1).more H1.out.1 (fun i hi => .inr (by have e3 : i = w.heap.size + 1 := hi; omega))).more (Turns.of_below (F := fun _ => False) HC.out.1) (fun _ h => h.elim)).more H3.out.1 (fun i hi => .inr (by have e3 : i = w.heap.size + 1 := hi; omega))).more t3 (fun i hi => .inr (by have e3 : i = w1.heap.size := hi; have := HC.out.2.2.2; omega))).more (Turns.of_below (F := fun _ => False) hb4) (fun _ h => h.elim) |>.below (fun _ h => h.elim) (Nat.le_refl _)
       have r0 : w4.cell? ⟨w.heap.size, 0, none⟩ = some (.int .i64 0) := cell_heap res4 rfl
       have r1 : w4.cell? ⟨w.heap.size, 1, none⟩ = some (.int .i64 0) := cell_heap res4 rfl
       have r2 : w4.cell? ⟨w.heap.size, 2, none⟩ = some (.bool false) := cell_heap res4 rfl
       have r3 : w4.cell? ⟨w.heap.size, 3, none⟩ = some (.bool false) := cell_heap res4 rfl
       have r4 : w4.cell? ⟨w.heap.size, 4, none⟩ = some (.int .i64 0) := cell_heap res4 rfl
       have r5 : w4.cell? ⟨w.heap.size, 5, none⟩ = some (.int .i64 0) := cell_heap res4 rfl
       have r6 : w4.cell? ⟨w.heap.size, 6, none⟩ = some (.int .i64 0) := cell_heap res4 rfl
       have r7 : w4.cell? ⟨w.heap.size, 7, none⟩ = some (.int .i64 0) := cell_heap res4 rfl
       have r8 : w4.cell? ⟨w.heap.size, 8, none⟩ = some (.int .i64 0) := cell_heap res4 rfl
       have f0 := fr_heap res4 0
       have f1 := fr_heap res4 1
       have f2 := fr_heap res4 2
       have f3 := fr_heap res4 3
       have f4 := fr_heap res4 4
       have f5 := fr_heap res4 5
       have f6 := fr_heap res4 6
       have f7 := fr_heap res4 7
       have f8 := fr_heap res4 8
       have hlt : w.heap.size < w4.heap.size := cell_lt' r0
       clear hb4 t3 box4 res4))
  refine bodyPost_ret (v := .tuple #[.agg #[.int .i64 0, .int .i64 0, .bool false, .bool false, .int .i64 0, .int .i64 0, .int .i64 0, .int .i64 0, .int .i64 0], .int .i64 5]) ?_ rfl ?_
  · rw [results_cell2 rfl]
    go_simp
  · refine ⟨rfl, ?_⟩
    repeat (first | with_reducible exact bF | (with_reducible refine Below.setCell ?_ (by first | (simp; done) | (simp; omega) | omega) _) | (with_reducible refine Below.alloc ?_ (by first | (simp; done) | (simp; omega) | omega) _))

set_option maxHeartbeats 3200000 in
theorem rdc_1 {x : Option Addr} {n c : Nat} {L : List Nat} {w : World} (hl : Go.Proofs.Ytnddhlkdemibgaa.Sl w x n c L) (hn : n ≤ 140737488355328) {v1 e1 : Nat} {l1 : List Nat} (hr : rNum 2147483647 L 0 = (v1, l1, e1)) {o : Osd} (ho : osdN (numsR (bigT 8) l1 e1).1 = o) (hm : mayC ⟨(v1 : Int), o⟩ = true) (hL : wrB (numsC ⟨(v1 : Int), o⟩) = L) :
    Calls Try.prog 31 #[.slice x n c] w fun ed w' => ed = .returned (.tuple #[vC ⟨(v1 : Int), o⟩, .int .i64 0]) ∧ Below w.heap.size w w' := by
  obtain ⟨wA, hwA⟩ : ∃ wA, wA = w.alloc (.cells #[.int .i64 0, .int .i64 0, .bool false, .bool false, .int .i64 0, .int .i64 0, .int .i64 0, .int .i64 0, .int .i64 0] 30) := ⟨_, rfl⟩
  have bA : Below w.heap.size w wA := by rw [hwA]; exact al _ _
  have resA : wA.heap[w.heap.size]? = some (.cells #[.int .i64 0, .int .i64 0, .bool false, .bool false, .int .i64 0, .int .i64 0, .int .i64 0, .int .i64 0, .int .i64 0] 30 (0, 0)) := by rw [hwA]; exact heap_alloc_new _ _
  have sA : wA.heap.size = w.heap.size + 1 := by rw [hwA]; simp
  obtain ⟨wR, hwR⟩ : ∃ wR, wR = wA.alloc (.cells #[.slice x n c, .int .i64 0, .int .i64 0] 88) := ⟨_, rfl⟩
  have bR : Below wA.heap.size wA wR := by rw [hwR]; exact al _ _
  have rdb : wR.heap[wA.heap.size]? = some (.cells #[.slice x n c, .int .i64 0, .int .i64 0] 88 (0, 0)) := by rw [hwR]; exact heap_alloc_new _ _
  have hslR := hl.below (on bA bR)
  have hRd : RdR wR (w.heap.size + 1) x n c L L 0 := by
    rw [sA] at rdb
    refine ⟨0, ⟨cell_heap rdb rfl, cell_heap rdb rfl, cell_heap rdb rfl, fun j => fr_heap rdb j, hslR, fun h0 a ha e => ?_, Nat.zero_le _, hn⟩, rfl⟩
    rcases hl.row with h2 | ⟨b, o, h2, h3, _⟩
    · exact h0 h2
    · rw [h2] at ha; injection ha with ha; rw [← ha] at e; have e2 : b = w.heap.size + 1 := e; omega
  have hN : Calls Try.prog 51 #[.pointer (some ⟨w.heap.size + 1, 0, none⟩)] wR fun ed w' => ed = .returned (.int .i64 (v1 : Int)) ∧ Hid (Turns (atP (w.heap.size + 1)) wR w' ∧ RdR w' (w.heap.size + 1) x n c L l1 e1) := (number_any hRd).mono fun ed w' ⟨v, l', e', h1, h2⟩ => by
    have h3 := h2.out.1.symm.trans hr
    injection h3 with h4 h5
    injection h5 with h5 h6
    subst h4 h5 h6
    exact ⟨h1, h2.out.2⟩
  have resR : wR.heap[w.heap.size]? = some (.cells #[.int .i64 0, .int .i64 0, .bool false, .bool false, .int .i64 0, .int .i64 0, .int .i64 0, .int .i64 0, .int .i64 0] 30 (0, 0)) := heap_keep bR resA
  have sR : wR.heap.size = w.heap.size + 2 := by rw [hwR]; simp [sA]
  have HS := hid (And.intro (hl.below (on bA bR)) (And.intro (on bA bR) (And.intro resR sR)))
  have HXb : Hid (n ≠ 0 → ∀ a, x = some a → a.block < w.heap.size) := fun h0 a ha => by
    rcases hl.row with h2 | ⟨b, o, h2, h3, _⟩
    · exact absurd h2 h0
    · rw [h2] at ha; injection ha with ha; rw [← ha]; exact h3
  have hG := fun (W : World) (h : RdR W (w.heap.size + 1) x n c L l1 e1) => getOsd_any h
  rw [ho] at hG
  have hEn := fun W => rencC_any ⟨(v1 : Int), o⟩ W
  rw [hm] at hEn
  have HLt : Hid (∀ v ∈ wrB (numsC ⟨(v1 : Int), o⟩), v < 256) := hid (wrB_lt _)
  have eT : errB true = 0 := rfl
  rw [eT] at hEn
  simp only [if_true] at hEn
  rw [hL] at hEn HLt
  obtain ⟨S, hS⟩ : ∃ S, S = str L := ⟨_, rfl⟩
  have hst : (S.toList == S.toList) = true := by simp
  clear hL eT
  clear hr ho hm hRd resR rdb hslR hl hn bA bR resA sA sR
  obtain ⟨i0, i1, i2, i3, i4, i5, i6, i7⟩ := o
  unfold vO at hG
  unfold vC at *
  dsimp only at hG hEn ⊢
  subst hwR hwA
  go_enter Try.func31, Try.ntmps31
  go_wp2_with (first
    | (
       go_at_call 51; refine hN.mono ?_; rintro ed w1 ⟨rfl, H1⟩; clear hN
       have bC := al w1 (.cells #[.int .i64 (v1 : Int), .int .i64 0, .bool false, .bool false, .int .i64 0, .int .i64 0, .int .i64 0, .int .i64 0, .int .i64 0] 30)
       have hG1 := hG _ (H1.out.2.below bC)
       have hl1 : w.heap.size + 2 ≤ w1.heap.size := by have := H1.out.1.size; have := HS.out.2.2.2; omega
       have res1 := heap_keep bC ((H1.out.1.block w.heap.size (by have := HS.out.2.2.2; omega) (fun e => by have e3 : w.heap.size = w.heap.size + 1 := e; omega)).trans HS.out.2.2.1)
       have box1 := heap_alloc_new w1 (.cells #[.int .i64 (v1 : Int), .int .i64 0, .bool false, .bool false, .int .i64 0, .int .i64 0, .int .i64 0, .int .i64 0, .int .i64 0] 30)
       have HC := hid (And.intro bC (And.intro res1 (And.intro box1 hl1)))
       clear bC hG res1 box1 hl1)
    | (
       go_at_call 53; refine hG1.mono ?_; rintro ed w3 ⟨rfl, H3⟩; clear hG1
       have hl1 := HC.out.2.2.2
       have hne : ¬ atP (w.heap.size + 1) w1.heap.size := fun e => by have e3 : w1.heap.size = w.heap.size + 1 := e; omega
       have res3 := (H3.out.1.block w.heap.size ((Array.getElem?_eq_some_iff.1 HC.out.2.1).1) (fun e => by have e3 : w.heap.size = w.heap.size + 1 := e; omega)).trans HC.out.2.1
       have box3 : w3.heap[w1.heap.size]? = some (.cells #[.int .i64 (v1 : Int), .int .i64 0, .bool false, .bool false, .int .i64 0, .int .i64 0, .int .i64 0, .int .i64 0, .int .i64 0] 30 (0, 0)) := (H3.out.1.block w1.heap.size ((Array.getElem?_eq_some_iff.1 HC.out.2.2.1).1) hne).trans HC.out.2.2.1
       have k0 : w3.cell? ⟨w1.heap.size, 0, none⟩ = some (.int .i64 (v1 : Int)) := cell_heap box3 rfl
       have k1 : w3.cell? ⟨w1.heap.size, 1, none⟩ = some (.int .i64 0) := cell_heap box3 rfl
       have k2 : w3.cell? ⟨w1.heap.size, 2, none⟩ = some (.bool false) := cell_heap box3 rfl
       have k3 : w3.cell? ⟨w1.heap.size, 3, none⟩ = some (.bool false) := cell_heap box3 rfl
       have k4 : w3.cell? ⟨w1.heap.size, 4, none⟩ = some (.int .i64 0) := cell_heap box3 rfl
       have k5 : w3.cell? ⟨w1.heap.size, 5, none⟩ = some (.int .i64 0) := cell_heap box3 rfl
       have k6 : w3.cell? ⟨w1.heap.size, 6, none⟩ = some (.int .i64 0) := cell_heap box3 rfl
       have k7 : w3.cell? ⟨w1.heap.size, 7, none⟩ = some (.int .i64 0) := cell_heap box3 rfl
       have k8 : w3.cell? ⟨w1.heap.size, 8, none⟩ = some (.int .i64 0) := cell_heap box3 rfl
       have g0 := fr_heap box3 0
       have g1 := fr_heap box3 1
       have g2 := fr_heap box3 2
       have g3 := fr_heap box3 3
       have g4 := fr_heap box3 4
       have g5 := fr_heap box3 5
       have g6 := fr_heap box3 6
       have g7 := fr_heap box3 7
       have g8 := fr_heap box3 8
       have HE := hid (And.intro res3 (And.intro box3 hne))
       clear res3 box3 hne hl1)
    | (
       go_at_call 27; refine (hEn _).mono ?_; rintro ed w4 ⟨R4, rfl, H4⟩; clear hEn
       clear k0 k1 k2 k3 k4 k5 k6 k7 k8 g0 g1 g2 g3 g4 g5 g6 g7 g8
       have hb4 : Below (putO w3 w1.heap.size (.int .i64 i0) (.bool i1) (.bool i2) (.int .i64 i3) (.int .i64 i4) (.int .i64 i5) (.int .i64 i6) (.int .i64 i7)).heap.size (putO w3 w1.heap.size (.int .i64 i0) (.bool i1) (.bool i2) (.int .i64 i3) (.int .i64 i4) (.int .i64 i5) (.int .i64 i6) (.int .i64 i7)) w4 := H4.out.2
       have t3 := putO_turns w3 w1.heap.size (.int .i64 i0) (.bool i1) (.bool i2) (.int .i64 i3) (.int .i64 i4) (.int .i64 i5) (.int .i64 i6) (.int .i64 i7)
       have box4 := heap_keep hb4 (putO_heap HE.out.2.1 (.int .i64 i0) (.bool i1) (.bool i2) (.int .i64 i3) (.int .i64 i4) (.int .i64 i5) (.int .i64 i6) (.int .i64 i7))
       have res4 := heap_keep hb4 ((t3.block w.heap.size ((Array.getElem?_eq_some_iff.1 HE.out.1).1) (fun e => by have e3 : w.heap.size = w1.heap.size := e; have := HC.out.2.2.2; omega)).trans HE.out.1)
       have bF : Below w.heap.size w w4 := (((((Turns.of_below (F := fun _ => False) HS.out.2.1).more H1.out.1 (fun i hi => .inr (by have e3 : i = w.heap.size + 1 := hi; omega))).more (Turns.of_below (F := fun _ => False) HC.out.1) (fun _ h => h.elim)).more H3.out.1 (fun i hi => .inr (by have e3 : i = w.heap.size + 1 := hi; omega))).more t3 (fun i hi => .inr (by have e3 : i = w1.heap.size := hi; have := HC.out.2.2.2; omega))).more (Turns.of_below (F := fun _ => False) hb4) (fun _ h => h.elim) |>.below (fun _ h => h.elim) (Nat.le_refl _)
       obtain ⟨x4, d4, rfl, hs4, _⟩ := H4.out.1.sl HLt.out
       have hv1 : (convert 52 9 (.slice x4 L.length d4)).run Try.prog w4 = .ok (.string S) w4 := by rw [hS]; exact After.conv hs4 ⟨w4, Below.refl _ _⟩
       have hsl4 : Go.Proofs.Ytnddhlkdemibgaa.Sl w4 x n c L := by obtain ⟨_, q4, _⟩ := (H3.out.2.turns t3 (fun e => by have e3 : w.heap.size + 1 = w1.heap.size := e; have := HC.out.2.2.2; omega) (fun h0 a ha e => by have e3 : a.block = w1.heap.size := e; have := HXb.out h0 a ha; have := HC.out.2.2.2; omega)).below hb4; exact q4.sl
       have hv2 : (convert 52 9 (.slice x n c)).run Try.prog w4 = .ok (.string S) w4 := by rw [hS]; exact After.conv hsl4 ⟨w4, Below.refl _ _⟩
       have r0 : w4.cell? ⟨w.heap.size, 0, none⟩ = some (.int .i64 0) := cell_heap res4 rfl
       have r1 : w4.cell? ⟨w.heap.size, 1, none⟩ = some (.int .i64 0) := cell_heap res4 rfl
       have r2 : w4.cell? ⟨w.heap.size, 2, none⟩ = some (.bool false) := cell_heap res4 rfl
       have r3 : w4.cell? ⟨w.heap.size, 3, none⟩ = some (.bool false) := cell_heap res4 rfl
       have r4 : w4.cell? ⟨w.heap.size, 4, none⟩ = some (.int .i64 0) := cell_heap res4 rfl
       have r5 : w4.cell? ⟨w.heap.size, 5, none⟩ = some (.int .i64 0) := cell_heap res4 rfl
       have r6 : w4.cell? ⟨w.heap.size, 6, none⟩ = some (.int .i64 0) := cell_heap res4 rfl
       have r7 : w4.cell? ⟨w.heap.size, 7, none⟩ = some (.int .i64 0) := cell_heap res4 rfl
       have r8 : w4.cell? ⟨w.heap.size, 8, none⟩ = some (.int .i64 0) := cell_heap res4 rfl
       have f0 := fr_heap res4 0
       have f1 := fr_heap res4 1
       have f2 := fr_heap res4 2
       have f3 := fr_heap res4 3
       have f4 := fr_heap res4 4
       have f5 := fr_heap res4 5
       have f6 := fr_heap res4 6
       have f7 := fr_heap res4 7
       have f8 := fr_heap res4 8
       have j0 : w4.cell? ⟨w1.heap.size, 0, none⟩ = some (.int .i64 (v1 : Int)) := cell_heap box4 rfl
       have j1 : w4.cell? ⟨w1.heap.size, 1, none⟩ = some (.int .i64 i0) := cell_heap box4 rfl
       have j2 : w4.cell? ⟨w1.heap.size, 2, none⟩ = some (.bool i1) := cell_heap box4 rfl
       have j3 : w4.cell? ⟨w1.heap.size, 3, none⟩ = some (.bool i2) := cell_heap box4 rfl
       have j4 : w4.cell? ⟨w1.heap.size, 4, none⟩ = some (.int .i64 i3) := cell_heap box4 rfl
       have j5 : w4.cell? ⟨w1.heap.size, 5, none⟩ = some (.int .i64 i4) := cell_heap box4 rfl
       have j6 : w4.cell? ⟨w1.heap.size, 6, none⟩ = some (.int .i64 i5) := cell_heap box4 rfl
       have j7 : w4.cell? ⟨w1.heap.size, 7, none⟩ = some (.int .i64 i6) := cell_heap box4 rfl
       have j8 : w4.cell? ⟨w1.heap.size, 8, none⟩ = some (.int .i64 i7) := cell_heap box4 rfl
       have hlt : w.heap.size < w4.heap.size := cell_lt' r0
       clear hb4 t3 box4 res4))
  refine bodyPost_ret (v := .tuple #[.agg #[.int .i64 (v1 : Int), .int .i64 i0, .bool i1, .bool i2, .int .i64 i3, .int .i64 i4, .int .i64 i5, .int .i64 i6, .int .i64 i7], .int .i64 0]) ?_ rfl ?_
  · rw [results_cell2 rfl]
    go_simp
  · refine ⟨rfl, ?_⟩
    repeat (first | with_reducible exact bF | (with_reducible refine Below.setCell ?_ (by first | (simp; done) | (simp; omega) | omega) _) | (with_reducible refine Below.alloc ?_ (by first | (simp; done) | (simp; omega) | omega) _))

set_option maxHeartbeats 3200000 in
theorem rdc_2 {x : Option Addr} {n c : Nat} {L : List Nat} {w : World} (hl : Go.Proofs.Ytnddhlkdemibgaa.Sl w x n c L) (hn : n ≤ 140737488355328) {v1 e1 : Nat} {l1 : List Nat} (hr : rNum 2147483647 L 0 = (v1, l1, e1)) {o : Osd} (ho : osdN (numsR (bigT 8) l1 e1).1 = o) (hm : mayC ⟨(v1 : Int), o⟩ = true) (hL : wrB (numsC ⟨(v1 : Int), o⟩) ≠ L) :
    Calls Try.prog 31 #[.slice x n c] w fun ed w' => ed = .returned (.tuple #[.agg #[.int .i64 0, .int .i64 0, .bool false, .bool false, .int .i64 0, .int .i64 0, .int .i64 0, .int .i64 0, .int .i64 0], .int .i64 5]) ∧ Below w.heap.size w w' := by
  obtain ⟨wA, hwA⟩ : ∃ wA, wA = w.alloc (.cells #[.int .i64 0, .int .i64 0, .bool false, .bool false, .int .i64 0, .int .i64 0, .int .i64 0, .int .i64 0, .int .i64 0] 30) := ⟨_, rfl⟩
  have bA : Below w.heap.size w wA := by rw [hwA]; exact al _ _
  have resA : wA.heap[w.heap.size]? = some (.cells #[.int .i64 0, .int .i64 0, .bool false, .bool false, .int .i64 0, .int .i64 0, .int .i64 0, .int .i64 0, .int .i64 0] 30 (0, 0)) := by rw [hwA]; exact heap_alloc_new _ _
  have sA : wA.heap.size = w.heap.size + 1 := by rw [hwA]; simp
  obtain ⟨wR, hwR⟩ : ∃ wR, wR = wA.alloc (.cells #[.slice x n c, .int .i64 0, .int .i64 0] 88) := ⟨_, rfl⟩
  have bR : Below wA.heap.size wA wR := by rw [hwR]; exact al _ _
  have rdb : wR.heap[wA.heap.size]? = some (.cells #[.slice x n c, .int .i64 0, .int .i64 0] 88 (0, 0)) := by rw [hwR]; exact heap_alloc_new _ _
  have hslR := hl.below (on bA bR)
  have hRd : RdR wR (w.heap.size + 1) x n c L L 0 := by
    rw [sA] at rdb
    refine ⟨0, ⟨cell_heap rdb rfl, cell_heap rdb rfl, cell_heap rdb rfl, fun j => fr_heap rdb j, hslR, fun h0 a ha e => ?_, Nat.zero_le _, hn⟩, rfl⟩
    rcases hl.row with h2 | ⟨b, o, h2, h3, _⟩
    · exact h0 h2
    · rw [h2] at ha; injection ha with ha; rw [← ha] at e; have e2 : b = w.heap.size + 1 := e; omega
  have hN : Calls Try.prog 51 #[.pointer (some ⟨w.heap.size + 1, 0, none⟩)] wR fun ed w' => ed = .returned (.int .i64 (v1 : Int)) ∧ Hid (Turns (atP (w.heap.size + 1)) wR w' ∧ RdR w' (w.heap.size + 1) x n c L l1 e1) := (number_any hRd).mono fun ed w' ⟨v, l', e', h1, h2⟩ => by
    have h3 := h2.out.1.symm.trans hr
    injection h3 with h4 h5
    injection h5 with h5 h6
    subst h4 h5 h6
    exact ⟨h1, h2.out.2⟩
  have resR : wR.heap[w.heap.size]? = some (.cells #[.int .i64 0, .int .i64 0, .bool false, .bool false, .int .i64 0, .int .i64 0, .int .i64 0, .int .i64 0, .int .i64 0] 30 (0, 0)) := heap_keep bR resA
  have sR : wR.heap.size = w.heap.size + 2 := by rw [hwR]; simp [sA]
  have HS := hid (And.intro (hl.below (on bA bR)) (And.intro (on bA bR) (And.intro resR sR)))
  have HXb : Hid (n ≠ 0 → ∀ a, x = some a → a.block < w.heap.size) := fun h0 a ha => by
    rcases hl.row with h2 | ⟨b, o, h2, h3, _⟩
    · exact absurd h2 h0
    · rw [h2] at ha; injection ha with ha; rw [← ha]; exact h3
  have hG := fun (W : World) (h : RdR W (w.heap.size + 1) x n c L l1 e1) => getOsd_any h
  rw [ho] at hG
  have hEn := fun W => rencC_any ⟨(v1 : Int), o⟩ W
  rw [hm] at hEn
  have HLt : Hid (∀ v ∈ wrB (numsC ⟨(v1 : Int), o⟩), v < 256) := hid (wrB_lt _)
  have eT : errB true = 0 := rfl
  rw [eT] at hEn
  simp only [if_true] at hEn
  have HLl := hid (show ∀ v ∈ L, v < 256 from hl.lt)
  generalize wrB (numsC ⟨(v1 : Int), o⟩) = NC at *
  have hst : ((str NC).toList == (str L).toList) = false := by
    rw [beq_str]
    refine decide_eq_false fun h => hL ?_
    have h2 := congrArg nat h
    rwa [nat_str HLt.out, nat_str HLl.out] at h2
  clear hL eT HLl
  clear hr ho hm hRd resR rdb hslR hl hn bA bR resA sA sR
  obtain ⟨i0, i1, i2, i3, i4, i5, i6, i7⟩ := o
  unfold vO at hG
  unfold vC at *
  dsimp only at hG hEn ⊢
  subst hwR hwA
  go_enter Try.func31, Try.ntmps31
  go_wp2_with (first
    | (
       go_at_call 51; refine hN.mono ?_; rintro ed w1 ⟨rfl, H1⟩; clear hN
       have bC := al w1 (.cells #[.int .i64 (v1 : Int), .int .i64 0, .bool false, .bool false, .int .i64 0, .int .i64 0, .int .i64 0, .int .i64 0, .int .i64 0] 30)
       have hG1 := hG _ (H1.out.2.below bC)
       have hl1 : w.heap.size + 2 ≤ w1.heap.size := by have := H1.out.1.size; have := HS.out.2.2.2; omega
       have res1 := heap_keep bC ((H1.out.1.block w.heap.size (by have := HS.out.2.2.2; omega) (fun e => by have e3 : w.heap.size = w.heap.size + 1 := e; omega)).trans HS.out.2.2.1)
       have box1 := heap_alloc_new w1 (.cells #[.int .i64 (v1 : Int), .int .i64 0, .bool false, .bool false, .int .i64 0, .int .i64 0, .int .i64 0, .int .i64 0, .int .i64 0] 30)
       have HC := hid (And.intro bC (And.intro res1 (And.intro box1 hl1)))
       clear bC hG res1 box1 hl1)
    | (
       go_at_call 53; refine hG1.mono ?_; rintro ed w3 ⟨rfl, H3⟩; clear hG1
       have hl1 := HC.out.2.2.2
       have hne : ¬ atP (w.heap.size + 1) w1.heap.size := fun e => by have e3 : w1.heap.size = w.heap.size + 1 := e; omega
       have res3 := (H3.out.1.block w.heap.size ((Array.getElem?_eq_some_iff.1 HC.out.2.1).1) (fun e => by have e3 : w.heap.size = w.heap.size + 1 := e; omega)).trans HC.out.2.1
       have box3 : w3.heap[w1.heap.size]? = some (.cells #[.int .i64 (v1 : Int), .int .i64 0, .bool false, .bool false, .int .i64 0, .int .i64 0, .int .i64 0, .int .i64 0, .int .i64 0] 30 (0, 0)) := (H3.out.1.block w1.heap.size ((Array.getElem?_eq_some_iff.1 HC.out.2.2.1).1) hne).trans HC.out.2.2.1
       have k0 : w3.cell? ⟨w1.heap.size, 0, none⟩ = some (.int .i64 (v1 : Int)) := cell_heap box3 rfl
       have k1 : w3.cell? ⟨w1.heap.size, 1, none⟩ = some (.int .i64 0) := cell_heap box3 rfl
       have k2 : w3.cell? ⟨w1.heap.size, 2, none⟩ = some (.bool false) := cell_heap box3 rfl
       have k3 : w3.cell? ⟨w1.heap.size, 3, none⟩ = some (.bool false) := cell_heap box3 rfl
       have k4 : w3.cell? ⟨w1.heap.size, 4, none⟩ = some (.int .i64 0) := cell_heap box3 rfl
       have k5 : w3.cell? ⟨w1.heap.size, 5, none⟩ = some (.int .i64 0) := cell_heap box3 rfl
       have k6 : w3.cell? ⟨w1.heap.size, 6, none⟩ = some (.int .i64 0) := cell_heap box3 rfl
       have k7 : w3.cell? ⟨w1.heap.size, 7, none⟩ = some (.int .i64 0) := cell_heap box3 rfl
       have k8 : w3.cell? ⟨w1.heap.size, 8, none⟩ = some (.int .i64 0) := cell_heap box3 rfl
       have g0 := fr_heap box3 0
       have g1 := fr_heap box3 1
       have g2 := fr_heap box3 2
       have g3 := fr_heap box3 3
       have g4 := fr_heap box3 4
       have g5 := fr_heap box3 5
       have g6 := fr_heap box3 6
       have g7 := fr_heap box3 7
       have g8 := fr_heap box3 8
       have HE := hid (And.intro res3 (And.intro box3 hne))
       clear res3 box3 hne hl1)
    | (
       go_at_call 27; refine (hEn _).mono ?_; rintro ed w4 ⟨R4, rfl, H4⟩; clear hEn
       clear k0 k1 k2 k3 k4 k5 k6 k7 k8 g0 g1 g2 g3 g4 g5 g6 g7 g8
       have hb4 : Below (putO w3 w1.heap.size (.int .i64 i0) (.bool i1) (.bool i2) (.int .i64 i3) (.int .i64 i4) (.int .i64 i5) (.int .i64 i6) (.int .i64 i7)).heap.size (putO w3 w1.heap.size (.int .i64 i0) (.bool i1) (.bool i2) (.int .i64 i3) (.int .i64 i4) (.int .i64 i5) (.int .i64 i6) (.int .i64 i7)) w4 := H4.out.2
       have t3 := putO_turns w3 w1.heap.size (.int .i64 i0) (.bool i1) (.bool i2) (.int .i64 i3) (.int .i64 i4) (.int .i64 i5) (.int .i64 i6) (.int .i64 i7)
       have box4 := heap_keep hb4 (putO_heap HE.out.2.1 (.int .i64 i0) (.bool i1) (.bool i2) (.int .i64 i3) (.int .i64 i4) (.int .i64 i5) (.int .i64 i6) (.int .i64 i7))
       have res4 := heap_keep hb4 ((t3.block w.heap.size ((Array.getElem?_eq_some_iff.1 HE.out.1).1) (fun e => by have e3 : w.heap.size = w1.heap.size := e; have := HC.out.2.2.2; omega)).trans HE.out.1)
       have bF : Below w.heap.size w w4 := (((((Turns.of_below (F := fun _ => False) HS.out.2.1).more H1.out.1 (fun i hi => .inr (by have e3 : i = w.heap.size + 1 := hi; omega))).more (Turns.of_below (F := fun _ => False) HC.out.1) (fun _ h => h.elim)).more H3.out.1 (fun i hi => .inr (by have e3 : i = w.heap.size + 1 := hi; omega))).more t3 (fun i hi => .inr (by have e3 : i = w1.heap.size := hi; have := HC.out.2.2.2; omega))).more (Turns.of_below (F := fun _ => False) hb4) (fun _ h => h.elim) |>.below (fun _ h => h.elim) (Nat.le_refl _)
       obtain ⟨x4, d4, rfl, hs4, _⟩ := H4.out.1.sl HLt.out
       have hv1 : (convert 52 9 (.slice x4 NC.length d4)).run Try.prog w4 = .ok (.string (str NC)) w4 := by exact After.conv hs4 ⟨w4, Below.refl _ _⟩
       have hsl4 : Go.Proofs.Ytnddhlkdemibgaa.Sl w4 x n c L := by obtain ⟨_, q4, _⟩ := (H3.out.2.turns t3 (fun e => by have e3 : w.heap.size + 1 = w1.heap.size := e; have := HC.out.2.2.2; omega) (fun h0 a ha e => by have e3 : a.block = w1.heap.size := e; have := HXb.out h0 a ha; have := HC.out.2.2.2; omega)).below hb4; exact q4.sl
       have hv2 : (convert 52 9 (.slice x n c)).run Try.prog w4 = .ok (.string (str L)) w4 := by exact After.conv hsl4 ⟨w4, Below.refl _ _⟩
       have r0 : w4.cell? ⟨w.heap.size, 0, none⟩ = some (.int .i64 0) := cell_heap res4 rfl
       have r1 : w4.cell? ⟨w.heap.size, 1, none⟩ = some (.int .i64 0) := cell_heap res4 rfl
       have r2 : w4.cell? ⟨w.heap.size, 2, none⟩ = some (.bool false) := cell_heap res4 rfl
       have r3 : w4.cell? ⟨w.heap.size, 3, none⟩ = some (.bool false) := cell_heap res4 rfl
       have r4 : w4.cell? ⟨w.heap.size, 4, none⟩ = some (.int .i64 0) := cell_heap res4 rfl
       have r5 : w4.cell? ⟨w.heap.size, 5, none⟩ = some (.int .i64 0) := cell_heap res4 rfl
       have r6 : w4.cell? ⟨w.heap.size, 6, none⟩ = some (.int .i64 0) := cell_heap res4 rfl
       have r7 : w4.cell? ⟨w.heap.size, 7, none⟩ = some (.int .i64 0) := cell_heap res4 rfl
       have r8 : w4.cell? ⟨w.heap.size, 8, none⟩ = some (.int .i64 0) := cell_heap res4 rfl
       have f0 := fr_heap res4 0
       have f1 := fr_heap res4 1
       have f2 := fr_heap res4 2
       have f3 := fr_heap res4 3
       have f4 := fr_heap res4 4
       have f5 := fr_heap res4 5
       have f6 := fr_heap res4 6
       have f7 := fr_heap res4 7
       have f8 := fr_heap res4 8
       have hlt : w.heap.size < w4.heap.size := cell_lt' r0
       clear hb4 t3 box4 res4))
  refine bodyPost_ret (v := .tuple #[.agg #[.int .i64 0, .int .i64 0, .bool false, .bool false, .int .i64 0, .int .i64 0, .int .i64 0, .int .i64 0, .int .i64 0], .int .i64 5]) ?_ rfl ?_
  · rw [results_cell2 rfl]
    go_simp
  · refine ⟨rfl, ?_⟩
    repeat (first | with_reducible exact bF | (with_reducible refine Below.setCell ?_ (by first | (simp; done) | (simp; omega) | omega) _) | (with_reducible refine Below.alloc ?_ (by first | (simp; done) | (simp; omega) | omega) _))

theorem rdecodeChange_any (x : Option Addr) (n c : Nat) (L : List Nat) (w : World) (hl : Go.Proofs.Ytnddhlkdemibgaa.Sl w x n c L) (hn : n ≤ 140737488355328) :
    Calls Try.prog 31 #[.slice x n c] w fun ed w' => ed = .returned (.tuple #[vC (decCR L).1, .int .i64 (cod (decCR L).2)]) ∧ Below w.heap.size w w' := by
  obtain ⟨v1, l1, e1, hr⟩ : ∃ v1 l1 e1, rNum 2147483647 L 0 = (v1, l1, e1) := ⟨_, _, _, rfl⟩
  obtain ⟨o, ho⟩ : ∃ o, osdN (numsR (bigT 8) l1 e1).1 = o := ⟨_, rfl⟩
  have hD := decCR_parts hr
  rw [ho] at hD
  cases hm : mayC ⟨(v1 : Int), o⟩ with
  | false =>
    rw [hD, if_neg (by rw [hm]; simp)]
    exact rdc_0 hl hn hr ho hm
  | true =>
    by_cases hL : wrB (numsC ⟨(v1 : Int), o⟩) = L
    · rw [hD, if_pos ⟨hm, hL⟩]
      exact rdc_1 hl hn hr ho hm hL
    · rw [hD, if_neg (fun h => hL h.2)]
      exact rdc_2 hl hn hr ho hm hL

end Go.Proofs.Ytnddhlkdemibgaa.At

/-
  The document's Decode.
  Conditions: bytes that lie in memory.
-/
namespace Go.Proofs.Ytnddhlkdemibgaa.At
open Go.RowKit By Fl Wi
set_option linter.unusedVariables false
set_option linter.unusedSimpArgs false
set_option maxRecDepth 100000

structure DR (w W : World) (x : Option Addr) (n c : Nat) (Ls : List Nat) (pm : Nat) (h0 h1 h2 h3 h4 : Int) (R : Value) (L : List Osd) (l : List Nat) (e : Nat) : Prop where
  bel : Below w.heap.size w W
  res : W.heap[w.heap.size]? = some (.cells #[.int .i64 0, .int .i64 0, .int .i64 0, .int .i64 0, .int .i64 0, .slice none 0 0] 26 (0, 0))
  box : W.heap[pm]? = some (.cells #[.int .i64 h0, .int .i64 h1, .int .i64 h2, .int .i64 h3, .int .i64 h4, R] 26 (0, 0))
  own : Own W (pm + 1) 28 8 enO R L
  rd : RdR W (w.heap.size + 1) x n c Ls l e
  lt : w.heap.size + 1 < pm
  xb : n ≠ 0 → ∀ a, x = some a → a.block < w.heap.size

theorem DR.turns {w wr w3 : World} {x : Option Addr} {n c : Nat} {Ls : List Nat} {pm : Nat} {h0 h1 h2 h3 h4 : Int} {R : Value} {L : List Osd} {l l' : List Nat} {e e' : Nat} (h : DR w wr x n c Ls pm h0 h1 h2 h3 h4 R L l e) (t3 : Turns (atP (w.heap.size + 1)) wr w3) (r3 : RdR w3 (w.heap.size + 1) x n c Ls l' e') : DR w w3 x n c Ls pm h0 h1 h2 h3 h4 R L l' e' := by
  have q1 := h.lt
  exact ⟨h.bel.trans (t3.below (B := w.heap.size) (fun k hk => by have e3 : k = w.heap.size + 1 := hk; omega) h.bel.size),
    (t3.block _ (Array.getElem?_eq_some_iff.1 h.res).1 (fun e => by have e3 : w.heap.size = w.heap.size + 1 := e; omega)).trans h.res,
    (t3.block _ (Array.getElem?_eq_some_iff.1 h.box).1 (fun e => by have e3 : pm = w.heap.size + 1 := e; omega)).trans h.box,
    h.own.turns t3 (fun g hg e => by have e3 : g = w.heap.size + 1 := e; have := (h.own.tb hg).1; omega), r3, h.lt, h.xb⟩

theorem DR.step {w wr w3 W' : World} {x : Option Addr} {n c : Nat} {Ls : List Nat} {pm : Nat} {h0 h1 h2 h3 h4 : Int} {R R' : Value} {L L' : List Osd} {l l' : List Nat} {e e' : Nat} (h' : DR w wr x n c Ls pm h0 h1 h2 h3 h4 R L l e) (t3 : Turns (atP (w.heap.size + 1)) wr w3) (r3 : RdR w3 (w.heap.size + 1) x n c Ls l' e')
    (o4 : Own W' (pm + 1) 28 8 enO R' L') (t4 : Turns (fun k => R.ownBlock = some k) w3 W') : DR w (W'.setCell ⟨pm, 5, none⟩ R') x n c Ls pm h0 h1 h2 h3 h4 R' L' l' e' := by
  have h := h'.turns t3 r3
  have q1 := h.lt
  have hR : ∀ k, R.ownBlock = some k → pm + 1 ≤ k := fun k hk => (h.own.tb hk).1
  have hR' : ∀ k, R'.ownBlock = some k → pm + 1 ≤ k := fun k hk => (o4.tb hk).1
  have res4 := (t4.block _ (Array.getElem?_eq_some_iff.1 h.res).1 (fun e => by have := hR _ e; omega)).trans h.res
  have box4 := (t4.block _ (Array.getElem?_eq_some_iff.1 h.box).1 (fun e => by have := hR _ e; omega)).trans h.box
  have T5 : Turns (fun k => k = pm) W' (W'.setCell ⟨pm, 5, none⟩ R') := turns_put (Turns.refl _ _) _ _
  have b4 := h.bel.trans (t4.below (B := w.heap.size) (fun k hk => by have := hR _ hk; omega) h.bel.size)
  refine ⟨b4.trans (T5.below (B := w.heap.size) (fun k hk => by have e3 : k = pm := hk; omega) b4.size), ?_, ?_, ?_, ?_, h.lt, h.xb⟩
  · exact (T5.block _ (Array.getElem?_eq_some_iff.1 res4).1 (fun e => by have e3 : w.heap.size = pm := e; omega)).trans res4
  · refine (heap_set box4 _).trans ?_
    simp
  · exact o4.turns T5 (fun g hg e => by have e3 : g = pm := e; have := hR' _ hg; omega)
  · exact (h.rd.turns t4 (fun e => by have := hR _ e; omega) (fun h0 a ha e => by have := hR _ e; have := h.xb h0 a ha; omega)).turns T5 (fun e => by have e3 : w.heap.size + 1 = pm := e; omega) (fun h0 a ha e => by have e3 : a.block = pm := e; have := h.xb h0 a ha; omega)

theorem DR.below {w wr wr' : World} {x : Option Addr} {n c : Nat} {Ls : List Nat} {pm : Nat} {h0 h1 h2 h3 h4 : Int} {R : Value} {L : List Osd} {l : List Nat} {e : Nat} (h : DR w wr x n c Ls pm h0 h1 h2 h3 h4 R L l e) (b : Below wr.heap.size wr wr') : DR w wr' x n c Ls pm h0 h1 h2 h3 h4 R L l e :=
  ⟨on h.bel b, heap_keep b h.res, heap_keep b h.box, h.own.below b, h.rd.below b, h.lt, h.xb⟩

theorem decMR_parts {L : List Nat} {a0 a1 a2 a3 a4 k m0 m1 m2 m3 m4 : Nat} {l0 l1 l2 l3 l4 l5 : List Nat} {e0 e1 e2 e3 e4 e5 : Nat} (q0 : rNum 2147483647 L 0 = (a0, l0, e0)) (q1 : rNum 2147483647 l0 e0 = (a1, l1, e1)) (q2 : rNum 2147483647 l1 e1 = (a2, l2, e2)) (q3 : rNum 2147483647 l2 e2 = (a3, l3, e3)) (q4 : rNum 2147483647 l3 e3 = (a4, l4, e4)) (q5 : rNum 64 l4 e4 = (k, l5, e5)) :
    k ≤ 64 ∧ decMR L = if mayM ⟨a0, ⟨a1, a2, a3, a4⟩, (osdsR (bigT 8) k l5 e5).1⟩ = true ∧ wrB (numsM ⟨a0, ⟨a1, a2, a3, a4⟩, (osdsR (bigT 8) k l5 e5).1⟩) = L then (⟨a0, ⟨a1, a2, a3, a4⟩, (osdsR (bigT 8) k l5 e5).1⟩, true) else (zMp, false) := by
  have h1 : numsR headR L 0 = ([(a0 : Int), (a1 : Int), (a2 : Int), (a3 : Int), (a4 : Int), (k : Int)], l5, e5) := by
    show numsR [2147483647, 2147483647, 2147483647, 2147483647, 2147483647, 64] L 0 = _
    simp only [numsR, q0, q1, q2, q3, q4, q5]
  have b5 := rNum_le (t := 64) l4 e4 (by omega)
  rw [q5] at b5
  dsimp only at b5
  refine ⟨by omega, ?_⟩
  unfold decMR
  dsimp only
  rw [h1]
  simp only [mpN, List.getD_cons_succ, List.getD_cons_zero, Int.toNat_natCast]

set_option maxHeartbeats 6400000 in
theorem rdecode_any (x : Option Addr) (n c : Nat) (Ls : List Nat) (w : World) (hl : Go.Proofs.Ytnddhlkdemibgaa.Sl w x n c Ls) (hn : n ≤ 140737488355328) :
    Calls Try.prog 30 #[.slice x n c] w fun ed w' => ∃ y yn yc, ed = .returned (.tuple #[vM (decMR Ls).1.ep (decMR Ls).1.pool y yn yc, .int .i64 (cod (decMR Ls).2)]) ∧ Hid (Below w.heap.size w w' ∧ Os w' y yn yc (decMR Ls).1.osds) := by
  obtain ⟨wA, hwA⟩ : ∃ wA, wA = w.alloc (.cells #[.int .i64 0, .int .i64 0, .int .i64 0, .int .i64 0, .int .i64 0, .slice none 0 0] 26) := ⟨_, rfl⟩
  have bA : Below w.heap.size w wA := by rw [hwA]; exact al _ _
  have resA : wA.heap[w.heap.size]? = some (.cells #[.int .i64 0, .int .i64 0, .int .i64 0, .int .i64 0, .int .i64 0, .slice none 0 0] 26 (0, 0)) := by rw [hwA]; exact heap_alloc_new _ _
  have sA : wA.heap.size = w.heap.size + 1 := by rw [hwA]; simp
  obtain ⟨wR, hwR⟩ : ∃ wR, wR = wA.alloc (.cells #[.slice x n c, .int .i64 0, .int .i64 0] 88) := ⟨_, rfl⟩
  have bR : Below wA.heap.size wA wR := by rw [hwR]; exact al _ _
  have rdb : wR.heap[wA.heap.size]? = some (.cells #[.slice x n c, .int .i64 0, .int .i64 0] 88 (0, 0)) := by rw [hwR]; exact heap_alloc_new _ _
  have hslR := hl.below (on bA bR)
  have hRd : RdR wR (w.heap.size + 1) x n c Ls Ls 0 := by
    rw [sA] at rdb
    refine ⟨0, ⟨cell_heap rdb rfl, cell_heap rdb rfl, cell_heap rdb rfl, fun j => fr_heap rdb j, hslR, fun h0 a ha e => ?_, Nat.zero_le _, hn⟩, rfl⟩
    rcases hl.row with h2 | ⟨b, o, h2, h3, _⟩
    · exact h0 h2
    · rw [h2] at ha; injection ha with ha; rw [← ha] at e; have e2 : b = w.heap.size + 1 := e; omega
  have resR : wR.heap[w.heap.size]? = some (.cells #[.int .i64 0, .int .i64 0, .int .i64 0, .int .i64 0, .int .i64 0, .slice none 0 0] 26 (0, 0)) := heap_keep bR resA
  have sR : wR.heap.size = w.heap.size + 2 := by rw [hwR]; simp [sA]
  have HS := hid (And.intro (on bA bR) (And.intro resR sR))
  have HXb : Hid (n ≠ 0 → ∀ a, x = some a → a.block < w.heap.size) := fun h0 a ha => by
    rcases hl.row with h2 | ⟨b, o, h2, h3, _⟩
    · exact absurd h2 h0
    · rw [h2] at ha; injection ha with ha; rw [← ha]; exact h3
  have HLl := hid (show ∀ v ∈ Ls, v < 256 from hl.lt)
  have hN := fun (W : World) (l : List Nat) (e : Nat) (h : RdR W (w.heap.size + 1) x n c Ls l e) => number_any h
  have hR0 := hid hRd
  clear hRd resR rdb hslR hl hn bA bR resA sA sR
  subst hwR hwA
  go_enter Try.func30, Try.ntmps30
  go_wp2_with (first
    | (
       go_at_call 51; refine (hN _ _ _ hR0.out).mono ?_; rintro ed w1 ⟨a0, l0, e0, rfl, H1⟩; clear hR0
       have hR1 := hid H1.out.2.2)
    | (
       go_at_call 51; refine (hN _ _ _ hR1.out).mono ?_; rintro ed w2 ⟨a1, l1, e1, rfl, H2⟩; clear hR1
       have hR2 := hid H2.out.2.2)
    | (
       go_at_call 51; refine (hN _ _ _ hR2.out).mono ?_; rintro ed w3 ⟨a2, l2, e2, rfl, H3⟩; clear hR2
       have hR3 := hid H3.out.2.2)
    | (
       go_at_call 51; refine (hN _ _ _ hR3.out).mono ?_; rintro ed w4 ⟨a3, l3, e3, rfl, H4⟩; clear hR3
       have hR4 := hid H4.out.2.2)
    | (
       go_at_call 51; refine (hN _ _ _ hR4.out).mono ?_; rintro ed w5 ⟨a4, l4, e4, rfl, H5⟩; clear hR4
       have HT := hid ((((H1.out.2.1.trans H2.out.2.1).trans H3.out.2.1).trans H4.out.2.1).trans H5.out.2.1)
       have bM := al w5 (.cells #[.int .i64 (a0 : Int), .int .i64 (a1 : Int), .int .i64 (a2 : Int), .int .i64 (a3 : Int), .int .i64 (a4 : Int), .slice none 0 0] 26)
       have hsz : w.heap.size + 2 ≤ w5.heap.size := by have := HT.out.size; have := HS.out.2.2; omega
       have res5 := (HT.out.block w.heap.size (by have := HS.out.2.2; omega) (fun e => by have e3 : w.heap.size = w.heap.size + 1 := e; omega)).trans HS.out.2.1
       have bel5 : Below w.heap.size w w5 := HS.out.1.trans (HT.out.below (B := w.heap.size) (fun k hk => by have e3 : k = w.heap.size + 1 := hk; omega) HS.out.1.size)
       have HM : Hid (DR w (w5.alloc (.cells #[.int .i64 (a0 : Int), .int .i64 (a1 : Int), .int .i64 (a2 : Int), .int .i64 (a3 : Int), .int .i64 (a4 : Int), .slice none 0 0] 26)) x n c Ls w5.heap.size a0 a1 a2 a3 a4 (.slice none 0 0) [] l4 e4) :=
         ⟨on bel5 bM, heap_keep bM res5, heap_alloc_new _ _, Own.nil _ _ _ _ _, H5.out.2.2.below bM, by omega, HXb.out⟩
       have hRN := rreadN_any 64 HM.out.rd (by omega) (by omega)
       clear bM hsz res5 bel5)
    | (
       go_at_call 52; refine hRN.mono ?_; rintro ed w6 ⟨k, l5, e5, rfl, H6⟩; clear hRN))
  obtain ⟨hk64, hDec⟩ := decMR_parts (m0 := 0) (m1 := 0) (m2 := 0) (m3 := 0) (m4 := 0) H1.out.1 H2.out.1 H3.out.1 H4.out.1 H5.out.1 H6.out.1
  have HD := hid hDec
  have HM6 := hid (HM.out.turns H6.out.2.1 H6.out.2.2)
  obtain ⟨pm, hpm⟩ : ∃ pm, pm = w5.heap.size := ⟨_, rfl⟩
  rw [← hpm] at HM6 ⊢
  clear hpm hDec HM H1 H2 H3 H4 H5 H6 HT hN HS
  go_wp2_with fail
  go_loopw [7] (fun i wx => ∃ q : Nat, q ≤ k ∧ i = .int .i64 q ∧ Hid (∃ R, DR w wx x n c Ls pm a0 a1 a2 a3 a4 R (osdsR (bigT 8) q l5 e5).1 (osdsR (bigT 8) q l5 e5).2.1 (osdsR (bigT 8) q l5 e5).2.2)) (fun i _ => k - (intOf i).toNat)
  case atStart => exact ⟨0, by omega, rfl, _, HM6.out⟩
  case round =>
    obtain ⟨q, hq, rfl, HR⟩ := hrel
    obtain ⟨R, hR⟩ := HR.out
    obtain ⟨y, yc, hRe, _⟩ := hR.own.form
    have hlen := osdsR_len (bigT 8) q l5 e5
    rw [hlen] at hRe
    subst hRe
    by_cases hlt : q < k
    · have hqI : (q : Int) < (k : Int) := by omega
      obtain ⟨wE, hwE⟩ : ∃ wE, wE = wr.drew := ⟨_, rfl⟩
      have hRE : DR w wE x n c Ls pm a0 a1 a2 a3 a4 (.slice y q yc) (osdsR (bigT 8) q l5 e5).1 (osdsR (bigT 8) q l5 e5).2.1 (osdsR (bigT 8) q l5 e5).2.2 := by rw [hwE]; exact hR.below (Below.refl _ _).drew
      have HWE := hid hwE.symm
      have x5 : wE.cell? ⟨pm, 5, none⟩ = some (.slice y q yc) := cell_heap hRE.box rfl
      have lpm : pm < wE.heap.size := (Array.getElem?_eq_some_iff.1 hRE.box).1
      have hRo := getOsd_any hRE.rd
      have hTk := osdsR_take (bigT 8) q l5 e5
      obtain ⟨o, ho⟩ : ∃ o, o = osdN (numsR (bigT 8) (osdsR (bigT 8) q l5 e5).2.1 (osdsR (bigT 8) q l5 e5).2.2).1 := ⟨_, rfl⟩
      rw [← ho] at hRo hTk
      have HTk := hid hTk
      have HRE := hid hRE
      have HLen := hid hlen
      clear ho hTk hR hwE hlen hRE
      obtain ⟨i0, i1, i2, i3, i4, i5, i6, i7⟩ := o
      unfold vO at hRo
      dsimp only at hRo
      go_wp2_with fail
      refine wp_region_last (fun v => v.cell? ⟨pm, 5, none⟩ = some (.slice y q yc)) 7 (by kernel_rfl) (by rw [HWE.out]; exact x5) (fun hS => ?_)
      rw [HWE.out] at hS ⊢
      refine wpAnyL_take (i := 0) (v := ?_) rfl (by kernel_rfl) (by kernel_rfl) (by kernel_rfl) (by kernel_rfl) (fun _ _ _ h => h) hS (Or.inl ⟨by rfl, ?_⟩) ?_
      case refine_2 => (intro w hSw; (try dsimp only at hSw); go_simp; (try with_reducible rfl))
      (try simp only [Act.put, List.getElem_toArray, List.getElem_cons_succ, List.getElem_cons_zero, List.setIfInBounds_toArray, List.set_cons_zero, List.set_cons_succ])
      refine wpAnyL_take (i := 1) (v := ?_) rfl (by kernel_rfl) (by kernel_rfl) (by kernel_rfl) (by kernel_rfl) (fun _ _ _ h => h) hS (Or.inl ⟨by rfl, ?_⟩) ?_
      case refine_2 => (intro w hSw; (try dsimp only at hSw); go_simp; (try with_reducible rfl))
      (try simp only [Act.put, List.getElem_toArray, List.getElem_cons_succ, List.getElem_cons_zero, List.setIfInBounds_toArray, List.set_cons_zero, List.set_cons_succ])
      refine wpAnyL_take (i := 2) (v := ?_) rfl (by kernel_rfl) (by kernel_rfl) (by kernel_rfl) (by kernel_rfl) (fun _ _ _ h => h) hS (Or.inl ⟨by rfl, ?_⟩) ?_
      case refine_2 => (intro w hSw; (try dsimp only at hSw); go_simp; (try with_reducible rfl))
      (try simp only [Act.put, List.getElem_toArray, List.getElem_cons_succ, List.getElem_cons_zero, List.setIfInBounds_toArray, List.set_cons_zero, List.set_cons_succ])
      refine wpAnyL_one (i := 3) (by kernel_rfl) rfl (fun K hK => ?_)
      go_simp
      refine hRo.mono ?_
      rintro ed w3 ⟨rfl, H3⟩
      have own3 := HRE.out.own.turns H3.out.1 (fun g hg e => by have e3 : g = w.heap.size + 1 := e; have := (HRE.out.own.tb hg).1; have := HRE.out.lt; omega)
      have x53 := keept H3.out.1 (fun e => by have e3 : pm = w.heap.size + 1 := e; have := HRE.out.lt; omega) x5
      obtain ⟨y', yc', W4, hr4, H4⟩ := push1 own3 ⟨i0, i1, i2, i3, i4, i5, i6, i7⟩ (by have := H3.out.1.size; omega) (by rw [HLen.out]; omega)
      rw [HLen.out] at hr4 H4
      dsimp only at hr4
      have bO := al w3 (.cells #[.int .i64 i0, .bool i1, .bool i2, .int .i64 i3, .int .i64 i4, .int .i64 i5, .int .i64 i6, .int .i64 i7] 28)
      have hbx4 : W4.heap[pm]? = _ := (H4.out.2.1.block pm (cell_lt' x53) (fun e => by have := (own3.tb e).1; omega)).trans ((H3.out.1.block pm lpm (fun e => by have e3 : pm = w.heap.size + 1 := e; have := HRE.out.lt; omega)).trans HRE.out.box)
      have x54 : W4.cell? ⟨pm, 5, none⟩ = some (.slice y q yc) := cell_heap hbx4 rfl
      have f54 := fr_heap hbx4 5
      have HN := hid (HRE.out.step H3.out.1 H3.out.2 H4.out.1 H4.out.2.1)
      clear hbx4 own3
      refine hK.out _ _ (fun _ => x53) ?_
      clear hK K
      refine wpAnyL_one (i := 4) (by kernel_rfl) rfl (fun K hK => ?_)
      go_simp
      refine hK.out _ _ (fun _ => keep bO x53) ?_
      clear hK K
      refine wpAnyL_one (i := 5) (by kernel_rfl) rfl (fun K hK => ?_)
      refine st_append rfl _ _ 24 rfl _ _ rfl rfl hr4 ?_
      (try simp only [Act.put, List.getElem_toArray, List.getElem_cons_succ, List.getElem_cons_zero, List.setIfInBounds_toArray, List.set_cons_zero, List.set_cons_succ])
      refine hK.out _ _ (fun _ => x54) ?_
      clear hK K
      refine wpAnyL_one (i := 6) (by kernel_rfl) rfl (fun K hK => ?_)
      go_simp
      refine hK.out _ _ (fun _ => x54) ?_
      clear hK K
      refine wpAnyL_one (i := 7) (by kernel_rfl) rfl (fun K hK => ?_)
      go_simp
      refine hK.out _ _ (fun h => absurd rfl h) ?_
      clear hK K
      refine wpAnyL_done (by kernel_rfl) ?_ _
      go_wp2_with fail
      go_roundw
      case rel => exact ⟨q + 1, by omega, by go_num, _, by rw [HTk.out]; exact HN.out⟩
      case measure => simp [intOf]; omega
    · obtain rfl : q = k := by omega
      have hltr : w.heap.size < wr.heap.size := (Array.getElem?_eq_some_iff.1 hR.res).1
      have hne : pm ≠ w.heap.size := by have := hR.lt; omega
      have B1 := hR.bel
      obtain ⟨L, hL⟩ : ∃ L, L = (osdsR (bigT 8) q l5 e5).1 := ⟨_, rfl⟩
      have HD2 := hid HD.out
      rw [← hL] at HD2
      rw [← hL] at hlen
      have hOs := own_os hR.own (by rw [← hL, hlen]; omega)
      rw [← hL] at hOs
      have hEn := renc_any ⟨a0, ⟨a1, a2, a3, a4⟩, L⟩ hOs
      have HOs := hid hOs
      have hsl : Go.Proofs.Ytnddhlkdemibgaa.Sl wr x n c Ls := by obtain ⟨_, q4, _⟩ := hR.rd; exact q4.sl
      have HSl := hid hsl
      have r0 : wr.cell? ⟨w.heap.size, 0, none⟩ = some (.int .i64 0) := cell_heap hR.res rfl
      have r1 : wr.cell? ⟨w.heap.size, 1, none⟩ = some (.int .i64 0) := cell_heap hR.res rfl
      have r2 : wr.cell? ⟨w.heap.size, 2, none⟩ = some (.int .i64 0) := cell_heap hR.res rfl
      have r3 : wr.cell? ⟨w.heap.size, 3, none⟩ = some (.int .i64 0) := cell_heap hR.res rfl
      have r4 : wr.cell? ⟨w.heap.size, 4, none⟩ = some (.int .i64 0) := cell_heap hR.res rfl
      have r5 : wr.cell? ⟨w.heap.size, 5, none⟩ = some (.slice none 0 0) := cell_heap hR.res rfl
      have f0 := fr_heap hR.res 0
      have f1 := fr_heap hR.res 1
      have f2 := fr_heap hR.res 2
      have f3 := fr_heap hR.res 3
      have f4 := fr_heap hR.res 4
      have f5 := fr_heap hR.res 5
      have k0 : wr.cell? ⟨pm, 0, none⟩ = some (.int .i64 (a0 : Int)) := cell_heap hR.box rfl
      have k1 : wr.cell? ⟨pm, 1, none⟩ = some (.int .i64 (a1 : Int)) := cell_heap hR.box rfl
      have k2 : wr.cell? ⟨pm, 2, none⟩ = some (.int .i64 (a2 : Int)) := cell_heap hR.box rfl
      have k3 : wr.cell? ⟨pm, 3, none⟩ = some (.int .i64 (a3 : Int)) := cell_heap hR.box rfl
      have k4 : wr.cell? ⟨pm, 4, none⟩ = some (.int .i64 (a4 : Int)) := cell_heap hR.box rfl
      have k5 : wr.cell? ⟨pm, 5, none⟩ = some (.slice y q yc) := cell_heap hR.box rfl
      have hOwn := hid (And.intro hR.own hR.lt)
      unfold vM at hEn
      dsimp only at hEn
      have HLt : Hid (∀ v ∈ wrB (numsM ⟨a0, ⟨a1, a2, a3, a4⟩, L⟩), v < 256) := hid (wrB_lt _)
      generalize wrB (numsM ⟨a0, ⟨a1, a2, a3, a4⟩, L⟩) = NM at *
      generalize mayM ⟨a0, ⟨a1, a2, a3, a4⟩, L⟩ = tm at *
      clear hR hlen hOs hsl HD hlt HR HM6
      cases tm with
      | false =>
        have hD : decMR Ls = (zMp, false) := by rw [HD2.out, if_neg (by simp)]
        have hCf : errB false = 1 := rfl
        rw [hCf] at hEn
        simp only [Bool.false_eq_true, if_false] at hEn
        go_wp2_with (
          go_at_call 25; refine hEn.mono ?_; rintro ed W2 ⟨R2, rfl, H2⟩; clear hEn
          have hb2 := H2.out.2
          replace r0 := keep hb2 r0
          replace r1 := keep hb2 r1
          replace r2 := keep hb2 r2
          replace r3 := keep hb2 r3
          replace r4 := keep hb2 r4
          replace r5 := keep hb2 r5
          replace f0 := keepf hb2 hltr f0
          replace f1 := keepf hb2 hltr f1
          replace f2 := keepf hb2 hltr f2
          replace f3 := keepf hb2 hltr f3
          replace f4 := keepf hb2 hltr f4
          replace f5 := keepf hb2 hltr f5
          replace k0 := keep hb2 k0
          replace k1 := keep hb2 k1
          replace k2 := keep hb2 k2
          replace k3 := keep hb2 k3
          replace k4 := keep hb2 k4
          replace k5 := keep hb2 k5
          have B2 := on B1 hb2
          have O2 := hid (HOs.out.below hb2)
          replace hltr : w.heap.size < W2.heap.size := cell_lt' r0
          clear hb2)
        refine bodyPost_ret (v := .tuple #[.agg #[.int .i64 0, .int .i64 0, .int .i64 0, .int .i64 0, .int .i64 0, .slice none 0 0], .int .i64 5]) ?_ rfl ?_
        · rw [results_cell2 rfl]
          go_simp
        · rw [hD]
          refine ⟨_, _, _, rfl, ?_, ?_⟩
          · repeat (first | with_reducible exact B2 | (with_reducible refine Below.setCell ?_ (by first | (simp; done) | (simp; omega) | omega) _) | (with_reducible refine Below.alloc ?_ (by first | (simp; done) | (simp; omega) | omega) _))
          · exact ⟨rfl, Nat.le_refl _, by omega, fun _ => ⟨rfl, rfl⟩, .inl rfl⟩
      | true =>
        have hCt : errB true = 0 := rfl
        rw [hCt] at hEn
        simp only [if_true] at hEn
        by_cases hNL : NM = Ls
        · subst hNL
          have hD : decMR NM = (⟨a0, ⟨a1, a2, a3, a4⟩, L⟩, true) := by rw [HD2.out, if_pos ⟨rfl, rfl⟩]
          go_wp2_with (
            go_at_call 25; refine hEn.mono ?_; rintro ed W2 ⟨R2, rfl, H2⟩; clear hEn
            have hb2 := H2.out.2
            replace r0 := keep hb2 r0
            replace r1 := keep hb2 r1
            replace r2 := keep hb2 r2
            replace r3 := keep hb2 r3
            replace r4 := keep hb2 r4
            replace r5 := keep hb2 r5
            replace f0 := keepf hb2 hltr f0
            replace f1 := keepf hb2 hltr f1
            replace f2 := keepf hb2 hltr f2
            replace f3 := keepf hb2 hltr f3
            replace f4 := keepf hb2 hltr f4
            replace f5 := keepf hb2 hltr f5
            replace k0 := keep hb2 k0
            replace k1 := keep hb2 k1
            replace k2 := keep hb2 k2
            replace k3 := keep hb2 k3
            replace k4 := keep hb2 k4
            replace k5 := keep hb2 k5
            have B2 := on B1 hb2
            have O2 := hid (HOs.out.below hb2)
            replace hltr : w.heap.size < W2.heap.size := cell_lt' r0
            obtain ⟨x4, d4, rfl, hs4, _⟩ := H2.out.1.sl HLt.out
            have hv1 : (convert 52 9 (.slice x4 NM.length d4)).run Try.prog W2 = .ok (.string (str NM)) W2 := After.conv hs4 ⟨W2, Below.refl _ _⟩
            have hv2 : (convert 52 9 (.slice x n c)).run Try.prog W2 = .ok (.string (str NM)) W2 := After.conv (HSl.out.below hb2) ⟨W2, Below.refl _ _⟩
            clear hb2)
          refine bodyPost_ret (v := .tuple #[.agg #[.int .i64 (a0 : Int), .int .i64 (a1 : Int), .int .i64 (a2 : Int), .int .i64 (a3 : Int), .int .i64 (a4 : Int), .slice y q yc], .int .i64 0]) ?_ rfl ?_
          · rw [results_cell2 rfl]
            go_simp
          · rw [hD]
            refine ⟨_, _, _, rfl, ?_, ?_⟩
            · repeat (first | with_reducible exact B2 | (with_reducible refine Below.setCell ?_ (by first | (simp; done) | (simp; omega) | omega) _) | (with_reducible refine Below.alloc ?_ (by first | (simp; done) | (simp; omega) | omega) _))
            · exact O2.out.turns (G := fun k => k = w.heap.size) (turns_put (turns_put (turns_put (turns_put (turns_put (turns_put (Turns.refl _ _) _ _) _ _) _ _) _ _) _ _) _ _) (fun h0 a ha e => by have e3 : a.block = w.heap.size := e; obtain ⟨x', c', q1, _, _, q4⟩ := hOwn.out.1.form; injection q1 with q1 _ _; obtain ⟨g', q5, q6, _⟩ := q4 a (q1 ▸ ha); rw [q5] at e3; have e4 : g' = w.heap.size := e3; have := hOwn.out.2; omega)
        · have hD : decMR Ls = (zMp, false) := by rw [HD2.out, if_neg (fun h => hNL h.2)]
          have hst : ((str NM).toList == (str Ls).toList) = false := by
            rw [beq_str]
            refine decide_eq_false fun h => hNL ?_
            have h2 := congrArg nat h
            rwa [nat_str HLt.out, nat_str HLl.out] at h2
          clear hNL
          go_wp2_with (
            go_at_call 25; refine hEn.mono ?_; rintro ed W2 ⟨R2, rfl, H2⟩; clear hEn
            have hb2 := H2.out.2
            replace r0 := keep hb2 r0
            replace r1 := keep hb2 r1
            replace r2 := keep hb2 r2
            replace r3 := keep hb2 r3
            replace r4 := keep hb2 r4
            replace r5 := keep hb2 r5
            replace f0 := keepf hb2 hltr f0
            replace f1 := keepf hb2 hltr f1
            replace f2 := keepf hb2 hltr f2
            replace f3 := keepf hb2 hltr f3
            replace f4 := keepf hb2 hltr f4
            replace f5 := keepf hb2 hltr f5
            replace k0 := keep hb2 k0
            replace k1 := keep hb2 k1
            replace k2 := keep hb2 k2
            replace k3 := keep hb2 k3
            replace k4 := keep hb2 k4
            replace k5 := keep hb2 k5
            have B2 := on B1 hb2
            have O2 := hid (HOs.out.below hb2)
            replace hltr : w.heap.size < W2.heap.size := cell_lt' r0
            obtain ⟨x4, d4, rfl, hs4, _⟩ := H2.out.1.sl HLt.out
            have hv1 : (convert 52 9 (.slice x4 NM.length d4)).run Try.prog W2 = .ok (.string (str NM)) W2 := After.conv hs4 ⟨W2, Below.refl _ _⟩
            have hv2 : (convert 52 9 (.slice x n c)).run Try.prog W2 = .ok (.string (str Ls)) W2 := After.conv (HSl.out.below hb2) ⟨W2, Below.refl _ _⟩
            clear hb2)
          refine bodyPost_ret (v := .tuple #[.agg #[.int .i64 0, .int .i64 0, .int .i64 0, .int .i64 0, .int .i64 0, .slice none 0 0], .int .i64 5]) ?_ rfl ?_
          · rw [results_cell2 rfl]
            go_simp
          · rw [hD]
            refine ⟨_, _, _, rfl, ?_, ?_⟩
            · repeat (first | with_reducible exact B2 | (with_reducible refine Below.setCell ?_ (by first | (simp; done) | (simp; omega) | omega) _) | (with_reducible refine Below.alloc ?_ (by first | (simp; done) | (simp; omega) | omega) _))
            · exact ⟨rfl, Nat.le_refl _, by omega, fun _ => ⟨rfl, rfl⟩, .inl rfl⟩

end Go.Proofs.Ytnddhlkdemibgaa.At
