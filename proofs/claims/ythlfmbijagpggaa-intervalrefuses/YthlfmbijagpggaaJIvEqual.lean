/-
  5 texts of this proof, one behind the other: IvEqual, IvRev, AtSame, IvMay, IvSmall.
-/
import Derived.Test.YthlfmbijagpggaaJIvPlain
import Derived.RegionTactic
import Derived.Test.YthlfmbijagpggaaJAtPlain
import Derived.Test.YthlfmbijagpggaaAtMay
/-
  slices.Equal of lists of int, and alike: do the same ones keep a placement group?
  Conditions: the lists lie in memory.
-/
namespace Go.Proofs.Ythlfmbijagpggaa.Iv
open Go.RowKit By Fl At Cr Pl
set_option linter.unusedVariables false
set_option linter.unusedSimpArgs false
set_option maxRecDepth 100000

theorem take_next {l : List Int} {k : Nat} {z : Int} (h : l[k]? = some z) : l.take (k + 1) = l.take k ++ [z] := by
  rw [List.take_add_one, h]
  rfl

set_option maxHeartbeats 1600000 in
theorem equal_any {w : World} {x y : Option Addr} {n c m d : Nat} {a b : List Int} (ha : Nu w x n c a) (hb : Nu w y m d b) (hn1 : n ≤ 140737488351232) :
    Calls Try.prog 28 #[.slice x n c, .slice y m d] w fun e w' => e = .returned (.bool (decide (a = b))) ∧ Below w.heap.size w w' := by
  have hla := ha.len
  have hlb := hb.len
  by_cases hnm : n = m
  · subst hnm
    have HA := hid ha
    have HB := hid hb
    have HL := hid (And.intro hla hlb)
    clear ha hb hla hlb
    go_enter Try.func28, Try.ntmps28
    go_wp2_with fail
    go_loopw [13] (fun i wr => ∃ k : Nat, k ≤ n ∧ i = .int .i64 k ∧ Hid (Below w.heap.size w wr ∧ a.take k = b.take k)) (fun i _ => n - (intOf i).toNat)
    case atStart => exact ⟨0, by omega, rfl, Below.refl _ _, by simp⟩
    case round =>
      obtain ⟨k, hk, rfl, HR⟩ := hrel
      by_cases hlt : k < n
      · have hkn : (k : Int) < (n : Int) := by omega
        obtain ⟨y1, hy1⟩ : ∃ y, a[k]? = some y := ⟨a[k]'(by have := HL.out.1; omega), List.getElem?_eq_getElem (by have := HL.out.1; omega)⟩
        obtain ⟨y2, hy2⟩ : ∃ y, b[k]? = some y := ⟨b[k]'(by have := HL.out.2; omega), List.getElem?_eq_getElem (by have := HL.out.2; omega)⟩
        rcases HA.out.row with h0 | ⟨b1, o1, rfl, hb1, hc1⟩
        · omega
        rcases HB.out.row with h0 | ⟨b2, o2, rfl, hb2, hc2⟩
        · omega
        have d1 := keep HR.out.1 (hc1 k y1 hy1)
        have d2 := keep HR.out.1 (hc2 k y2 hy2)
        have HY := hid (And.intro hy1 hy2)
        clear hc1 hc2 hy1 hy2
        have HQ : Hid (∀ q, Below w.heap.size w (wr.drewN q)) := fun q => on HR.out.1 (bel_drewN wr q)
        by_cases e : y1 = y2
        · have HE := hid e
          have hq : (y1 != y2) = false := by simpa using e
          clear e
          go_wp2_with fail
          go_quiet (fail)
          go_wp2_with fail
          go_roundw
          case rel =>
            refine ⟨k + 1, by omega, by go_num, HQ.out _, ?_⟩
            rw [take_next HY.out.1, take_next HY.out.2, HR.out.2, HE.out]
          case measure => simp [intOf]; omega
        · have hq : (y1 != y2) = true := by simpa using e
          have HE := hid e
          clear e
          go_wp2_with fail
          go_quiet (fail)
          go_wp2_with fail
          go_ret
          refine ⟨?_, HQ.out _⟩
          have : a ≠ b := fun h => by
            obtain ⟨g1, g2⟩ := HY.out
            rw [h, g2] at g1
            injection g1 with g1
            exact HE.out g1.symm
          simp [this]
      · have hk2 : k = n := by omega
        subst hk2
        go_wp2_with fail
        go_ret
        refine ⟨?_, HR.out.1⟩
        have h2 := HR.out.2
        rw [List.take_of_length_le (by have := HL.out.1; omega), List.take_of_length_le (by have := HL.out.2; omega)] at h2
        simp [h2]
  · have hq : ((n : Int) != (m : Int)) = true := by simp; omega
    have HL := hid (And.intro hnm (And.intro hla hlb))
    clear ha hb hla hlb hnm
    go_enter Try.func28, Try.ntmps28
    go_wp2_with fail
    go_ret
    refine ⟨?_, Below.refl _ _⟩
    have : a ≠ b := fun h => by
      obtain ⟨h1, h2, h3⟩ := HL.out
      rw [h] at h2
      omega
    simp [this]

set_option maxHeartbeats 1600000 in
theorem alike_any {w : World} {v u : SpV} (hv : SpAt w v) (hu : SpAt w u) :
    Calls Try.prog 21 #[vS v, vS u] w fun e w' => e = .returned (.bool (lik v.s u.s)) ∧ Below w.heap.size w w' := by
  obtain ⟨⟨f1, f2, f3, f4, f5⟩, x1, n1, c1, x2, n2, c2, x3, n3, c3⟩ := v
  obtain ⟨⟨g1, g2, g3, g4, g5⟩, y1, m1, d1, y2, m2, d2, y3, m3, d3⟩ := u
  obtain ⟨a1, a2, a3, z1, z2, z3⟩ := hv
  obtain ⟨b1, b2, b3, _⟩ := hu
  unfold vS lik
  dsimp only at a1 a2 a3 b1 b2 b3 z1 z2 z3 ⊢
  obtain ⟨w0, hw0⟩ : ∃ w0, w0 = (w.alloc (.cells #[.int .i64 f1, .int .i64 f2, .slice x1 n1 c1, .slice x2 n2 c2, .slice x3 n3 c3, .int .i64 (prm f3)] 25)).alloc (.cells #[.int .i64 g1, .int .i64 g2, .slice y1 m1 d1, .slice y2 m2 d2, .slice y3 m3 d3, .int .i64 (prm g3)] 25) := ⟨_, rfl⟩
  have b0 : Below w.heap.size w w0 := by rw [hw0]; exact on (al _ _) (al _ _)
  have p2 : w0.cell? ⟨w.heap.size, 2, none⟩ = some (.slice x1 n1 c1) := by rw [hw0]; go_simp
  have p3 : w0.cell? ⟨w.heap.size, 3, none⟩ = some (.slice x2 n2 c2) := by rw [hw0]; go_simp
  have p4 : w0.cell? ⟨w.heap.size, 4, none⟩ = some (.slice x3 n3 c3) := by rw [hw0]; go_simp
  have q2 : w0.cell? ⟨w.heap.size + 1, 2, none⟩ = some (.slice y1 m1 d1) := by rw [hw0]; go_simp
  have q3 : w0.cell? ⟨w.heap.size + 1, 3, none⟩ = some (.slice y2 m2 d2) := by rw [hw0]; go_simp
  have q4 : w0.cell? ⟨w.heap.size + 1, 4, none⟩ = some (.slice y3 m3 d3) := by rw [hw0]; go_simp
  have cE1 := equal_any (a1.below b0) (b1.below b0) (by omega)
  have HE2 : Hid (∀ W, Below w0.heap.size w0 W → Calls Try.prog 28 #[.slice x2 n2 c2, .slice y2 m2 d2] W fun e w' => e = .returned (.bool (decide (f4 = g4))) ∧ Below W.heap.size W w') := fun W hb => equal_any (a2.below (on b0 hb)) (b2.below (on b0 hb)) (by omega)
  have HE3 : Hid (∀ W, Below w0.heap.size w0 W → Calls Try.prog 28 #[.slice x3 n3 c3, .slice y3 m3 d3] W fun e w' => e = .returned (.bool (decide (f5 = g5))) ∧ Below W.heap.size W w') := fun W hb => equal_any (a3.below (on b0 hb)) (b3.below (on b0 hb)) (by omega)
  have HC : Hid (∀ W, Below w0.heap.size w0 W → W.cell? ⟨w.heap.size, 3, none⟩ = some (.slice x2 n2 c2) ∧ W.cell? ⟨w.heap.size, 4, none⟩ = some (.slice x3 n3 c3) ∧ W.cell? ⟨w.heap.size + 1, 3, none⟩ = some (.slice y2 m2 d2) ∧ W.cell? ⟨w.heap.size + 1, 4, none⟩ = some (.slice y3 m3 d3)) := fun W hb => ⟨keep hb p3, keep hb p4, keep hb q3, keep hb q4⟩
  have HB := hid b0
  have HW := hid hw0
  rw [hw0] at p2 q2 cE1
  clear a1 a2 a3 b1 b2 b3 z1 z2 z3 b0 hw0 p3 p4 q3 q4
  generalize decide (f3 = g3) = t1 at *
  generalize decide (f4 = g4) = t2 at *
  generalize decide (f5 = g5) = t3 at *
  go_enter Try.func21, Try.ntmps21
  cases t1 with
  | false =>
    go_wp2_with (go_at_call 28; refine cE1.mono ?_; rintro e w1 ⟨rfl, hb1⟩; clear cE1)
    go_ret
    rw [← HW.out] at hb1
    exact ⟨rfl, on HB.out hb1⟩
  | true =>
    go_wp2_with (go_at_call 28; refine cE1.mono ?_; rintro e w1 ⟨rfl, hb1⟩; clear cE1; rw [← HW.out] at hb1; obtain ⟨r3, r4, s3, s4⟩ := HC.out w1 hb1; have cE2 := HE2.out w1 hb1)
    cases t2 with
    | false =>
      go_wp2_with (go_at_call 28; refine cE2.mono ?_; rintro e w2 ⟨rfl, hb2⟩; clear cE2)
      go_ret
      exact ⟨rfl, on HB.out (on hb1 hb2)⟩
    | true =>
      go_wp2_with (go_at_call 28; refine cE2.mono ?_; rintro e w2 ⟨rfl, hb2⟩; clear cE2; have hb12 := on hb1 hb2; obtain ⟨r3', r4', s3', s4'⟩ := HC.out w2 hb12; have cE3 := HE3.out w2 hb12)
      go_wp2_with (go_at_call 28; refine cE3.mono ?_; rintro e w3 ⟨rfl, hb3⟩; clear cE3)
      go_ret
      exact ⟨by simp, on HB.out (on hb12 hb3)⟩

end Go.Proofs.Ythlfmbijagpggaa.Iv

/-
  slices.Reverse of a list of intervals of one's own.
  Conditions: at most 4,096 of them.
-/
namespace Go.Proofs.Ythlfmbijagpggaa.Iv
open Go.RowKit By Fl At Cr Pl
set_option linter.unusedVariables false
set_option linter.unusedSimpArgs false
set_option maxRecDepth 100000

theorem flat_set6 : ∀ (L : List SpV) (i : Nat) (a : SpV), flat enS (L.set i a) = ((((((flat enS L).set (i * 6) (.int .i64 a.s.fr)).set (i * 6 + 1) (.int .i64 a.s.til)).set (i * 6 + 2) (.slice a.x1 a.n1 a.c1)).set (i * 6 + 3) (.slice a.x2 a.n2 a.c2)).set (i * 6 + 4) (.slice a.x3 a.n3 a.c3)).set (i * 6 + 5) (.int .i64 (prm a.s.ac))
  | [], i, a => by simp [flat]
  | b :: L, 0, a => by simp [flat_cons, enS]
  | b :: L, i + 1, a => by
    rw [List.set_cons_succ, flat_cons, flat_cons, flat_set6 L i a, show (i + 1) * 6 = i * 6 + 1 + 1 + 1 + 1 + 1 + 1 by omega]
    simp [List.set_cons_succ, enS]

def put6o (w : World) (g o : Nat) (v : SpV) : World :=
  (((((w.setCell ⟨g, o, none⟩ (.int .i64 v.s.fr)).setCell ⟨g, o + 1, none⟩ (.int .i64 v.s.til)).setCell ⟨g, o + 2, none⟩ (.slice v.x1 v.n1 v.c1)).setCell ⟨g, o + 3, none⟩ (.slice v.x2 v.n2 v.c2)).setCell ⟨g, o + 4, none⟩ (.slice v.x3 v.n3 v.c3)).setCell ⟨g, o + 5, none⟩ (.int .i64 (prm v.s.ac))

theorem turns_put6o {w : World} {g o : Nat} {v : SpV} : Turns (fun k => k = g) w (put6o w g o v) := turns_put (turns_put (turns_put (turns_put (turns_put (turns_put (Turns.refl _ w) _ _) _ _) _ _) _ _) _ _) _ _

theorem Own.set6 {w : World} {B g n c : Nat} {L : List SpV} (h : Own w B 25 6 enS (.slice (some ⟨g, 0, none⟩) n c) L) (i : Nat) (a : SpV) : Own (put6o w g (i * 6) a) B 25 6 enS (.slice (some ⟨g, 0, none⟩) n c) (L.set i a) := by
  have hL := h.heap.1
  unfold Own at h ⊢
  rw [List.length_set, flat_set6]
  rw [hL] at h ⊢
  exact own_setCell (own_setCell (own_setCell (own_setCell (own_setCell (own_setCell h _ _) _ _) _ _) _ _) _ _) _ _

/- The first k and the last k have changed places. -/
def Rv (L : List SpV) (n k : Nat) (M : List SpV) : Prop := M.length = n ∧ ∀ p, p < n → M[p]? = if p < k ∨ n - 1 - p < k then L[n - 1 - p]? else L[p]?

theorem rv_start {L : List SpV} {n : Nat} (h : L.length = n) : Rv L n 0 L := ⟨h, fun p hp => by simp⟩
theorem rv_swap {L M : List SpV} {n k j : Nat} {u v : SpV} (h : Rv L n k M) (hj : j + k + 1 = n) (hk : k < j) (hu : M[k]? = some u) (hv : M[j]? = some v) : Rv L n (k + 1) ((M.set k v).set j u) := by
  refine ⟨by simp [h.1], fun p hp => ?_⟩
  have h1 := h.2 p hp
  have hk' := h.2 k (by omega)
  have hj' := h.2 j (by omega)
  rw [if_neg (by omega)] at hk' hj'
  rw [hu] at hk'
  rw [hv] at hj'
  have hM := h.1
  by_cases e1 : p = j
  · subst e1
    rw [List.getElem?_set_self (by simp; omega), if_pos (by omega), show n - 1 - p = k by omega]
    exact hk'
  · rw [List.getElem?_set_ne (fun e => e1 e.symm)]
    by_cases e2 : p = k
    · subst e2
      rw [List.getElem?_set_self (by omega), if_pos (by omega), show n - 1 - p = j by omega]
      exact hj'
    · rw [List.getElem?_set_ne (fun e => e2 e.symm), h1]
      by_cases e3 : p < k ∨ n - 1 - p < k
      · rw [if_pos e3, if_pos (by omega)]
      · rw [if_neg e3, if_neg (by omega)]
theorem rv_end {L M : List SpV} {n k : Nat} (h : Rv L n k M) (hL : L.length = n) (hk : n ≤ k + k + 1) : M = L.reverse := by
  apply List.ext_getElem?
  intro p
  by_cases hp : p < n
  · rw [h.2 p hp, List.getElem?_reverse (by omega), hL]
    by_cases e : p < k ∨ n - 1 - p < k
    · rw [if_pos e]
    · rw [if_neg e, show n - 1 - p = p by omega]
  · rw [List.getElem?_eq_none (by have := h.1; omega), List.getElem?_eq_none (by simp; omega)]

theorem cells6 {w : World} {B g n c k : Nat} {L : List SpV} {u : SpV} (h : Own w B 25 6 enS (.slice (some ⟨g, 0, none⟩) n c) L) (hk : L[k]? = some u) :
    w.cell? ⟨g, k * 6, none⟩ = some (.int .i64 u.s.fr) ∧ w.cell? ⟨g, k * 6 + 1, none⟩ = some (.int .i64 u.s.til) ∧ w.cell? ⟨g, k * 6 + 2, none⟩ = some (.slice u.x1 u.n1 u.c1) ∧ w.cell? ⟨g, k * 6 + 3, none⟩ = some (.slice u.x2 u.n2 u.c2) ∧ w.cell? ⟨g, k * 6 + 4, none⟩ = some (.slice u.x3 u.n3 u.c3) ∧ w.cell? ⟨g, k * 6 + 5, none⟩ = some (.int .i64 (prm u.s.ac)) :=
  ⟨h.cell srow.len hk (j := 0) rfl, h.cell srow.len hk (j := 1) rfl, h.cell srow.len hk (j := 2) rfl, h.cell srow.len hk (j := 3) rfl, h.cell srow.len hk (j := 4) rfl, h.cell srow.len hk (j := 5) rfl⟩

set_option maxHeartbeats 6400000 in
theorem reverse_any {w : World} {B n c : Nat} {x : Option Addr} {L : List SpV} (h : Own w B 25 6 enS (.slice x n c) L) (hn : L.length ≤ 5000) :
    Calls Try.prog 15 #[.slice x n c] w fun e w' => (∃ v, e = .returned v) ∧ Hid (Own w' B 25 6 enS (.slice x n c) L.reverse ∧ Turns (fun k => (Value.slice x n c).ownBlock = some k) w w') := by
  have hln := form_slice h
  have HL := hid hln
  have H0 : Hid (∃ M, Own w B 25 6 enS (.slice x n c) M ∧ Rv L n 0 M ∧ Turns (fun k => (Value.slice x n c).ownBlock = some k) w w) := ⟨L, h, rv_start hln, Turns.refl _ _⟩
  have hn5 : n ≤ 5000 := by omega
  obtain ⟨z, hz⟩ : ∃ z : Int, (n : Int) - 1 = z := ⟨_, rfl⟩
  have HZ := hid hz
  clear h hln hn
  go_enter Try.func15, Try.ntmps15
  go_wp2_with fail
  clear hz
  go_loopw [2, 3] (fun i j wr => ∃ (k : Nat) (y : Int), i = .int .i64 k ∧ j = .int .i64 y ∧ k ≤ n ∧ Hid (y + k + 1 = n) ∧ Hid (∃ M, Own wr B 25 6 enS (.slice x n c) M ∧ Rv L n k M ∧ Turns (fun k => (Value.slice x n c).ownBlock = some k) w wr)) (fun i j _ => (intOf j - intOf i + 1).toNat)
  case atStart => exact ⟨0, z, rfl, by first | rfl | (have := HZ.out; go_num), by omega, by have := HZ.out; show z + (0 : Nat) + 1 = n; omega, H0.out⟩
  case round =>
    clear H0
    obtain ⟨k, y, rfl, rfl, hk, HK, HM⟩ := hrel
    by_cases hlt : (k : Int) < y
    · obtain ⟨j, hj⟩ : ∃ j : Nat, y = (j : Int) := ⟨y.toNat, by omega⟩
      subst hj
      obtain ⟨M, hO, hR, hT⟩ := HM.out
      have hkj : k < j := by omega
      have hjk : j + k + 1 = n := by have := HK.out; omega
      have hjn' : (j : Int) < (n : Int) := by omega
      have hkn' : (k : Int) < (n : Int) := by omega
      obtain ⟨u, hu⟩ : ∃ u, M[k]? = some u := ⟨M[k]'(by have := hR.1; omega), List.getElem?_eq_getElem (by have := hR.1; omega)⟩
      obtain ⟨v, hv⟩ : ∃ v, M[j]? = some v := ⟨M[j]'(by have := hR.1; omega), List.getElem?_eq_getElem (by have := hR.1; omega)⟩
      obtain ⟨g, c6, e6, _, _, hg1, hg2⟩ := hO.there (fun e => by rw [e] at hu; simp at hu)
      injection e6 with e61 e62 e63
      subst e61
      obtain ⟨a0, a1, a2, a3, a4, a5⟩ := cells6 hO hu
      obtain ⟨b0, b1, b2, b3, b4, b5⟩ := cells6 hO hv
      have hfr : ∀ q, wr.frozen? ⟨g, q, none⟩ = false := fun q => hO.frozen (k := q)
      have f0 := hfr (k * 6)
      have f1 := hfr (k * 6 + 1)
      have f2 := hfr (k * 6 + 2)
      have f3 := hfr (k * 6 + 3)
      have f4 := hfr (k * 6 + 4)
      have f5 := hfr (k * 6 + 5)
      have g0 := hfr (j * 6)
      have g1 := hfr (j * 6 + 1)
      have g2 := hfr (j * 6 + 2)
      have g3 := hfr (j * 6 + 3)
      have g4 := hfr (j * 6 + 4)
      have g5 := hfr (j * 6 + 5)
      have HN : Hid (Own (put6o (put6o wr g (k * 6) v) g (j * 6) u).drew B 25 6 enS (.slice (some ⟨g, 0, none⟩) n c) ((M.set k v).set j u) ∧ Rv L n (k + 1) ((M.set k v).set j u) ∧ Turns (fun k => (Value.slice (some ⟨g, 0, none⟩) n c).ownBlock = some k) w (put6o (put6o wr g (k * 6) v) g (j * 6) u).drew) := by
        refine ⟨(Own.set6 (Own.set6 hO k v) j u).below ((Below.refl _ _).drew), rv_swap hR hjk hkj hu hv, (hT.trans ((turns_put6o.trans turns_put6o).weak fun q e => ?_)).drew⟩
        have e' : q = g := e
        rw [e']
        rfl
      clear hO hR hT hu hv hfr e62 e63 HM hg1
      unfold put6o at HN
      go_wp2_with fail
      go_region
      obtain ⟨W9, hW9⟩ : ∃ W9, W9 = ((((((((((((wr.setCell ⟨g, k * 6, none⟩ (.int .i64 v.s.fr)).setCell ⟨g, k * 6 + 1, none⟩ (.int .i64 v.s.til)).setCell ⟨g, k * 6 + 2, none⟩ (.slice v.x1 v.n1 v.c1)).setCell ⟨g, k * 6 + 3, none⟩ (.slice v.x2 v.n2 v.c2)).setCell ⟨g, k * 6 + 4, none⟩ (.slice v.x3 v.n3 v.c3)).setCell ⟨g, k * 6 + 5, none⟩ (.int .i64 (prm v.s.ac))).setCell ⟨g, j * 6, none⟩ (.int .i64 u.s.fr)).setCell ⟨g, j * 6 + 1, none⟩ (.int .i64 u.s.til)).setCell ⟨g, j * 6 + 2, none⟩ (.slice u.x1 u.n1 u.c1)).setCell ⟨g, j * 6 + 3, none⟩ (.slice u.x2 u.n2 u.c2)).setCell ⟨g, j * 6 + 4, none⟩ (.slice u.x3 u.n3 u.c3)).setCell ⟨g, j * 6 + 5, none⟩ (.int .i64 (prm u.s.ac))).drew := ⟨_, rfl⟩
      rw [← hW9] at HN ⊢
      clear hW9 a0 a1 a2 a3 a4 a5 b0 b1 b2 b3 b4 b5 f0 f1 f2 f3 f4 f5 g0 g1 g2 g3 g4 g5
      go_wp2_with fail
      go_roundw
      case rel => exact ⟨k + 1, (j : Int) - 1, by go_num, by first | rfl | go_num, by omega, by have := HK.out; show (j : Int) - 1 + ((k + 1 : Nat) : Int) + 1 = n; omega, _, HN.out⟩
      case measure => simp [intOf]; omega
    · obtain ⟨M, hO, hR, hT⟩ := HM.out
      have HF := hid (And.intro hO (And.intro hR hT))
      clear hO hR hT HM
      go_wp2_with fail
      go_end0
      obtain ⟨hO, hR, hT⟩ := HF.out
      rw [rv_end hR HL.out (by have := HK.out; omega)] at hO
      exact ⟨⟨_, rfl⟩, hO, hT⟩

end Go.Proofs.Ythlfmbijagpggaa.Iv

/-
  Whether maps are alike: slices.Equal, atlas.Same, the document's Same.
  Conditions: lists lie in memory.
-/
namespace Go.Proofs.Ythlfmbijagpggaa.At
open Go.RowKit By Fl
set_option linter.unusedVariables false
set_option linter.unusedSimpArgs false
set_option maxRecDepth 100000

theorem neq_osd (a b : Osd) (w : World) : (binOp .neq 45 (vO a) (vO b)).run Try.prog w = .ok (.bool (!eqO a b)) w := by
  obtain ⟨a0, a1, a2, a3, a4, a5, a6, a7⟩ := a
  obtain ⟨b0, b1, b2, b3, b4, b5, b6, b7⟩ := b
  unfold vO eqO
  dsimp only
  go_simp
  by_cases e0 : a0 = b0 <;> by_cases e1 : a1 = b1 <;> by_cases e2 : a2 = b2 <;> by_cases e3 : a3 = b3 <;> by_cases e4 : a4 = b4 <;> by_cases e5 : a5 = b5 <;> by_cases e6 : a6 = b6 <;> by_cases e7 : a7 = b7 <;> simp [e0, e1, e2, e3, e4, e5, e6, e7]

theorem eq_pool (a b : Pool) (w : World) : (binOp .eql 29 (vP a) (vP b)).run Try.prog w = .ok (.bool (eqP a b)) w := by
  obtain ⟨a0, a1, a2, a3⟩ := a
  obtain ⟨b0, b1, b2, b3⟩ := b
  unfold vP eqP
  dsimp only
  go_simp
  by_cases e0 : a0 = b0 <;> by_cases e1 : a1 = b1 <;> by_cases e2 : a2 = b2 <;> by_cases e3 : a3 = b3 <;> simp [e0, e1, e2, e3]

theorem neq_pool (a b : Pool) (w : World) : (binOp .neq 29 (vP a) (vP b)).run Try.prog w = .ok (.bool (!eqP a b)) w := by
  obtain ⟨a0, a1, a2, a3⟩ := a
  obtain ⟨b0, b1, b2, b3⟩ := b
  unfold vP eqP
  dsimp only
  go_simp
  by_cases e0 : a0 = b0 <;> by_cases e1 : a1 = b1 <;> by_cases e2 : a2 = b2 <;> by_cases e3 : a3 = b3 <;> simp [e0, e1, e2, e3]

theorem eqL_len {a b : List Osd} (h : a.length ≠ b.length) : eqL a b = false := by
  cases hq : eqL a b with
  | false => rfl
  | true => exact absurd (congrArg List.length ((eqL_iff a b).1 hq)) h

theorem eqL_bad {a b : List Osd} {k : Nat} {u v : Osd} (hu : a[k]? = some u) (hv : b[k]? = some v) (h : eqO u v = false) : eqL a b = false := by
  cases hq : eqL a b with
  | false => rfl
  | true =>
    have := (eqL_iff a b).1 hq
    subst this
    have := Option.some.inj (hu.symm.trans hv)
    subst this
    rw [(eqO_iff u u).2 rfl] at h
    cases h

def SameTo (a b : List Osd) (k : Nat) : Prop := ∀ (j : Nat) (u v : Osd), j < k → a[j]? = some u → b[j]? = some v → eqO u v = true

theorem SameTo.all {a b : List Osd} (h : SameTo a b a.length) (hl : a.length = b.length) : eqL a b = true := by
  rw [eqL_iff]
  apply List.ext_getElem?
  intro i
  by_cases hi : i < a.length
  · rw [List.getElem?_eq_getElem hi, List.getElem?_eq_getElem (by omega)]
    exact congrArg some ((eqO_iff _ _).1 (h i _ _ hi (List.getElem?_eq_getElem hi) (List.getElem?_eq_getElem (by omega))))
  · rw [List.getElem?_eq_none (by omega), List.getElem?_eq_none (by omega)]

theorem SameTo.step {a b : List Osd} {k : Nat} {u v : Osd} (h : SameTo a b k) (hu : a[k]? = some u) (hv : b[k]? = some v) (he : eqO u v = true) : SameTo a b (k + 1) := fun j u' v' hj hu' hv' => by
  by_cases e : j = k
  · subst e
    have h1 := Option.some.inj (hu.symm.trans hu')
    have h2 := Option.some.inj (hv.symm.trans hv')
    subst h1 h2
    exact he
  · exact h j u' v' (by omega) hu' hv'

end Go.Proofs.Ythlfmbijagpggaa.At

/-
  Package interval: mapsMay: are maps one behind the other?
  Conditions: the row of maps lies in memory.
-/
namespace Go.Proofs.Ythlfmbijagpggaa.Iv
open Go.RowKit By Fl At Cr Pl
set_option linter.unusedVariables false
set_option linter.unusedSimpArgs false
set_option maxRecDepth 100000

theorem okM_cons (m : Mp) (t : List Mp) (pg : Int) (h1 : t.length + 1 ≤ 4096) (h2 : 0 ≤ pg) (h3 : pg < m.pool.pgs) : okM (m :: t) pg = okR m.pool m.ep (m :: t) := by
  simp only [okM]
  rw [decide_eq_true h1, decide_eq_true h2, decide_eq_true h3]
  rfl
theorem drop_next {ms : List Mp} {k : Nat} {m : Mp} (h : ms[k]? = some m) : ms.drop k = m :: ms.drop (k + 1) := by
  obtain ⟨hk, e⟩ := List.getElem?_eq_some_iff.1 h
  rw [List.drop_eq_getElem_cons hk, e]

set_option maxHeartbeats 6400000 in
theorem mapsmay_loop {w : World} {b o n c : Nat} {L : List MV} {pg : Int} (h : Ms w (some ⟨b, o, none⟩) n c L) (hn : n ≤ 4096) (m0 : MV) (h0 : L[0]? = some m0) (h2 : 0 ≤ pg) (h3 : pg < m0.m.pool.pgs) :
    Calls Try.prog 12 #[.slice (some ⟨b, o, none⟩) n c, .int .i64 pg] w fun e w' => e = .returned (.bool (okR m0.m.pool m0.m.ep (L.map MV.m))) ∧ Below w.heap.size w w' := by
  have hlen := h.len
  have hn1 : 1 ≤ n := by
    have := (List.getElem?_eq_some_iff.1 h0).1
    omega
  rcases h.row with e | ⟨b', o', e, hb, hc⟩
  · omega
  injection e with e
  injection e with e1 e2
  subst e1 e2
  obtain ⟨d0, d1, d2, d3, d4, d5⟩ := Ms.at hc h0
  rw [Nat.zero_mul, Nat.add_zero] at d0 d1 d2 d3 d4 d5
  have hn1' : ¬ (n : Int) < 1 := by omega
  have hn2' : ¬ (4096 : Int) < (n : Int) := by omega
  have h2' : ¬ pg < 0 := by omega
  have h3' : ¬ m0.m.pool.pgs ≤ pg := by omega
  have hnn : (0 : Int) < (n : Int) := by omega
  have HH := hid h
  have HL := hid hlen
  have H0 := hid h0
  have HC := hid hc
  have HD := hid (And.intro d0 (And.intro d1 (And.intro d2 (And.intro d3 d4))))
  clear h hlen h0 hc h2 h3 hb
  obtain ⟨⟨e0, ⟨k0, q0, g0, z0⟩, os0⟩, x0, n0, c0⟩ := m0
  dsimp only at d0 d1 d2 d3 d4 d5 h3' HD ⊢
  go_enter Try.func12, Try.ntmps12
  go_wp2_with fail
  clear d0 d1 d2 d3 d4 d5
  go_loopw [30, 5, 6] (fun i _ _ wr => ∃ k : Nat, k ≤ n ∧ i = .int .i64 k ∧ Hid (Below w.heap.size w wr ∧ okR ⟨k0, q0, g0, z0⟩ e0 (L.map MV.m) = okR ⟨k0, q0, g0, z0⟩ (e0 + k) ((L.map MV.m).drop k) ∧ (k = 0 ∨ mayM ⟨e0, ⟨k0, q0, g0, z0⟩, os0⟩ = true))) (fun i _ _ _ => n - (intOf i).toNat)
  case atStart => exact ⟨0, by omega, rfl, Below.refl _ _, by simp, .inl rfl⟩
  case round =>
    obtain ⟨k, hk, rfl, HR⟩ := hrel
    by_cases hlt : k < n
    · have hkn : (k : Int) < (n : Int) := by omega
      obtain ⟨v, hv⟩ : ∃ v, L[k]? = some v := ⟨L[k]'(by have := HL.out; omega), List.getElem?_eq_getElem (by have := HL.out; omega)⟩
      have hbw := HR.out.1
      obtain ⟨hOs, hkk⟩ := HH.out.each k v hv
      obtain ⟨a0, a1, a2, a3, a4, a5⟩ := Ms.at HC.out hv
      have r0 := keep hbw a0
      have r1 := keep hbw a1
      have r2 := keep hbw a2
      have r3 := keep hbw a3
      have r4 := keep hbw a4
      have r5 := keep hbw a5
      have hmm : (L.map MV.m)[k]? = some v.m := by rw [List.getElem?_map, hv]; rfl
      have hdr := drop_next hmm
      obtain ⟨⟨ep, ⟨pk, pm, pp, pd⟩, os⟩, x1, n1, c1⟩ := v
      dsimp only at r0 r1 r2 r3 r4 r5 hOs hkk hdr
      obtain ⟨w0, hw0⟩ : ∃ w0, w0 = wr.alloc (.cells #[.int .i64 ep, .int .i64 pk, .int .i64 pm, .int .i64 pp, .int .i64 pd, .slice x1 n1 c1] 32) := ⟨_, rfl⟩
      have b0 : Below wr.heap.size wr w0 := by rw [hw0]; exact al _ _
      have t0 : w0.cell? ⟨wr.heap.size, 0, none⟩ = some (.int .i64 ep) := by rw [hw0]; go_simp
      have t1 : w0.cell? ⟨wr.heap.size, 1, none⟩ = some (.int .i64 pk) := by rw [hw0]; go_simp
      have t2 : w0.cell? ⟨wr.heap.size, 2, none⟩ = some (.int .i64 pm) := by rw [hw0]; go_simp
      have t3 : w0.cell? ⟨wr.heap.size, 3, none⟩ = some (.int .i64 pp) := by rw [hw0]; go_simp
      have t4 : w0.cell? ⟨wr.heap.size, 4, none⟩ = some (.int .i64 pd) := by rw [hw0]; go_simp
      have t5 : w0.cell? ⟨wr.heap.size, 5, none⟩ = some (.slice x1 n1 c1) := by rw [hw0]; go_simp
      have bw0 := on hbw b0
      obtain ⟨d0, d1, d2, d3, d4⟩ := HD.out
      have s0 := After.cell t0
      have s1 := After.cell t1
      have s2 := After.cell t2
      have s3 := After.cell t3
      have s4 := After.cell t4
      have s5 := After.cell t5
      have u0 := After.cell (keep bw0 d0)
      have u1 := After.cell (keep bw0 d1)
      have u2 := After.cell (keep bw0 d2)
      have u3 := After.cell (keep bw0 d3)
      have u4 := After.cell (keep bw0 d4)
      have hCk := fun p : After w0 => check_any ⟨ep, ⟨pk, pm, pp, pd⟩, os⟩ (hOs.below (on bw0 p.h)) hkk
      have hE := fun W => neq_pool ⟨pk, pm, pp, pd⟩ ⟨k0, q0, g0, z0⟩ W
      unfold vM at hCk
      unfold vP at hE
      dsimp only at hCk hE
      have HW := hid hw0
      have B0 := hid bw0
      have HDR : Hid (okR ⟨k0, q0, g0, z0⟩ e0 (L.map MV.m) = (mayM ⟨ep, ⟨pk, pm, pp, pd⟩, os⟩ && eqP ⟨pk, pm, pp, pd⟩ ⟨k0, q0, g0, z0⟩ && decide (ep = e0 + k) && okR ⟨k0, q0, g0, z0⟩ (e0 + k + 1) ((L.map MV.m).drop (k + 1)))) := by
        rw [HR.out.2.1, hdr]
        rfl
      have HM0 : Hid (mayM ⟨ep, ⟨pk, pm, pp, pd⟩, os⟩ = true → mayM ⟨e0, ⟨k0, q0, g0, z0⟩, os0⟩ = true) := fun e => by
        rcases HR.out.2.2 with e1 | e1
        · subst e1
          have := H0.out
          rw [hv] at this
          injection this with this
          injection this with this
          rw [← this]
          exact e
        · exact e1
      clear hw0 t0 t1 t2 t3 t4 t5 b0 bw0 hOs hkk d0 d1 d2 d3 d4 a0 a1 a2 a3 a4 a5 hv hmm hdr HR hbw
      generalize hmay : mayM ⟨ep, ⟨pk, pm, pp, pd⟩, os⟩ = tm at *
      generalize heq : eqP ⟨pk, pm, pp, pd⟩ ⟨k0, q0, g0, z0⟩ = tp at *
      clear hmay
      have HEQ := hid heq
      clear heq
      haveI := After.ne w0
      go_wp2_with fail
      rw [← HW.out]
      clear r0 r1 r2 r3 r4 r5
      cases tm with
      | false =>
        clear hE
        simp only [errB] at hCk
        refine wp_region_after (by kernel_rfl) (by kernel_rfl) ?_
        repeat (go_big_quiet_step ((go_at_call 16; refine Calls.after_of (hCk _))))
        refine wpQuiet_nil ?_
        rintro _ ⟨p, rfl⟩
        go_wp2_with fail
        go_ret
        exact ⟨by rw [HDR.out]; simp, on B0.out p.h⟩
      | true =>
        simp only [errB] at hCk
        cases tp with
        | false =>
          refine wp_region_after (by kernel_rfl) (by kernel_rfl) ?_
          repeat (go_big_quiet_step ((go_at_call 16; refine Calls.after_of (hCk _))))
          refine wpQuiet_nil ?_
          rintro _ ⟨p, rfl⟩
          go_wp2_with fail
          go_ret
          exact ⟨by rw [HDR.out]; simp, on B0.out p.h⟩
        | true =>
          have hmay0 := HM0.out rfl
          have he0 : 0 ≤ e0 ∧ e0 ≤ 1048576 := by
            unfold mayM at hmay0
            simp only [Bool.and_eq_true, wi_iff] at hmay0
            omega
          have hsum : IntKind.i64.wrap (e0 + (k : Int)) = e0 + (k : Int) := by rw [IntKind.wrap_i64]; omega
          have HM1 := hid hmay0
          clear hmay0
          by_cases hep : ep = e0 + (k : Int)
          · have hq : (ep != e0 + (k : Int)) = false := by simpa using hep
            have HEP := hid hep
            clear hep
            refine wp_region_after (by kernel_rfl) (by kernel_rfl) ?_
            repeat (go_big_quiet_step ((go_at_call 16; refine Calls.after_of (hCk _))))
            refine wpQuiet_nil ?_
            rintro _ ⟨p, rfl⟩
            go_wp2_with fail
            go_roundw
            case rel =>
              refine ⟨k + 1, by omega, by go_num, on B0.out p.h, ?_, .inr HM1.out⟩
              rw [HDR.out, decide_eq_true HEP.out]
              simp only [Bool.true_and]
              congr 1
              omega
            case measure => simp [intOf]; omega
          · have hq : (ep != e0 + (k : Int)) = true := by simpa using hep
            have HEP := hid hep
            clear hep
            refine wp_region_after (by kernel_rfl) (by kernel_rfl) ?_
            repeat (go_big_quiet_step ((go_at_call 16; refine Calls.after_of (hCk _))))
            refine wpQuiet_nil ?_
            rintro _ ⟨p, rfl⟩
            go_wp2_with fail
            go_ret
            exact ⟨by rw [HDR.out, decide_eq_false HEP.out]; simp, on B0.out p.h⟩
    · have hk2 : k = n := by omega
      subst hk2
      go_wp2_with fail
      go_ret
      refine ⟨?_, HR.out.1⟩
      rw [HR.out.2.1, List.drop_of_length_le (by rw [List.length_map, HL.out]; exact Nat.le_refl _)]
      rfl

set_option maxHeartbeats 1600000 in
theorem mapsmay_any {w : World} {x : Option Addr} {n c : Nat} {L : List MV} (h : Ms w x n c L) (pg : Int) :
    Calls Try.prog 12 #[.slice x n c, .int .i64 pg] w fun e w' => e = .returned (.bool (okM (L.map MV.m) pg)) ∧ Below w.heap.size w w' := by
  have hlen := h.len
  by_cases h1 : n < 1
  · have hL : L = [] := List.eq_nil_of_length_eq_zero (by omega)
    have hn : n = 0 := by omega
    subst hn
    rw [hL]
    go_enter Try.func12, Try.ntmps12
    go_wp2_with fail
    go_ret
    exact ⟨rfl, Below.refl _ _⟩
  obtain ⟨m0, t, hL⟩ : ∃ m t, L = m :: t := List.exists_cons_of_ne_nil (fun e => by rw [e] at hlen; simp at hlen; omega)
  have ht : t.length + 1 = n := by rw [hL] at hlen; simpa using hlen
  have hn1' : ¬ (n : Int) < 1 := by omega
  by_cases h4 : 4096 < n
  · have h4' : (4096 : Int) < (n : Int) := by omega
    have HL := hid hL
    have HT := hid ht
    clear h hlen hL ht h1
    go_enter Try.func12, Try.ntmps12
    go_wp2_with fail
    go_ret
    refine ⟨?_, Below.refl _ _⟩
    rw [HL.out]
    show Ending.returned (.bool false) = .returned (.bool (decide ((t.map MV.m).length + 1 ≤ 4096) && _ && _ && _))
    rw [decide_eq_false (by rw [List.length_map, HT.out]; omega)]
    rfl
  have h4' : ¬ (4096 : Int) < (n : Int) := by omega
  by_cases hp : pg < 0
  · have HL := hid hL
    have hp2 : ¬ 0 ≤ pg := by omega
    have HP := hid hp2
    clear h hlen hL ht h1 hp2
    go_enter Try.func12, Try.ntmps12
    go_wp2_with fail
    go_ret
    refine ⟨?_, Below.refl _ _⟩
    rw [HL.out]
    show Ending.returned (.bool false) = .returned (.bool (decide ((t.map MV.m).length + 1 ≤ 4096) && decide (0 ≤ pg) && _ && _))
    rw [decide_eq_false (p := 0 ≤ pg) (fun e => by have := HP.out; omega)]
    simp
  have h0 : L[0]? = some m0 := by rw [hL]; rfl
  by_cases hg : pg < m0.m.pool.pgs
  · rcases h.row with e | ⟨b, o, rfl, hb, hc⟩
    · omega
    have := mapsmay_loop h (by omega) m0 h0 (by omega) hg
    rw [hL, List.map_cons] at this
    rw [hL, List.map_cons, okM_cons _ _ _ (by rw [List.length_map]; omega) (by omega) hg]
    exact this
  · rcases h.row with e | ⟨b, o, rfl, hb, hc⟩
    · omega
    obtain ⟨d0, d1, d2, d3, d4, d5⟩ := Ms.at hc h0
    rw [Nat.zero_mul, Nat.add_zero] at d0 d1 d2 d3 d4 d5
    have hnn : (0 : Int) < (n : Int) := by omega
    have hg' : m0.m.pool.pgs ≤ pg := by omega
    have hp' : ¬ pg < 0 := hp
    have HL := hid (And.intro hL hg)
    clear h hlen hL ht h1 hc h0 hg
    go_enter Try.func12, Try.ntmps12
    go_wp2_with fail
    go_ret
    refine ⟨?_, Below.refl _ _⟩
    rw [HL.out.1]
    show Ending.returned (.bool false) = .returned (.bool (decide ((t.map MV.m).length + 1 ≤ 4096) && decide (0 ≤ pg) && decide (pg < m0.m.pool.pgs) && _))
    rw [decide_eq_false (p := pg < m0.m.pool.pgs) (fun e => by have := HL.out.2; omega)]
    simp

end Go.Proofs.Ythlfmbijagpggaa.Iv

/-
  Package interval: Enough and Place.
  Conditions: the lists lie in memory.
-/
namespace Go.Proofs.Ythlfmbijagpggaa.Iv
open Go.RowKit By Fl At Cr Pl
set_option linter.unusedVariables false
set_option linter.unusedSimpArgs false
set_option maxRecDepth 100000

def nh (l : List Int) : Nat := (l.filter fun z => z != -1).length
theorem nh_next {l : List Int} {k : Nat} {z : Int} (h : l[k]? = some z) : nh (l.take (k + 1)) = nh (l.take k) + (if z = -1 then 0 else 1) := by
  unfold nh
  rw [List.take_add_one, h, List.filter_append, List.length_append]
  by_cases e : z = -1
  · simp [e]
  · simp [e]
theorem nh_le (l : List Int) (k : Nat) : nh (l.take k) ≤ k := by
  unfold nh
  have h1 := List.length_filter_le (fun z => z != -1) (l.take k)
  rw [List.length_take] at h1
  omega

def plF (osd life : Int) : List Int → List Int → Nat → Int
  | a :: t, l :: r, i => if a = osd ∧ l = life then (i : Int) else plF osd life t r (i + 1)
  | _, _, _ => -1
def plc (ac lv : List Int) (osd life : Int) : Int := if osd = -1 then -1 else plF osd life ac lv 0
theorem dropI {l : List Int} {k : Nat} {z : Int} (h : l[k]? = some z) : l.drop k = z :: l.drop (k + 1) := by
  obtain ⟨hk, e⟩ := List.getElem?_eq_some_iff.1 h
  rw [List.drop_eq_getElem_cons hk, e]
theorem plF_cons (osd life a l : Int) (t r : List Int) (i : Nat) : plF osd life (a :: t) (l :: r) i = if a = osd ∧ l = life then (i : Int) else plF osd life t r (i + 1) := rfl
theorem plF_end {osd life : Int} {a l : List Int} {i : Nat} (h : a = [] ∨ l = []) : plF osd life a l i = -1 := by
  rcases h with rfl | rfl
  · cases l <;> rfl
  · cases a <;> rfl

set_option maxHeartbeats 1600000 in
theorem enough_any {w : World} {x1 x2 x3 : Option Addr} {n1 c1 n2 c2 n3 c3 : Nat} {ac : List Int} (h : Nu w x1 n1 c1 ac) (hn : n1 ≤ 140737488351232) (f1 f2 p k : Int) :
    Calls Try.prog 7 #[.agg #[.int .i64 f1, .int .i64 f2, .slice x1 n1 c1, .slice x2 n2 c2, .slice x3 n3 c3, .int .i64 p], .int .i64 k] w fun e w' => e = .returned (.bool (decide (k ≤ (nh ac : Int)))) ∧ Below w.heap.size w w' := by
  obtain ⟨w0, hw0⟩ : ∃ w0, w0 = w.alloc (.cells #[.int .i64 f1, .int .i64 f2, .slice x1 n1 c1, .slice x2 n2 c2, .slice x3 n3 c3, .int .i64 p] 25) := ⟨_, rfl⟩
  have b0 : Below w.heap.size w w0 := by rw [hw0]; exact al _ _
  have HN := hid (h.below b0)
  have HL := hid h.len
  have HB := hid b0
  have HW := hid hw0
  clear h b0 hw0
  go_enter Try.func7, Try.ntmps7
  go_wp2_with fail
  rw [← HW.out]
  go_loop [11, 5, 7] (fun i q _ => ∃ k : Nat, k ≤ n1 ∧ i = .int .i64 k ∧ q = .int .i64 (nh (ac.take k) : Int)) (fun i _ _ => n1 - (intOf i).toNat)
  case atStart => exact ⟨0, by omega, rfl, rfl⟩
  case round =>
    obtain ⟨j, hj, rfl, rfl⟩ := hrel
    by_cases hlt : j < n1
    · have hjn : (j : Int) < (n1 : Int) := by omega
      obtain ⟨z, hz⟩ : ∃ z, ac[j]? = some z := ⟨ac[j]'(by have := HL.out; omega), List.getElem?_eq_getElem (by have := HL.out; omega)⟩
      rcases HN.out.row with e | ⟨b, o, rfl, hb, hc⟩
      · omega
      have d0 := hc j z hz
      have hq := nh_next hz
      have hle := nh_le ac j
      clear hc hz
      generalize hN : nh (ac.take j) = N at *
      clear hN
      by_cases hh : z = -1
      · have e1 : (z != -1) = false := by simpa using hh
        rw [if_pos hh] at hq
        have HQ := hid hq
        clear hq hh
        go_wp2_with fail
        go_round
        case rel => exact ⟨j + 1, by omega, by go_num, by rw [HQ.out]; rfl⟩
        case measure => simp [intOf]; omega
      · have e1 : (z != -1) = true := by simpa using hh
        rw [if_neg hh] at hq
        have HQ := hid hq
        clear hq hh
        go_wp2_with fail
        go_round
        case rel => exact ⟨j + 1, by omega, by go_num, by rw [HQ.out]; go_num⟩
        case measure => simp [intOf]; omega
    · have hj2 : j = n1 := by omega
      subst hj2
      have htk : ac.take j = ac := List.take_of_length_le (by have := HL.out; omega)
      rw [htk] at *
      go_wp2_with fail
      go_ret
      exact ⟨rfl, HB.out⟩

set_option maxHeartbeats 3200000 in
theorem place_a {w : World} {x1 x2 x3 : Option Addr} {n1 c1 n2 c2 n3 c3 : Nat} {ac lv : List Int} (h1 : Nu w x1 n1 c1 ac) (h2 : Nu w x2 n2 c2 lv) (hm1 : n1 ≤ 140737488351232) (hm2 : n2 ≤ 140737488351232) (hle : n1 ≤ n2) (f1 f2 p osd life : Int) (ho : osd ≠ -1) :
    Calls Try.prog 8 #[.agg #[.int .i64 f1, .int .i64 f2, .slice x1 n1 c1, .slice x2 n2 c2, .slice x3 n3 c3, .int .i64 p], .int .i64 osd, .int .i64 life] w fun e w' => e = .returned (.int .i64 (plF osd life ac lv 0)) ∧ Below w.heap.size w w' := by
  obtain ⟨w0, hw0⟩ : ∃ w0, w0 = w.alloc (.cells #[.int .i64 f1, .int .i64 f2, .slice x1 n1 c1, .slice x2 n2 c2, .slice x3 n3 c3, .int .i64 p] 25) := ⟨_, rfl⟩
  have b0 : Below w.heap.size w w0 := by rw [hw0]; exact al _ _
  have k2 : w0.cell? ⟨w.heap.size, 2, none⟩ = some (.slice x1 n1 c1) := by rw [hw0]; go_simp
  have k3 : w0.cell? ⟨w.heap.size, 3, none⟩ = some (.slice x2 n2 c2) := by rw [hw0]; go_simp
  have HN := hid (And.intro (h1.below b0) (h2.below b0))
  have HL := hid (And.intro h1.len h2.len)
  have HB := hid b0
  have HW := hid hw0
  have eo : (osd == -1) = false := by simpa using ho
  have hleI : (n1 : Int) ≤ (n2 : Int) := by omega
  clear h1 h2 b0 hw0 ho
  go_enter Try.func8, Try.ntmps8
  go_wp2_with fail
  rw [← HW.out]
  go_loop [17, 7] (fun i _ => ∃ k : Nat, k ≤ n1 ∧ i = .int .i64 k ∧ Hid (plF osd life ac lv 0 = plF osd life (ac.drop k) (lv.drop k) k)) (fun i _ => n1 - (intOf i).toNat)
  case atStart => exact ⟨0, by omega, rfl, rfl⟩
  case round =>
    obtain ⟨j, hj, rfl, HP⟩ := hrel
    by_cases hlt : j < n1
    · have hjn : (j : Int) < (n1 : Int) := by omega
      have hj1 : (j : Int) < (n1 : Int) := by omega
      have hj2 : (j : Int) < (n2 : Int) := by omega
      obtain ⟨z, hz⟩ : ∃ z, ac[j]? = some z := ⟨ac[j]'(by have := HL.out; omega), List.getElem?_eq_getElem (by have := HL.out; omega)⟩
      obtain ⟨y, hy⟩ : ∃ y, lv[j]? = some y := ⟨lv[j]'(by have := HL.out; omega), List.getElem?_eq_getElem (by have := HL.out; omega)⟩
      rcases HN.out.1.row with e | ⟨b, o, rfl, hb, hc⟩
      · omega
      rcases HN.out.2.row with e | ⟨b2, o2, rfl, hb2, hc2⟩
      · omega
      have d0 := hc j z hz
      have d1 := hc2 j y hy
      have hq := HP.out
      rw [dropI hz, dropI hy] at hq
      rw [plF_cons] at hq
      clear hc hc2 hz hy
      by_cases h1 : z = osd
      · have e1 : (z == osd) = true := by simpa using h1
        by_cases h2 : y = life
        · have e2 : (y == life) = true := by simpa using h2
          rw [if_pos ⟨h1, h2⟩] at hq
          have HQ := hid (hq : plF osd life ac lv 0 = (j : Int))
          clear hq h1 h2 HP
          go_wp2_with fail
          go_ret
          exact ⟨congrArg (fun z => Ending.returned (.int .i64 z)) HQ.out.symm, HB.out⟩
        · have e2 : (y == life) = false := by simpa using h2
          rw [if_neg (fun e => h2 e.2)] at hq
          have HQ := hid hq
          clear hq h1 h2
          go_wp2_with fail
          go_round
          case rel => exact ⟨j + 1, by omega, by go_num, HQ.out⟩
          case measure => simp [intOf]; omega
      · have e1 : (z == osd) = false := by simpa using h1
        rw [if_neg (fun e => h1 e.1)] at hq
        have HQ := hid hq
        clear hq h1
        go_wp2_with fail
        go_round
        case rel => exact ⟨j + 1, by omega, by go_num, HQ.out⟩
        case measure => simp [intOf]; omega
    · have hj2 : j = n1 := by omega
      have HQ : Hid (plF osd life ac lv 0 = -1) := by
        have := HP.out
        rw [plF_end (.inl (List.drop_of_length_le (by have := HL.out; omega)))] at this
        exact this
      clear HP
      subst hj2
      go_wp2_with fail
      go_ret
      exact ⟨congrArg (fun z => Ending.returned (.int .i64 z)) HQ.out.symm, HB.out⟩

set_option maxHeartbeats 3200000 in
theorem place_b {w : World} {x1 x2 x3 : Option Addr} {n1 c1 n2 c2 n3 c3 : Nat} {ac lv : List Int} (h1 : Nu w x1 n1 c1 ac) (h2 : Nu w x2 n2 c2 lv) (hm1 : n1 ≤ 140737488351232) (hm2 : n2 ≤ 140737488351232) (hle : n2 < n1) (f1 f2 p osd life : Int) (ho : osd ≠ -1) :
    Calls Try.prog 8 #[.agg #[.int .i64 f1, .int .i64 f2, .slice x1 n1 c1, .slice x2 n2 c2, .slice x3 n3 c3, .int .i64 p], .int .i64 osd, .int .i64 life] w fun e w' => e = .returned (.int .i64 (plF osd life ac lv 0)) ∧ Below w.heap.size w w' := by
  obtain ⟨w0, hw0⟩ : ∃ w0, w0 = w.alloc (.cells #[.int .i64 f1, .int .i64 f2, .slice x1 n1 c1, .slice x2 n2 c2, .slice x3 n3 c3, .int .i64 p] 25) := ⟨_, rfl⟩
  have b0 : Below w.heap.size w w0 := by rw [hw0]; exact al _ _
  have k2 : w0.cell? ⟨w.heap.size, 2, none⟩ = some (.slice x1 n1 c1) := by rw [hw0]; go_simp
  have k3 : w0.cell? ⟨w.heap.size, 3, none⟩ = some (.slice x2 n2 c2) := by rw [hw0]; go_simp
  have HN := hid (And.intro (h1.below b0) (h2.below b0))
  have HL := hid (And.intro h1.len h2.len)
  have HB := hid b0
  have HW := hid hw0
  have eo : (osd == -1) = false := by simpa using ho
  have hleI : ¬ (n1 : Int) ≤ (n2 : Int) := by omega
  clear h1 h2 b0 hw0 ho
  go_enter Try.func8, Try.ntmps8
  go_wp2_with fail
  rw [← HW.out]
  go_loop [17, 7] (fun i _ => ∃ k : Nat, k ≤ n2 ∧ i = .int .i64 k ∧ Hid (plF osd life ac lv 0 = plF osd life (ac.drop k) (lv.drop k) k)) (fun i _ => n2 - (intOf i).toNat)
  case atStart => exact ⟨0, by omega, rfl, rfl⟩
  case round =>
    obtain ⟨j, hj, rfl, HP⟩ := hrel
    by_cases hlt : j < n2
    · have hjn : (j : Int) < (n2 : Int) := by omega
      have hj1 : (j : Int) < (n1 : Int) := by omega
      have hj2 : (j : Int) < (n2 : Int) := by omega
      obtain ⟨z, hz⟩ : ∃ z, ac[j]? = some z := ⟨ac[j]'(by have := HL.out; omega), List.getElem?_eq_getElem (by have := HL.out; omega)⟩
      obtain ⟨y, hy⟩ : ∃ y, lv[j]? = some y := ⟨lv[j]'(by have := HL.out; omega), List.getElem?_eq_getElem (by have := HL.out; omega)⟩
      rcases HN.out.1.row with e | ⟨b, o, rfl, hb, hc⟩
      · omega
      rcases HN.out.2.row with e | ⟨b2, o2, rfl, hb2, hc2⟩
      · omega
      have d0 := hc j z hz
      have d1 := hc2 j y hy
      have hq := HP.out
      rw [dropI hz, dropI hy] at hq
      rw [plF_cons] at hq
      clear hc hc2 hz hy
      by_cases h1 : z = osd
      · have e1 : (z == osd) = true := by simpa using h1
        by_cases h2 : y = life
        · have e2 : (y == life) = true := by simpa using h2
          rw [if_pos ⟨h1, h2⟩] at hq
          have HQ := hid (hq : plF osd life ac lv 0 = (j : Int))
          clear hq h1 h2 HP
          go_wp2_with fail
          go_ret
          exact ⟨congrArg (fun z => Ending.returned (.int .i64 z)) HQ.out.symm, HB.out⟩
        · have e2 : (y == life) = false := by simpa using h2
          rw [if_neg (fun e => h2 e.2)] at hq
          have HQ := hid hq
          clear hq h1 h2
          go_wp2_with fail
          go_round
          case rel => exact ⟨j + 1, by omega, by go_num, HQ.out⟩
          case measure => simp [intOf]; omega
      · have e1 : (z == osd) = false := by simpa using h1
        rw [if_neg (fun e => h1 e.1)] at hq
        have HQ := hid hq
        clear hq h1
        go_wp2_with fail
        go_round
        case rel => exact ⟨j + 1, by omega, by go_num, HQ.out⟩
        case measure => simp [intOf]; omega
    · have hj2 : j = n2 := by omega
      have HQ : Hid (plF osd life ac lv 0 = -1) := by
        have := HP.out
        rw [plF_end (.inr (List.drop_of_length_le (by have := HL.out; omega)))] at this
        exact this
      clear HP
      subst hj2
      go_wp2_with fail
      go_ret
      exact ⟨congrArg (fun z => Ending.returned (.int .i64 z)) HQ.out.symm, HB.out⟩

theorem place_any {w : World} {x1 x2 x3 : Option Addr} {n1 c1 n2 c2 n3 c3 : Nat} {ac lv : List Int} (h1 : Nu w x1 n1 c1 ac) (h2 : Nu w x2 n2 c2 lv) (hm1 : n1 ≤ 140737488351232) (hm2 : n2 ≤ 140737488351232) (f1 f2 p osd life : Int) :
    Calls Try.prog 8 #[.agg #[.int .i64 f1, .int .i64 f2, .slice x1 n1 c1, .slice x2 n2 c2, .slice x3 n3 c3, .int .i64 p], .int .i64 osd, .int .i64 life] w fun e w' => e = .returned (.int .i64 (plc ac lv osd life)) ∧ Below w.heap.size w w' := by
  unfold plc
  by_cases ho : osd = -1
  · rw [if_pos ho]
    subst ho
    have b0 := al w (.cells #[.int .i64 f1, .int .i64 f2, .slice x1 n1 c1, .slice x2 n2 c2, .slice x3 n3 c3, .int .i64 p] 25)
    clear h1 h2
    go_enter Try.func8, Try.ntmps8
    go_wp2_with fail
    go_ret
    exact ⟨rfl, b0⟩
  · rw [if_neg ho]
    by_cases hle : n1 ≤ n2
    · exact place_a h1 h2 hm1 hm2 hle f1 f2 p osd life ho
    · exact place_b h1 h2 hm1 hm2 (by omega) f1 f2 p osd life ho

end Go.Proofs.Ythlfmbijagpggaa.Iv
