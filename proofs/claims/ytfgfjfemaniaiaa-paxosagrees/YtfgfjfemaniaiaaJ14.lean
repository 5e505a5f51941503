/-
  Package paxos: decode, kind by kind.
  Conditions: the bytes lie in memory.
-/
import Derived.Test.YtfgfjfemaniaiaaJ13
namespace Go.Proofs.Ytfgfjfemaniaiaa.Px
open Go.RowKit Wi By Fl Ba
set_option linter.unusedVariables false
set_option linter.unusedSimpArgs false
set_option maxRecDepth 100000

def zero9 : Nat → Value := fun k => if k = 0 then .int .i64 0 else if k = 1 then .int .i64 0 else if k = 2 then .int .i64 0 else if k = 3 then .int .i64 0 else if k = 4 then .int .i64 0 else if k = 5 then .int .i64 0 else if k = 6 then .slice none 0 0 else if k = 7 then .int .i64 0 else .slice none 0 0

structure DS (w wi : World) (p N : Nat) (l : List Nat) (e : Nat) : Prop where
  bel : Below w.heap.size w wi
  z : Nine wi w.heap.size zero9
  rd : Rdr wi p N l e
  wp : w.heap.size < p
  pN : p < N
  Nw : N ≤ wi.heap.size

theorem DS.go {w wi wj : World} {p N : Nat} {l l' : List Nat} {e e' : Nat} (h : DS w wi p N l e) (t : Turns (atB p) wi wj) (r : Rdr wj p N l' e') : DS w wj p N l' e' :=
  ⟨h.bel.trans (t.below (fun k hk => by have e : k = p := hk; have := h.wp; omega) h.bel.size), h.z.keep t (fun hk => by have e : w.heap.size = p := hk; have := h.wp; omega), r, h.wp, h.pN, Nat.le_trans h.Nw t.size⟩

structure DM (w wi : World) (p N gm : Nat) (v : Nat → Value) (l : List Nat) (e : Nat) : Prop where
  s : DS w wi p N l e
  m : Nine wi gm v
  g : N ≤ gm
  lt : gm < wi.heap.size

theorem DM.new {w wi : World} {p N : Nat} {l : List Nat} {e : Nat} (h : DS w wi p N l e) (t : TypeId) (v0 v1 v2 v3 v4 v5 v6 v7 v8 : Value) : DM w (wi.alloc (.cells #[v0, v1, v2, v3, v4, v5, v6, v7, v8] t)) p N wi.heap.size (fun k => if k = 0 then v0 else if k = 1 then v1 else if k = 2 then v2 else if k = 3 then v3 else if k = 4 then v4 else if k = 5 then v5 else if k = 6 then v6 else if k = 7 then v7 else v8) l e :=
  have ht : Turns (atB p) wi (wi.alloc (.cells #[v0, v1, v2, v3, v4, v5, v6, v7, v8] t)) := (Turns.refl _ _).alloc _
  ⟨h.go ht (h.rd.below (al _ _)), Nine.new wi t v0 v1 v2 v3 v4 v5 v6 v7 v8, h.Nw, by simp⟩

theorem DM.go {w wi wj : World} {p N gm : Nat} {v : Nat → Value} {l l' : List Nat} {e e' : Nat} (h : DM w wi p N gm v l e) (t : Turns (atB p) wi wj) (r : Rdr wj p N l' e') : DM w wj p N gm v l' e' :=
  ⟨h.s.go t r, h.m.keep t (fun hk => by have e : gm = p := hk; have := h.g; have := h.s.pN; omega), h.g, Nat.lt_of_lt_of_le h.lt t.size⟩

theorem DM.set {w wi : World} {p N gm : Nat} {v : Nat → Value} {l : List Nat} {e : Nat} (h : DM w wi p N gm v l e) (k : Nat) (u : Value) : DM w (wi.setCell ⟨gm, k, none⟩ u) p N gm (fun i => if i = k then u else v i) l e := by
  have t : Turns (atB gm) wi (wi.setCell ⟨gm, k, none⟩ u) := turns_put (Turns.refl _ _) k u
  have hg := h.g
  have h1 := h.s.wp
  have h2 := h.s.pN
  refine ⟨⟨h.s.bel.trans (t.below (fun i hi => by have e : i = gm := hi; omega) h.s.bel.size), h.s.z.keep t (fun hk => by have e : w.heap.size = gm := hk; omega), h.s.rd.turns t (fun hk => by have e : p = gm := hk; omega) (fun i hi => by have e : i = gm := hi; omega), h.s.wp, h.s.pN, by simpa using h.s.Nw⟩, ⟨fun i hi => ?_, fun i => ?_⟩, h.g, by simpa using h.lt⟩
  · by_cases e : i = k
    · subst e
      rw [if_pos rfl]
      exact World.cell?_setCell_same _ _ _ (h.m.c i hi)
    · rw [if_neg e]
      exact (World.cell?_setCell_other _ _ _ _ (fun q => by injection q with _ q _; exact e q.symm)).trans (h.m.c i hi)
  · rw [World.frozen?_setCell]
    exact h.m.f i

theorem DM.box {w wi wj : World} {p N gm : Nat} {v : Nat → Value} {l : List Nat} {e : Nat} (h : DM w wi p N gm v l e) (b : Below wi.heap.size wi wj) : DM w wj p N gm v l e :=
  h.go (Turns.of_below b) (h.s.rd.below b)

theorem own_dcs {w : World} {B : Nat} {x : Option Addr} {n c : Nat} {L : List Dc} (h : OwnD w B (.slice x n c) L) : L.length = n ∧ DcsAt w x L := by
  obtain ⟨x', c', e, _⟩ := h.form
  injection e with e1 e2 e3
  refine ⟨e2.symm, ?_⟩
  by_cases h0 : L.length = 0
  · exact .inl h0
  · obtain ⟨g, c2, e4, _, _, _, hg⟩ := h.there (fun e => h0 (by rw [e]; rfl))
    injection e4 with e4 e5 e6
    subst e4
    refine .inr ⟨g, 0, rfl, hg, fun i d hi => ?_⟩
    have q0 := h.cell drow.len hi (j := 0) (v := .int .i64 d.mon) rfl
    have q1 := h.cell drow.len hi (j := 1) (v := .int .i64 d.ser) rfl
    have q2 := h.cell drow.len hi (j := 2) (v := .string d.val) rfl
    rw [Nat.zero_add]
    exact ⟨q0, q1, q2⟩

set_option maxHeartbeats 3200000 in
theorem dec_k4_done (x : Option Addr) (nn c : Nat) (l : List Nat) (n fr : Nat) (hn7 : n ≤ 7) (w : World) (hl : Fl.Sl w x nn c l) (hnn : nn ≤ 140737488351232) (hse : isSealed l = true)
    (A : Nat × List Nat × Nat) (hA : rNum ((n : Int) - 1) (l.take (nn - 8)) 0 = A) (K : Nat × List Nat × Nat) (hK : rNum 5 A.2.1 A.2.2 = K) (U : Nat × List Nat × Nat) (hU : rNum 2147483647 K.2.1 K.2.2 = U) (hUb : U.1 ≤ 2147483647) (hkk : K.1 = 4)
    (o : Nat) (ho : rDone U.2.1 U.2.2 = o) (hone : ((o : Int) != 0) = true) :
    Calls Try.prog 29 #[.slice x nn c, .int .i64 fr, .int .i64 n] w fun e w' => e = .returned (.tuple #[mv noMs none 0 none 0, .bool false]) ∧ Hid (Below w.heap.size w w') := by
  have hUn := fun (W : World) (h : Below w.heap.size w W) => unsealed_any x nn c l W (hl.below h) hnn
  rw [hse] at hUn
  have nI : (n : Int) ≤ 7 := by omega
  skip
  obtain ⟨K1, K2⟩ := K
  dsimp only at hkk hU
  subst hkk
  clear hl hse
  go_enter Try.func29, Try.ntmps29
  go_wp2_with (first
    | (
       go_at_call 38; refine (hUn _ (al _ _)).mono ?_; rintro e w1 ⟨y1, m1, c1, rfl, H1⟩; clear hUn
       have hR := readR y1 m1 c1 _ w1 (H1.out.2 rfl).2 (by have := (H1.out.2 rfl).1; omega)
       have HZ1 : Hid (Below w.heap.size w w1 ∧ Nine w1 w.heap.size zero9) := ⟨on (al _ _) H1.out.1, (Nine.new w _ _ _ _ _ _ _ _ _ _).keep (Turns.of_below (F := fun _ => False) H1.out.1) (fun h => h)⟩
       have lw1 : w.heap.size < w1.heap.size := by have := H1.out.1.size; simp at this; omega)
    | (
       go_at_call 39; refine hR.mono ?_; rintro e w2 ⟨p, rfl, H2⟩; clear hR
       have HD2 : Hid (DS w w2 p w2.heap.size (l.take (nn - 8)) 0) := ⟨on HZ1.out.1 H2.out.2.1, HZ1.out.2.keep (Turns.of_below (F := fun _ => False) H2.out.2.1) (fun h => h), H2.out.2.2, by have := H2.out.1; omega, H2.out.2.2.lt, Nat.le_refl _⟩
       have hN1 := fun (W : World) (h : Rdr W p w2.heap.size (l.take (nn - 8)) 0) => numR ((n : Int) - 1) h (by omega) (by omega)
       rw [hA] at hN1
       clear HZ1 H1 H2)
    | (
       go_at_call 40; refine (hN1 _ HD2.out.rd).mono ?_; rintro e w3 ⟨rfl, H3⟩; clear hN1
       have HD3 := hid (HD2.out.go H3.out.1 H3.out.2)
       have hN2 := numR 5 H3.out.2 (by omega) (by omega)
       rw [hK] at hN2
       clear H3)
    | (
       go_at_call 40; refine hN2.mono ?_; rintro e w4 ⟨rfl, H4⟩; clear hN2
       have HD4 := hid (HD3.out.go H4.out.1 H4.out.2)
       have hN3 := numR 2147483647 H4.out.2 (by omega) (by omega)
       rw [hU] at hN3
       clear H4)
    | (
       go_at_call 40; refine hN3.mono ?_; rintro e w5 ⟨rfl, H5⟩; clear hN3
       have HM5 := hid (DM.new (HD4.out.go H5.out.1 H5.out.2) 76 (.int .i64 (4 : Nat)) (.int .i64 (U.1 : Nat)) (.int .i64 0) (.int .i64 0) (.int .i64 0) (.int .i64 0) (.slice none 0 0) (.int .i64 0) (.slice none 0 0))
       have HD5 := hid (HD4.out.go H5.out.1 H5.out.2)
       have l5 : w.heap.size < w5.heap.size := by have h1 := HD5.out.wp; have h2 := HD5.out.pN; have h3 := HD5.out.Nw; omega
       have ne5 : w.heap.size ≠ w5.heap.size := by omega
       clear H5 HD2 HD3 HD4
       have hDn := doneR HM5.out.s.rd
       rw [ho] at hDn
       clear hA hK hU)
    | (
       go_at_call 45; refine hDn.mono ?_; rintro e wd ⟨rfl, hwd⟩; subst wd; clear hDn
       have zc0 : w5.cell? ⟨w.heap.size, 0, none⟩ = some (.int .i64 0) := HD5.out.z.c 0 (by omega)
       have g0 := HD5.out.z.f 0
       have zc1 : w5.cell? ⟨w.heap.size, 1, none⟩ = some (.int .i64 0) := HD5.out.z.c 1 (by omega)
       have g1 := HD5.out.z.f 1
       have zc2 : w5.cell? ⟨w.heap.size, 2, none⟩ = some (.int .i64 0) := HD5.out.z.c 2 (by omega)
       have g2 := HD5.out.z.f 2
       have zc3 : w5.cell? ⟨w.heap.size, 3, none⟩ = some (.int .i64 0) := HD5.out.z.c 3 (by omega)
       have g3 := HD5.out.z.f 3
       have zc4 : w5.cell? ⟨w.heap.size, 4, none⟩ = some (.int .i64 0) := HD5.out.z.c 4 (by omega)
       have g4 := HD5.out.z.f 4
       have zc5 : w5.cell? ⟨w.heap.size, 5, none⟩ = some (.int .i64 0) := HD5.out.z.c 5 (by omega)
       have g5 := HD5.out.z.f 5
       have zc6 : w5.cell? ⟨w.heap.size, 6, none⟩ = some (.slice none 0 0) := HD5.out.z.c 6 (by omega)
       have g6 := HD5.out.z.f 6
       have zc7 : w5.cell? ⟨w.heap.size, 7, none⟩ = some (.int .i64 0) := HD5.out.z.c 7 (by omega)
       have g7 := HD5.out.z.f 7
       have zc8 : w5.cell? ⟨w.heap.size, 8, none⟩ = some (.slice none 0 0) := HD5.out.z.c 8 (by omega)
       have g8 := HD5.out.z.f 8))
  refine bodyPost_ret (v := .tuple #[mv noMs none 0 none 0, .bool false]) ?_ rfl ⟨rfl, ?_⟩
  · rw [results_cell2 rfl]
    dsimp only [mv, noMs, noAc, z0, List.length_nil]
    go_simp
  · show Below _ _ _
    have BB := HD5.out.bel
    repeat (first | with_reducible exact BB | (with_reducible refine Below.setCell ?_ (by first | (simp; done) | (simp; omega) | omega) _) | (with_reducible refine Below.alloc ?_ (by first | (simp; done) | (simp; omega) | omega) _))

set_option maxHeartbeats 3200000 in
theorem dec_k4_from (x : Option Addr) (nn c : Nat) (l : List Nat) (n fr : Nat) (hn7 : n ≤ 7) (w : World) (hl : Fl.Sl w x nn c l) (hnn : nn ≤ 140737488351232) (hse : isSealed l = true)
    (A : Nat × List Nat × Nat) (hA : rNum ((n : Int) - 1) (l.take (nn - 8)) 0 = A) (K : Nat × List Nat × Nat) (hK : rNum 5 A.2.1 A.2.2 = K) (U : Nat × List Nat × Nat) (hU : rNum 2147483647 K.2.1 K.2.2 = U) (hUb : U.1 ≤ 2147483647) (hkk : K.1 = 4)
    (ho : rDone U.2.1 U.2.2 = 0) (hfr : (((A.1 : Nat) : Int) != (fr : Int)) = true) :
    Calls Try.prog 29 #[.slice x nn c, .int .i64 fr, .int .i64 n] w fun e w' => e = .returned (.tuple #[mv noMs none 0 none 0, .bool false]) ∧ Hid (Below w.heap.size w w') := by
  have hUn := fun (W : World) (h : Below w.heap.size w W) => unsealed_any x nn c l W (hl.below h) hnn
  rw [hse] at hUn
  have nI : (n : Int) ≤ 7 := by omega
  skip
  obtain ⟨K1, K2⟩ := K
  dsimp only at hkk hU
  subst hkk
  clear hl hse
  go_enter Try.func29, Try.ntmps29
  go_wp2_with (first
    | (
       go_at_call 38; refine (hUn _ (al _ _)).mono ?_; rintro e w1 ⟨y1, m1, c1, rfl, H1⟩; clear hUn
       have hR := readR y1 m1 c1 _ w1 (H1.out.2 rfl).2 (by have := (H1.out.2 rfl).1; omega)
       have HZ1 : Hid (Below w.heap.size w w1 ∧ Nine w1 w.heap.size zero9) := ⟨on (al _ _) H1.out.1, (Nine.new w _ _ _ _ _ _ _ _ _ _).keep (Turns.of_below (F := fun _ => False) H1.out.1) (fun h => h)⟩
       have lw1 : w.heap.size < w1.heap.size := by have := H1.out.1.size; simp at this; omega)
    | (
       go_at_call 39; refine hR.mono ?_; rintro e w2 ⟨p, rfl, H2⟩; clear hR
       have HD2 : Hid (DS w w2 p w2.heap.size (l.take (nn - 8)) 0) := ⟨on HZ1.out.1 H2.out.2.1, HZ1.out.2.keep (Turns.of_below (F := fun _ => False) H2.out.2.1) (fun h => h), H2.out.2.2, by have := H2.out.1; omega, H2.out.2.2.lt, Nat.le_refl _⟩
       have hN1 := fun (W : World) (h : Rdr W p w2.heap.size (l.take (nn - 8)) 0) => numR ((n : Int) - 1) h (by omega) (by omega)
       rw [hA] at hN1
       clear HZ1 H1 H2)
    | (
       go_at_call 40; refine (hN1 _ HD2.out.rd).mono ?_; rintro e w3 ⟨rfl, H3⟩; clear hN1
       have HD3 := hid (HD2.out.go H3.out.1 H3.out.2)
       have hN2 := numR 5 H3.out.2 (by omega) (by omega)
       rw [hK] at hN2
       clear H3)
    | (
       go_at_call 40; refine hN2.mono ?_; rintro e w4 ⟨rfl, H4⟩; clear hN2
       have HD4 := hid (HD3.out.go H4.out.1 H4.out.2)
       have hN3 := numR 2147483647 H4.out.2 (by omega) (by omega)
       rw [hU] at hN3
       clear H4)
    | (
       go_at_call 40; refine hN3.mono ?_; rintro e w5 ⟨rfl, H5⟩; clear hN3
       have HM5 := hid (DM.new (HD4.out.go H5.out.1 H5.out.2) 76 (.int .i64 (4 : Nat)) (.int .i64 (U.1 : Nat)) (.int .i64 0) (.int .i64 0) (.int .i64 0) (.int .i64 0) (.slice none 0 0) (.int .i64 0) (.slice none 0 0))
       have HD5 := hid (HD4.out.go H5.out.1 H5.out.2)
       have l5 : w.heap.size < w5.heap.size := by have h1 := HD5.out.wp; have h2 := HD5.out.pN; have h3 := HD5.out.Nw; omega
       have ne5 : w.heap.size ≠ w5.heap.size := by omega
       clear H5 HD2 HD3 HD4
       have hDn := doneR HM5.out.s.rd
       rw [ho] at hDn
       clear hA hK hU)
    | (
       go_at_call 45; refine hDn.mono ?_; rintro e wd ⟨rfl, hwd⟩; subst wd; clear hDn
       have zc0 : w5.cell? ⟨w.heap.size, 0, none⟩ = some (.int .i64 0) := HD5.out.z.c 0 (by omega)
       have g0 := HD5.out.z.f 0
       have zc1 : w5.cell? ⟨w.heap.size, 1, none⟩ = some (.int .i64 0) := HD5.out.z.c 1 (by omega)
       have g1 := HD5.out.z.f 1
       have zc2 : w5.cell? ⟨w.heap.size, 2, none⟩ = some (.int .i64 0) := HD5.out.z.c 2 (by omega)
       have g2 := HD5.out.z.f 2
       have zc3 : w5.cell? ⟨w.heap.size, 3, none⟩ = some (.int .i64 0) := HD5.out.z.c 3 (by omega)
       have g3 := HD5.out.z.f 3
       have zc4 : w5.cell? ⟨w.heap.size, 4, none⟩ = some (.int .i64 0) := HD5.out.z.c 4 (by omega)
       have g4 := HD5.out.z.f 4
       have zc5 : w5.cell? ⟨w.heap.size, 5, none⟩ = some (.int .i64 0) := HD5.out.z.c 5 (by omega)
       have g5 := HD5.out.z.f 5
       have zc6 : w5.cell? ⟨w.heap.size, 6, none⟩ = some (.slice none 0 0) := HD5.out.z.c 6 (by omega)
       have g6 := HD5.out.z.f 6
       have zc7 : w5.cell? ⟨w.heap.size, 7, none⟩ = some (.int .i64 0) := HD5.out.z.c 7 (by omega)
       have g7 := HD5.out.z.f 7
       have zc8 : w5.cell? ⟨w.heap.size, 8, none⟩ = some (.slice none 0 0) := HD5.out.z.c 8 (by omega)
       have g8 := HD5.out.z.f 8))
  refine bodyPost_ret (v := .tuple #[mv noMs none 0 none 0, .bool false]) ?_ rfl ⟨rfl, ?_⟩
  · rw [results_cell2 rfl]
    dsimp only [mv, noMs, noAc, z0, List.length_nil]
    go_simp
  · show Below _ _ _
    have BB := HD5.out.bel
    repeat (first | with_reducible exact BB | (with_reducible refine Below.setCell ?_ (by first | (simp; done) | (simp; omega) | omega) _) | (with_reducible refine Below.alloc ?_ (by first | (simp; done) | (simp; omega) | omega) _))

set_option maxHeartbeats 3200000 in
theorem dec_k4_may (x : Option Addr) (nn c : Nat) (l : List Nat) (n fr : Nat) (hn7 : n ≤ 7) (w : World) (hl : Fl.Sl w x nn c l) (hnn : nn ≤ 140737488351232) (hse : isSealed l = true)
    (A : Nat × List Nat × Nat) (hA : rNum ((n : Int) - 1) (l.take (nn - 8)) 0 = A) (K : Nat × List Nat × Nat) (hK : rNum 5 A.2.1 A.2.2 = K) (U : Nat × List Nat × Nat) (hU : rNum 2147483647 K.2.1 K.2.2 = U) (hUb : U.1 ≤ 2147483647) (hkk : K.1 = 4)
    (ho : rDone U.2.1 U.2.2 = 0) (hfr : A.1 = fr) (hm : mayM ⟨4, U.1, noAc, 0, []⟩ fr n = false) :
    Calls Try.prog 29 #[.slice x nn c, .int .i64 fr, .int .i64 n] w fun e w' => e = .returned (.tuple #[mv noMs none 0 none 0, .bool false]) ∧ Hid (Below w.heap.size w w') := by
  have hUn := fun (W : World) (h : Below w.heap.size w W) => unsealed_any x nn c l W (hl.below h) hnn
  rw [hse] at hUn
  have nI : (n : Int) ≤ 7 := by omega
  skip
  obtain ⟨K1, K2⟩ := K
  dsimp only at hkk hU
  subst hkk
  obtain ⟨A1, A2⟩ := A
  dsimp only at hfr hK
  subst hfr
  clear hl hse
  go_enter Try.func29, Try.ntmps29
  go_wp2_with (first
    | (
       go_at_call 38; refine (hUn _ (al _ _)).mono ?_; rintro e w1 ⟨y1, m1, c1, rfl, H1⟩; clear hUn
       have hR := readR y1 m1 c1 _ w1 (H1.out.2 rfl).2 (by have := (H1.out.2 rfl).1; omega)
       have HZ1 : Hid (Below w.heap.size w w1 ∧ Nine w1 w.heap.size zero9) := ⟨on (al _ _) H1.out.1, (Nine.new w _ _ _ _ _ _ _ _ _ _).keep (Turns.of_below (F := fun _ => False) H1.out.1) (fun h => h)⟩
       have lw1 : w.heap.size < w1.heap.size := by have := H1.out.1.size; simp at this; omega)
    | (
       go_at_call 39; refine hR.mono ?_; rintro e w2 ⟨p, rfl, H2⟩; clear hR
       have HD2 : Hid (DS w w2 p w2.heap.size (l.take (nn - 8)) 0) := ⟨on HZ1.out.1 H2.out.2.1, HZ1.out.2.keep (Turns.of_below (F := fun _ => False) H2.out.2.1) (fun h => h), H2.out.2.2, by have := H2.out.1; omega, H2.out.2.2.lt, Nat.le_refl _⟩
       have hN1 := fun (W : World) (h : Rdr W p w2.heap.size (l.take (nn - 8)) 0) => numR ((n : Int) - 1) h (by omega) (by omega)
       rw [hA] at hN1
       clear HZ1 H1 H2)
    | (
       go_at_call 40; refine (hN1 _ HD2.out.rd).mono ?_; rintro e w3 ⟨rfl, H3⟩; clear hN1
       have HD3 := hid (HD2.out.go H3.out.1 H3.out.2)
       have hN2 := numR 5 H3.out.2 (by omega) (by omega)
       rw [hK] at hN2
       clear H3)
    | (
       go_at_call 40; refine hN2.mono ?_; rintro e w4 ⟨rfl, H4⟩; clear hN2
       have HD4 := hid (HD3.out.go H4.out.1 H4.out.2)
       have hN3 := numR 2147483647 H4.out.2 (by omega) (by omega)
       rw [hU] at hN3
       clear H4)
    | (
       go_at_call 40; refine hN3.mono ?_; rintro e w5 ⟨rfl, H5⟩; clear hN3
       have HM5 := hid (DM.new (HD4.out.go H5.out.1 H5.out.2) 76 (.int .i64 (4 : Nat)) (.int .i64 (U.1 : Nat)) (.int .i64 0) (.int .i64 0) (.int .i64 0) (.int .i64 0) (.slice none 0 0) (.int .i64 0) (.slice none 0 0))
       have HD5 := hid (HD4.out.go H5.out.1 H5.out.2)
       have l5 : w.heap.size < w5.heap.size := by have h1 := HD5.out.wp; have h2 := HD5.out.pN; have h3 := HD5.out.Nw; omega
       have ne5 : w.heap.size ≠ w5.heap.size := by omega
       clear H5 HD2 HD3 HD4
       have hDn := doneR HM5.out.s.rd
       rw [ho] at hDn
       clear hA hK hU)
    | (
       go_at_call 45; refine hDn.mono ?_; rintro e wd ⟨rfl, hwd⟩; subst wd; clear hDn
       have hMM := mmay_any ⟨4, U.1, noAc, 0, []⟩ none none 0 0 A1 n hn7 (w5.alloc (.cells #[.int .i64 4, .int .i64 (U.1 : Nat), .int .i64 0, .int .i64 0, .int .i64 0, .int .i64 0, .slice none 0 0, .int .i64 0, .slice none 0 0] 76)) (Fl.Sl.empty _) (by show (0 : Nat) ≤ 5000; omega) (.inl rfl) (by show (0 : Nat) ≤ 1000; omega)
       rw [hm] at hMM
       dsimp only [mv, noAc, z0, List.length_nil] at hMM
       skip)
    | (
       go_at_call 46; refine hMM.mono ?_; rintro e w20 ⟨rfl, H20⟩; clear hMM
       have HM20 := hid (HM5.out.box H20.out)
       have zc0 : w20.cell? ⟨w.heap.size, 0, none⟩ = some (.int .i64 0) := HM20.out.s.z.c 0 (by omega)
       have g0 := HM20.out.s.z.f 0
       have zc1 : w20.cell? ⟨w.heap.size, 1, none⟩ = some (.int .i64 0) := HM20.out.s.z.c 1 (by omega)
       have g1 := HM20.out.s.z.f 1
       have zc2 : w20.cell? ⟨w.heap.size, 2, none⟩ = some (.int .i64 0) := HM20.out.s.z.c 2 (by omega)
       have g2 := HM20.out.s.z.f 2
       have zc3 : w20.cell? ⟨w.heap.size, 3, none⟩ = some (.int .i64 0) := HM20.out.s.z.c 3 (by omega)
       have g3 := HM20.out.s.z.f 3
       have zc4 : w20.cell? ⟨w.heap.size, 4, none⟩ = some (.int .i64 0) := HM20.out.s.z.c 4 (by omega)
       have g4 := HM20.out.s.z.f 4
       have zc5 : w20.cell? ⟨w.heap.size, 5, none⟩ = some (.int .i64 0) := HM20.out.s.z.c 5 (by omega)
       have g5 := HM20.out.s.z.f 5
       have zc6 : w20.cell? ⟨w.heap.size, 6, none⟩ = some (.slice none 0 0) := HM20.out.s.z.c 6 (by omega)
       have g6 := HM20.out.s.z.f 6
       have zc7 : w20.cell? ⟨w.heap.size, 7, none⟩ = some (.int .i64 0) := HM20.out.s.z.c 7 (by omega)
       have g7 := HM20.out.s.z.f 7
       have zc8 : w20.cell? ⟨w.heap.size, 8, none⟩ = some (.slice none 0 0) := HM20.out.s.z.c 8 (by omega)
       have g8 := HM20.out.s.z.f 8))
  refine bodyPost_ret (v := .tuple #[mv noMs none 0 none 0, .bool false]) ?_ rfl ⟨rfl, ?_⟩
  · rw [results_cell2 rfl]
    dsimp only [mv, noMs, noAc, z0, List.length_nil]
    go_simp
  · show Below _ _ _
    have BB := HM20.out.s.bel
    repeat (first | with_reducible exact BB | (with_reducible refine Below.setCell ?_ (by first | (simp; done) | (simp; omega) | omega) _) | (with_reducible refine Below.alloc ?_ (by first | (simp; done) | (simp; omega) | omega) _))

set_option maxHeartbeats 3200000 in
theorem dec_k4_yes (x : Option Addr) (nn c : Nat) (l : List Nat) (n fr : Nat) (hn7 : n ≤ 7) (w : World) (hl : Fl.Sl w x nn c l) (hnn : nn ≤ 140737488351232) (hse : isSealed l = true)
    (A : Nat × List Nat × Nat) (hA : rNum ((n : Int) - 1) (l.take (nn - 8)) 0 = A) (K : Nat × List Nat × Nat) (hK : rNum 5 A.2.1 A.2.2 = K) (U : Nat × List Nat × Nat) (hU : rNum 2147483647 K.2.1 K.2.2 = U) (hUb : U.1 ≤ 2147483647) (hkk : K.1 = 4)
    (ho : rDone U.2.1 U.2.2 = 0) (hfr : A.1 = fr) (hm : mayM ⟨4, U.1, noAc, 0, []⟩ fr n = true) :
    Calls Try.prog 29 #[.slice x nn c, .int .i64 fr, .int .i64 n] w fun e w' => ∃ x c y cy, e = .returned (.tuple #[mv ⟨4, U.1, noAc, 0, []⟩ x c y cy, .bool true]) ∧ Hid (Below w.heap.size w w' ∧ MGot w w' ⟨4, U.1, noAc, 0, []⟩ x c y cy) := by
  have hUn := fun (W : World) (h : Below w.heap.size w W) => unsealed_any x nn c l W (hl.below h) hnn
  rw [hse] at hUn
  have nI : (n : Int) ≤ 7 := by omega
  skip
  obtain ⟨K1, K2⟩ := K
  dsimp only at hkk hU
  subst hkk
  obtain ⟨A1, A2⟩ := A
  dsimp only at hfr hK
  subst hfr
  clear hl hse
  go_enter Try.func29, Try.ntmps29
  go_wp2_with (first
    | (
       go_at_call 38; refine (hUn _ (al _ _)).mono ?_; rintro e w1 ⟨y1, m1, c1, rfl, H1⟩; clear hUn
       have hR := readR y1 m1 c1 _ w1 (H1.out.2 rfl).2 (by have := (H1.out.2 rfl).1; omega)
       have HZ1 : Hid (Below w.heap.size w w1 ∧ Nine w1 w.heap.size zero9) := ⟨on (al _ _) H1.out.1, (Nine.new w _ _ _ _ _ _ _ _ _ _).keep (Turns.of_below (F := fun _ => False) H1.out.1) (fun h => h)⟩
       have lw1 : w.heap.size < w1.heap.size := by have := H1.out.1.size; simp at this; omega)
    | (
       go_at_call 39; refine hR.mono ?_; rintro e w2 ⟨p, rfl, H2⟩; clear hR
       have HD2 : Hid (DS w w2 p w2.heap.size (l.take (nn - 8)) 0) := ⟨on HZ1.out.1 H2.out.2.1, HZ1.out.2.keep (Turns.of_below (F := fun _ => False) H2.out.2.1) (fun h => h), H2.out.2.2, by have := H2.out.1; omega, H2.out.2.2.lt, Nat.le_refl _⟩
       have hN1 := fun (W : World) (h : Rdr W p w2.heap.size (l.take (nn - 8)) 0) => numR ((n : Int) - 1) h (by omega) (by omega)
       rw [hA] at hN1
       clear HZ1 H1 H2)
    | (
       go_at_call 40; refine (hN1 _ HD2.out.rd).mono ?_; rintro e w3 ⟨rfl, H3⟩; clear hN1
       have HD3 := hid (HD2.out.go H3.out.1 H3.out.2)
       have hN2 := numR 5 H3.out.2 (by omega) (by omega)
       rw [hK] at hN2
       clear H3)
    | (
       go_at_call 40; refine hN2.mono ?_; rintro e w4 ⟨rfl, H4⟩; clear hN2
       have HD4 := hid (HD3.out.go H4.out.1 H4.out.2)
       have hN3 := numR 2147483647 H4.out.2 (by omega) (by omega)
       rw [hU] at hN3
       clear H4)
    | (
       go_at_call 40; refine hN3.mono ?_; rintro e w5 ⟨rfl, H5⟩; clear hN3
       have HM5 := hid (DM.new (HD4.out.go H5.out.1 H5.out.2) 76 (.int .i64 (4 : Nat)) (.int .i64 (U.1 : Nat)) (.int .i64 0) (.int .i64 0) (.int .i64 0) (.int .i64 0) (.slice none 0 0) (.int .i64 0) (.slice none 0 0))
       have HD5 := hid (HD4.out.go H5.out.1 H5.out.2)
       have l5 : w.heap.size < w5.heap.size := by have h1 := HD5.out.wp; have h2 := HD5.out.pN; have h3 := HD5.out.Nw; omega
       have ne5 : w.heap.size ≠ w5.heap.size := by omega
       clear H5 HD2 HD3 HD4
       have hDn := doneR HM5.out.s.rd
       rw [ho] at hDn
       clear hA hK hU)
    | (
       go_at_call 45; refine hDn.mono ?_; rintro e wd ⟨rfl, hwd⟩; subst wd; clear hDn
       have hMM := mmay_any ⟨4, U.1, noAc, 0, []⟩ none none 0 0 A1 n hn7 (w5.alloc (.cells #[.int .i64 4, .int .i64 (U.1 : Nat), .int .i64 0, .int .i64 0, .int .i64 0, .int .i64 0, .slice none 0 0, .int .i64 0, .slice none 0 0] 76)) (Fl.Sl.empty _) (by show (0 : Nat) ≤ 5000; omega) (.inl rfl) (by show (0 : Nat) ≤ 1000; omega)
       rw [hm] at hMM
       dsimp only [mv, noAc, z0, List.length_nil] at hMM
       skip)
    | (
       go_at_call 46; refine hMM.mono ?_; rintro e w20 ⟨rfl, H20⟩; clear hMM
       have HM20 := hid (HM5.out.box H20.out)
       have zc0 : w20.cell? ⟨w.heap.size, 0, none⟩ = some (.int .i64 0) := HM20.out.s.z.c 0 (by omega)
       have g0 := HM20.out.s.z.f 0
       have zc1 : w20.cell? ⟨w.heap.size, 1, none⟩ = some (.int .i64 0) := HM20.out.s.z.c 1 (by omega)
       have g1 := HM20.out.s.z.f 1
       have zc2 : w20.cell? ⟨w.heap.size, 2, none⟩ = some (.int .i64 0) := HM20.out.s.z.c 2 (by omega)
       have g2 := HM20.out.s.z.f 2
       have zc3 : w20.cell? ⟨w.heap.size, 3, none⟩ = some (.int .i64 0) := HM20.out.s.z.c 3 (by omega)
       have g3 := HM20.out.s.z.f 3
       have zc4 : w20.cell? ⟨w.heap.size, 4, none⟩ = some (.int .i64 0) := HM20.out.s.z.c 4 (by omega)
       have g4 := HM20.out.s.z.f 4
       have zc5 : w20.cell? ⟨w.heap.size, 5, none⟩ = some (.int .i64 0) := HM20.out.s.z.c 5 (by omega)
       have g5 := HM20.out.s.z.f 5
       have zc6 : w20.cell? ⟨w.heap.size, 6, none⟩ = some (.slice none 0 0) := HM20.out.s.z.c 6 (by omega)
       have g6 := HM20.out.s.z.f 6
       have zc7 : w20.cell? ⟨w.heap.size, 7, none⟩ = some (.int .i64 0) := HM20.out.s.z.c 7 (by omega)
       have g7 := HM20.out.s.z.f 7
       have zc8 : w20.cell? ⟨w.heap.size, 8, none⟩ = some (.slice none 0 0) := HM20.out.s.z.c 8 (by omega)
       have g8 := HM20.out.s.z.f 8
       have s0 : w20.cell? ⟨w5.heap.size, 0, none⟩ = some (.int .i64 4) := HM20.out.m.c 0 (by omega)
       have s1 : w20.cell? ⟨w5.heap.size, 1, none⟩ = some (.int .i64 (U.1 : Nat)) := HM20.out.m.c 1 (by omega)
       have s2 : w20.cell? ⟨w5.heap.size, 2, none⟩ = some (.int .i64 0) := HM20.out.m.c 2 (by omega)
       have s3 : w20.cell? ⟨w5.heap.size, 3, none⟩ = some (.int .i64 0) := HM20.out.m.c 3 (by omega)
       have s4 : w20.cell? ⟨w5.heap.size, 4, none⟩ = some (.int .i64 0) := HM20.out.m.c 4 (by omega)
       have s5 : w20.cell? ⟨w5.heap.size, 5, none⟩ = some (.int .i64 0) := HM20.out.m.c 5 (by omega)
       have s6 : w20.cell? ⟨w5.heap.size, 6, none⟩ = some (.slice none 0 0) := HM20.out.m.c 6 (by omega)
       have s7 : w20.cell? ⟨w5.heap.size, 7, none⟩ = some (.int .i64 0) := HM20.out.m.c 7 (by omega)
       have s8 : w20.cell? ⟨w5.heap.size, 8, none⟩ = some (.slice none 0 0) := HM20.out.m.c 8 (by omega)))
  refine bodyPost_ret (v := .tuple #[mv ⟨4, U.1, noAc, 0, []⟩ none 0 none 0, .bool true]) ?_ rfl ⟨none, 0, none, 0, rfl, ?_⟩
  · rw [results_cell2 rfl]
    dsimp only [mv, noAc, z0, List.length_nil]
    skip
    go_simp
  · suffices key : ∀ wF, Turns (atB w.heap.size) w20 wF → Below w.heap.size w wF ∧ MGot w wF ⟨4, U.1, noAc, 0, []⟩ none 0 none 0 from key _ (turns_put (turns_put (turns_put (turns_put (turns_put (turns_put (turns_put (turns_put (turns_put (Turns.refl _ w20) 0 _) 1 _) 2 _) 3 _) 4 _) 5 _) 6 _) 7 _) 8 _)
    intro wF t9
    refine ⟨HM20.out.s.bel.trans (t9.below (fun k hk => by have e : k = w.heap.size := hk; omega) HM20.out.s.bel.size), ?_⟩
    have tb := (Turns.of_below (F := atB w.heap.size) H20.out).trans t9
    exact ⟨Fl.Sl.empty _, (fun a ha => by cases ha), Own.nil _ _ _ _ _⟩

set_option maxHeartbeats 3200000 in
theorem dec_k5_done (x : Option Addr) (nn c : Nat) (l : List Nat) (n fr : Nat) (hn7 : n ≤ 7) (w : World) (hl : Fl.Sl w x nn c l) (hnn : nn ≤ 140737488351232) (hse : isSealed l = true)
    (A : Nat × List Nat × Nat) (hA : rNum ((n : Int) - 1) (l.take (nn - 8)) 0 = A) (K : Nat × List Nat × Nat) (hK : rNum 5 A.2.1 A.2.2 = K) (U : Nat × List Nat × Nat) (hU : rNum 2147483647 K.2.1 K.2.2 = U) (hUb : U.1 ≤ 2147483647) (T : Nat × List Nat × Nat) (hT : rNum 2147483647 U.2.1 U.2.2 = T) (hTb : T.1 ≤ 2147483647) (Q : List Dc × List Nat × Nat) (hQ : rDcs n (told U.1 T.1).toNat T.2.1 T.2.2 = Q) (hQl : Q.1.length ≤ 64) (hkk : K.1 = 5)
    (o : Nat) (ho : rDone Q.2.1 Q.2.2 = o) (hone : ((o : Int) != 0) = true) :
    Calls Try.prog 29 #[.slice x nn c, .int .i64 fr, .int .i64 n] w fun e w' => e = .returned (.tuple #[mv noMs none 0 none 0, .bool false]) ∧ Hid (Below w.heap.size w w') := by
  have hUn := fun (W : World) (h : Below w.heap.size w W) => unsealed_any x nn c l W (hl.below h) hnn
  rw [hse] at hUn
  have nI : (n : Int) ≤ 7 := by omega
  skip
  obtain ⟨K1, K2⟩ := K
  dsimp only at hkk hU
  subst hkk
  clear hl hse
  go_enter Try.func29, Try.ntmps29
  go_wp2_with (first
    | (
       go_at_call 38; refine (hUn _ (al _ _)).mono ?_; rintro e w1 ⟨y1, m1, c1, rfl, H1⟩; clear hUn
       have hR := readR y1 m1 c1 _ w1 (H1.out.2 rfl).2 (by have := (H1.out.2 rfl).1; omega)
       have HZ1 : Hid (Below w.heap.size w w1 ∧ Nine w1 w.heap.size zero9) := ⟨on (al _ _) H1.out.1, (Nine.new w _ _ _ _ _ _ _ _ _ _).keep (Turns.of_below (F := fun _ => False) H1.out.1) (fun h => h)⟩
       have lw1 : w.heap.size < w1.heap.size := by have := H1.out.1.size; simp at this; omega)
    | (
       go_at_call 39; refine hR.mono ?_; rintro e w2 ⟨p, rfl, H2⟩; clear hR
       have HD2 : Hid (DS w w2 p w2.heap.size (l.take (nn - 8)) 0) := ⟨on HZ1.out.1 H2.out.2.1, HZ1.out.2.keep (Turns.of_below (F := fun _ => False) H2.out.2.1) (fun h => h), H2.out.2.2, by have := H2.out.1; omega, H2.out.2.2.lt, Nat.le_refl _⟩
       have hN1 := fun (W : World) (h : Rdr W p w2.heap.size (l.take (nn - 8)) 0) => numR ((n : Int) - 1) h (by omega) (by omega)
       rw [hA] at hN1
       clear HZ1 H1 H2)
    | (
       go_at_call 40; refine (hN1 _ HD2.out.rd).mono ?_; rintro e w3 ⟨rfl, H3⟩; clear hN1
       have HD3 := hid (HD2.out.go H3.out.1 H3.out.2)
       have hN2 := numR 5 H3.out.2 (by omega) (by omega)
       rw [hK] at hN2
       clear H3)
    | (
       go_at_call 40; refine hN2.mono ?_; rintro e w4 ⟨rfl, H4⟩; clear hN2
       have HD4 := hid (HD3.out.go H4.out.1 H4.out.2)
       have hN3 := numR 2147483647 H4.out.2 (by omega) (by omega)
       rw [hU] at hN3
       clear H4)
    | (
       go_at_call 40; refine hN3.mono ?_; rintro e w5 ⟨rfl, H5⟩; clear hN3
       have HM5 := hid (DM.new (HD4.out.go H5.out.1 H5.out.2) 76 (.int .i64 (5 : Nat)) (.int .i64 (U.1 : Nat)) (.int .i64 0) (.int .i64 0) (.int .i64 0) (.int .i64 0) (.slice none 0 0) (.int .i64 0) (.slice none 0 0))
       have HD5 := hid (HD4.out.go H5.out.1 H5.out.2)
       have l5 : w.heap.size < w5.heap.size := by have h1 := HD5.out.wp; have h2 := HD5.out.pN; have h3 := HD5.out.Nw; omega
       have ne5 : w.heap.size ≠ w5.heap.size := by omega
       clear H5 HD2 HD3 HD4
       have hN4 := numR 2147483647 HM5.out.s.rd (by omega) (by omega)
       rw [hT] at hN4)
    | (
       go_at_call 40; refine hN4.mono ?_; rintro e w6 ⟨rfl, H6⟩; clear hN4
       have HM6 := hid (HM5.out.go H6.out.1 H6.out.2)
       have q1 : w6.cell? ⟨w5.heap.size, 1, none⟩ = some (.int .i64 (U.1 : Nat)) := HM6.out.m.c 1 (by omega)
       have q7 : w6.cell? ⟨w5.heap.size, 7, none⟩ = some (.int .i64 0) := HM6.out.m.c 7 (by omega)
       have f7 := HM6.out.m.f 7
       have HM6s := hid (HM6.out.set 7 (.int .i64 (T.1 : Nat)))
       have hTo := fun W => told_any U.1 T.1 W hUb hTb
       clear H6 HM5 HM6)
    | (
       go_at_call 42; refine (hTo _).mono ?_; rintro e w7 ⟨rfl, hw7⟩; subst w7; clear hTo
       have hRD := rdcs_any n hn7 (told U.1 T.1) (by unfold told; omega) (by unfold told; omega) HM6s.out.s.rd HM6s.out.s.Nw
       rw [hQ] at hRD)
    | (
       go_at_call 41; refine hRD.mono ?_; rintro e w8 ⟨y8, m8, c8, rfl, H8⟩; clear hRD
       have HM8 := hid (HM6s.out.go H8.out.2.1 H8.out.2.2)
       have q0 : w8.cell? ⟨w5.heap.size, 0, none⟩ = some (.int .i64 5) := HM8.out.m.c 0 (by omega)
       have q1 : w8.cell? ⟨w5.heap.size, 1, none⟩ = some (.int .i64 (U.1 : Nat)) := HM8.out.m.c 1 (by omega)
       have q2 : w8.cell? ⟨w5.heap.size, 2, none⟩ = some (.int .i64 0) := HM8.out.m.c 2 (by omega)
       have q3 : w8.cell? ⟨w5.heap.size, 3, none⟩ = some (.int .i64 0) := HM8.out.m.c 3 (by omega)
       have q4 : w8.cell? ⟨w5.heap.size, 4, none⟩ = some (.int .i64 0) := HM8.out.m.c 4 (by omega)
       have q5 : w8.cell? ⟨w5.heap.size, 5, none⟩ = some (.int .i64 0) := HM8.out.m.c 5 (by omega)
       have q6 : w8.cell? ⟨w5.heap.size, 6, none⟩ = some (.slice none 0 0) := HM8.out.m.c 6 (by omega)
       have q7 : w8.cell? ⟨w5.heap.size, 7, none⟩ = some (.int .i64 (T.1 : Nat)) := HM8.out.m.c 7 (by omega)
       have q8 : w8.cell? ⟨w5.heap.size, 8, none⟩ = some (.slice none 0 0) := HM8.out.m.c 8 (by omega)
       have f8 := HM8.out.m.f 8
       have HM9 := hid (HM8.out.set 8 (.slice y8 m8 c8))
       have HO9 : Hid (OwnD (w8.setCell ⟨w5.heap.size, 8, none⟩ (.slice y8 m8 c8)) (w.heap.size + 1) (.slice y8 m8 c8) Q.1 ∧ m8 = Q.1.length) := by
         refine ⟨?_, (own_dcs H8.out.1).1.symm⟩
         have hb1 : w.heap.size + 1 ≤ (w6.setCell ⟨w5.heap.size, 7, none⟩ (.int .i64 (T.1 : Nat))).heap.size := by have h1 := HM6s.out.s.wp; have h2 := HM6s.out.s.pN; have h3 := HM6s.out.s.Nw; omega
         have ho1 : OwnD w8 (w.heap.size + 1) (.slice y8 m8 c8) Q.1 := by
           refine ⟨H8.out.1.1, ?_⟩
           rcases H8.out.1.2 with h0 | ⟨g, cc, cur, h1, h2, h3⟩
           · exact .inl h0
           · exact .inr ⟨g, cc, cur, h1, Nat.le_trans hb1 h2, h3⟩
         refine ho1.turns (turns_put (Turns.refl (atB w5.heap.size) w8) 8 (.slice y8 m8 c8)) (fun g hg e => ?_)
         have e2 : g = w5.heap.size := e
         subst e2
         have h1 := (H8.out.1.tb hg).1
         have h2 := HM6s.out.lt
         omega
       have hDn := doneR HM9.out.s.rd
       rw [ho] at hDn
       clear H8 HM6s hA hK hU hT hQ)
    | (
       go_at_call 45; refine hDn.mono ?_; rintro e wd ⟨rfl, hwd⟩; subst wd; clear hDn
       have zc0 : w8.cell? ⟨w.heap.size, 0, none⟩ = some (.int .i64 0) := HM8.out.s.z.c 0 (by omega)
       have g0 := HM8.out.s.z.f 0
       have zc1 : w8.cell? ⟨w.heap.size, 1, none⟩ = some (.int .i64 0) := HM8.out.s.z.c 1 (by omega)
       have g1 := HM8.out.s.z.f 1
       have zc2 : w8.cell? ⟨w.heap.size, 2, none⟩ = some (.int .i64 0) := HM8.out.s.z.c 2 (by omega)
       have g2 := HM8.out.s.z.f 2
       have zc3 : w8.cell? ⟨w.heap.size, 3, none⟩ = some (.int .i64 0) := HM8.out.s.z.c 3 (by omega)
       have g3 := HM8.out.s.z.f 3
       have zc4 : w8.cell? ⟨w.heap.size, 4, none⟩ = some (.int .i64 0) := HM8.out.s.z.c 4 (by omega)
       have g4 := HM8.out.s.z.f 4
       have zc5 : w8.cell? ⟨w.heap.size, 5, none⟩ = some (.int .i64 0) := HM8.out.s.z.c 5 (by omega)
       have g5 := HM8.out.s.z.f 5
       have zc6 : w8.cell? ⟨w.heap.size, 6, none⟩ = some (.slice none 0 0) := HM8.out.s.z.c 6 (by omega)
       have g6 := HM8.out.s.z.f 6
       have zc7 : w8.cell? ⟨w.heap.size, 7, none⟩ = some (.int .i64 0) := HM8.out.s.z.c 7 (by omega)
       have g7 := HM8.out.s.z.f 7
       have zc8 : w8.cell? ⟨w.heap.size, 8, none⟩ = some (.slice none 0 0) := HM8.out.s.z.c 8 (by omega)
       have g8 := HM8.out.s.z.f 8))
  refine bodyPost_ret (v := .tuple #[mv noMs none 0 none 0, .bool false]) ?_ rfl ⟨rfl, ?_⟩
  · rw [results_cell2 rfl]
    dsimp only [mv, noMs, noAc, z0, List.length_nil]
    go_simp
  · show Below _ _ _
    have BB := HM8.out.s.bel
    repeat (first | with_reducible exact BB | (with_reducible refine Below.setCell ?_ (by first | (simp; done) | (simp; omega) | omega) _) | (with_reducible refine Below.alloc ?_ (by first | (simp; done) | (simp; omega) | omega) _))

set_option maxHeartbeats 3200000 in
theorem dec_k5_from (x : Option Addr) (nn c : Nat) (l : List Nat) (n fr : Nat) (hn7 : n ≤ 7) (w : World) (hl : Fl.Sl w x nn c l) (hnn : nn ≤ 140737488351232) (hse : isSealed l = true)
    (A : Nat × List Nat × Nat) (hA : rNum ((n : Int) - 1) (l.take (nn - 8)) 0 = A) (K : Nat × List Nat × Nat) (hK : rNum 5 A.2.1 A.2.2 = K) (U : Nat × List Nat × Nat) (hU : rNum 2147483647 K.2.1 K.2.2 = U) (hUb : U.1 ≤ 2147483647) (T : Nat × List Nat × Nat) (hT : rNum 2147483647 U.2.1 U.2.2 = T) (hTb : T.1 ≤ 2147483647) (Q : List Dc × List Nat × Nat) (hQ : rDcs n (told U.1 T.1).toNat T.2.1 T.2.2 = Q) (hQl : Q.1.length ≤ 64) (hkk : K.1 = 5)
    (ho : rDone Q.2.1 Q.2.2 = 0) (hfr : (((A.1 : Nat) : Int) != (fr : Int)) = true) :
    Calls Try.prog 29 #[.slice x nn c, .int .i64 fr, .int .i64 n] w fun e w' => e = .returned (.tuple #[mv noMs none 0 none 0, .bool false]) ∧ Hid (Below w.heap.size w w') := by
  have hUn := fun (W : World) (h : Below w.heap.size w W) => unsealed_any x nn c l W (hl.below h) hnn
  rw [hse] at hUn
  have nI : (n : Int) ≤ 7 := by omega
  skip
  obtain ⟨K1, K2⟩ := K
  dsimp only at hkk hU
  subst hkk
  clear hl hse
  go_enter Try.func29, Try.ntmps29
  go_wp2_with (first
    | (
       go_at_call 38; refine (hUn _ (al _ _)).mono ?_; rintro e w1 ⟨y1, m1, c1, rfl, H1⟩; clear hUn
       have hR := readR y1 m1 c1 _ w1 (H1.out.2 rfl).2 (by have := (H1.out.2 rfl).1; omega)
       have HZ1 : Hid (Below w.heap.size w w1 ∧ Nine w1 w.heap.size zero9) := ⟨on (al _ _) H1.out.1, (Nine.new w _ _ _ _ _ _ _ _ _ _).keep (Turns.of_below (F := fun _ => False) H1.out.1) (fun h => h)⟩
       have lw1 : w.heap.size < w1.heap.size := by have := H1.out.1.size; simp at this; omega)
    | (
       go_at_call 39; refine hR.mono ?_; rintro e w2 ⟨p, rfl, H2⟩; clear hR
       have HD2 : Hid (DS w w2 p w2.heap.size (l.take (nn - 8)) 0) := ⟨on HZ1.out.1 H2.out.2.1, HZ1.out.2.keep (Turns.of_below (F := fun _ => False) H2.out.2.1) (fun h => h), H2.out.2.2, by have := H2.out.1; omega, H2.out.2.2.lt, Nat.le_refl _⟩
       have hN1 := fun (W : World) (h : Rdr W p w2.heap.size (l.take (nn - 8)) 0) => numR ((n : Int) - 1) h (by omega) (by omega)
       rw [hA] at hN1
       clear HZ1 H1 H2)
    | (
       go_at_call 40; refine (hN1 _ HD2.out.rd).mono ?_; rintro e w3 ⟨rfl, H3⟩; clear hN1
       have HD3 := hid (HD2.out.go H3.out.1 H3.out.2)
       have hN2 := numR 5 H3.out.2 (by omega) (by omega)
       rw [hK] at hN2
       clear H3)
    | (
       go_at_call 40; refine hN2.mono ?_; rintro e w4 ⟨rfl, H4⟩; clear hN2
       have HD4 := hid (HD3.out.go H4.out.1 H4.out.2)
       have hN3 := numR 2147483647 H4.out.2 (by omega) (by omega)
       rw [hU] at hN3
       clear H4)
    | (
       go_at_call 40; refine hN3.mono ?_; rintro e w5 ⟨rfl, H5⟩; clear hN3
       have HM5 := hid (DM.new (HD4.out.go H5.out.1 H5.out.2) 76 (.int .i64 (5 : Nat)) (.int .i64 (U.1 : Nat)) (.int .i64 0) (.int .i64 0) (.int .i64 0) (.int .i64 0) (.slice none 0 0) (.int .i64 0) (.slice none 0 0))
       have HD5 := hid (HD4.out.go H5.out.1 H5.out.2)
       have l5 : w.heap.size < w5.heap.size := by have h1 := HD5.out.wp; have h2 := HD5.out.pN; have h3 := HD5.out.Nw; omega
       have ne5 : w.heap.size ≠ w5.heap.size := by omega
       clear H5 HD2 HD3 HD4
       have hN4 := numR 2147483647 HM5.out.s.rd (by omega) (by omega)
       rw [hT] at hN4)
    | (
       go_at_call 40; refine hN4.mono ?_; rintro e w6 ⟨rfl, H6⟩; clear hN4
       have HM6 := hid (HM5.out.go H6.out.1 H6.out.2)
       have q1 : w6.cell? ⟨w5.heap.size, 1, none⟩ = some (.int .i64 (U.1 : Nat)) := HM6.out.m.c 1 (by omega)
       have q7 : w6.cell? ⟨w5.heap.size, 7, none⟩ = some (.int .i64 0) := HM6.out.m.c 7 (by omega)
       have f7 := HM6.out.m.f 7
       have HM6s := hid (HM6.out.set 7 (.int .i64 (T.1 : Nat)))
       have hTo := fun W => told_any U.1 T.1 W hUb hTb
       clear H6 HM5 HM6)
    | (
       go_at_call 42; refine (hTo _).mono ?_; rintro e w7 ⟨rfl, hw7⟩; subst w7; clear hTo
       have hRD := rdcs_any n hn7 (told U.1 T.1) (by unfold told; omega) (by unfold told; omega) HM6s.out.s.rd HM6s.out.s.Nw
       rw [hQ] at hRD)
    | (
       go_at_call 41; refine hRD.mono ?_; rintro e w8 ⟨y8, m8, c8, rfl, H8⟩; clear hRD
       have HM8 := hid (HM6s.out.go H8.out.2.1 H8.out.2.2)
       have q0 : w8.cell? ⟨w5.heap.size, 0, none⟩ = some (.int .i64 5) := HM8.out.m.c 0 (by omega)
       have q1 : w8.cell? ⟨w5.heap.size, 1, none⟩ = some (.int .i64 (U.1 : Nat)) := HM8.out.m.c 1 (by omega)
       have q2 : w8.cell? ⟨w5.heap.size, 2, none⟩ = some (.int .i64 0) := HM8.out.m.c 2 (by omega)
       have q3 : w8.cell? ⟨w5.heap.size, 3, none⟩ = some (.int .i64 0) := HM8.out.m.c 3 (by omega)
       have q4 : w8.cell? ⟨w5.heap.size, 4, none⟩ = some (.int .i64 0) := HM8.out.m.c 4 (by omega)
       have q5 : w8.cell? ⟨w5.heap.size, 5, none⟩ = some (.int .i64 0) := HM8.out.m.c 5 (by omega)
       have q6 : w8.cell? ⟨w5.heap.size, 6, none⟩ = some (.slice none 0 0) := HM8.out.m.c 6 (by omega)
       have q7 : w8.cell? ⟨w5.heap.size, 7, none⟩ = some (.int .i64 (T.1 : Nat)) := HM8.out.m.c 7 (by omega)
       have q8 : w8.cell? ⟨w5.heap.size, 8, none⟩ = some (.slice none 0 0) := HM8.out.m.c 8 (by omega)
       have f8 := HM8.out.m.f 8
       have HM9 := hid (HM8.out.set 8 (.slice y8 m8 c8))
       have HO9 : Hid (OwnD (w8.setCell ⟨w5.heap.size, 8, none⟩ (.slice y8 m8 c8)) (w.heap.size + 1) (.slice y8 m8 c8) Q.1 ∧ m8 = Q.1.length) := by
         refine ⟨?_, (own_dcs H8.out.1).1.symm⟩
         have hb1 : w.heap.size + 1 ≤ (w6.setCell ⟨w5.heap.size, 7, none⟩ (.int .i64 (T.1 : Nat))).heap.size := by have h1 := HM6s.out.s.wp; have h2 := HM6s.out.s.pN; have h3 := HM6s.out.s.Nw; omega
         have ho1 : OwnD w8 (w.heap.size + 1) (.slice y8 m8 c8) Q.1 := by
           refine ⟨H8.out.1.1, ?_⟩
           rcases H8.out.1.2 with h0 | ⟨g, cc, cur, h1, h2, h3⟩
           · exact .inl h0
           · exact .inr ⟨g, cc, cur, h1, Nat.le_trans hb1 h2, h3⟩
         refine ho1.turns (turns_put (Turns.refl (atB w5.heap.size) w8) 8 (.slice y8 m8 c8)) (fun g hg e => ?_)
         have e2 : g = w5.heap.size := e
         subst e2
         have h1 := (H8.out.1.tb hg).1
         have h2 := HM6s.out.lt
         omega
       have hDn := doneR HM9.out.s.rd
       rw [ho] at hDn
       clear H8 HM6s hA hK hU hT hQ)
    | (
       go_at_call 45; refine hDn.mono ?_; rintro e wd ⟨rfl, hwd⟩; subst wd; clear hDn
       have zc0 : w8.cell? ⟨w.heap.size, 0, none⟩ = some (.int .i64 0) := HM8.out.s.z.c 0 (by omega)
       have g0 := HM8.out.s.z.f 0
       have zc1 : w8.cell? ⟨w.heap.size, 1, none⟩ = some (.int .i64 0) := HM8.out.s.z.c 1 (by omega)
       have g1 := HM8.out.s.z.f 1
       have zc2 : w8.cell? ⟨w.heap.size, 2, none⟩ = some (.int .i64 0) := HM8.out.s.z.c 2 (by omega)
       have g2 := HM8.out.s.z.f 2
       have zc3 : w8.cell? ⟨w.heap.size, 3, none⟩ = some (.int .i64 0) := HM8.out.s.z.c 3 (by omega)
       have g3 := HM8.out.s.z.f 3
       have zc4 : w8.cell? ⟨w.heap.size, 4, none⟩ = some (.int .i64 0) := HM8.out.s.z.c 4 (by omega)
       have g4 := HM8.out.s.z.f 4
       have zc5 : w8.cell? ⟨w.heap.size, 5, none⟩ = some (.int .i64 0) := HM8.out.s.z.c 5 (by omega)
       have g5 := HM8.out.s.z.f 5
       have zc6 : w8.cell? ⟨w.heap.size, 6, none⟩ = some (.slice none 0 0) := HM8.out.s.z.c 6 (by omega)
       have g6 := HM8.out.s.z.f 6
       have zc7 : w8.cell? ⟨w.heap.size, 7, none⟩ = some (.int .i64 0) := HM8.out.s.z.c 7 (by omega)
       have g7 := HM8.out.s.z.f 7
       have zc8 : w8.cell? ⟨w.heap.size, 8, none⟩ = some (.slice none 0 0) := HM8.out.s.z.c 8 (by omega)
       have g8 := HM8.out.s.z.f 8))
  refine bodyPost_ret (v := .tuple #[mv noMs none 0 none 0, .bool false]) ?_ rfl ⟨rfl, ?_⟩
  · rw [results_cell2 rfl]
    dsimp only [mv, noMs, noAc, z0, List.length_nil]
    go_simp
  · show Below _ _ _
    have BB := HM8.out.s.bel
    repeat (first | with_reducible exact BB | (with_reducible refine Below.setCell ?_ (by first | (simp; done) | (simp; omega) | omega) _) | (with_reducible refine Below.alloc ?_ (by first | (simp; done) | (simp; omega) | omega) _))

set_option maxHeartbeats 3200000 in
theorem dec_k5_may (x : Option Addr) (nn c : Nat) (l : List Nat) (n fr : Nat) (hn7 : n ≤ 7) (w : World) (hl : Fl.Sl w x nn c l) (hnn : nn ≤ 140737488351232) (hse : isSealed l = true)
    (A : Nat × List Nat × Nat) (hA : rNum ((n : Int) - 1) (l.take (nn - 8)) 0 = A) (K : Nat × List Nat × Nat) (hK : rNum 5 A.2.1 A.2.2 = K) (U : Nat × List Nat × Nat) (hU : rNum 2147483647 K.2.1 K.2.2 = U) (hUb : U.1 ≤ 2147483647) (T : Nat × List Nat × Nat) (hT : rNum 2147483647 U.2.1 U.2.2 = T) (hTb : T.1 ≤ 2147483647) (Q : List Dc × List Nat × Nat) (hQ : rDcs n (told U.1 T.1).toNat T.2.1 T.2.2 = Q) (hQl : Q.1.length ≤ 64) (hkk : K.1 = 5)
    (ho : rDone Q.2.1 Q.2.2 = 0) (hfr : A.1 = fr) (hm : mayM ⟨5, U.1, noAc, T.1, Q.1⟩ fr n = false) :
    Calls Try.prog 29 #[.slice x nn c, .int .i64 fr, .int .i64 n] w fun e w' => e = .returned (.tuple #[mv noMs none 0 none 0, .bool false]) ∧ Hid (Below w.heap.size w w') := by
  have hUn := fun (W : World) (h : Below w.heap.size w W) => unsealed_any x nn c l W (hl.below h) hnn
  rw [hse] at hUn
  have nI : (n : Int) ≤ 7 := by omega
  skip
  obtain ⟨K1, K2⟩ := K
  dsimp only at hkk hU
  subst hkk
  obtain ⟨A1, A2⟩ := A
  dsimp only at hfr hK
  subst hfr
  clear hl hse
  go_enter Try.func29, Try.ntmps29
  go_wp2_with (first
    | (
       go_at_call 38; refine (hUn _ (al _ _)).mono ?_; rintro e w1 ⟨y1, m1, c1, rfl, H1⟩; clear hUn
       have hR := readR y1 m1 c1 _ w1 (H1.out.2 rfl).2 (by have := (H1.out.2 rfl).1; omega)
       have HZ1 : Hid (Below w.heap.size w w1 ∧ Nine w1 w.heap.size zero9) := ⟨on (al _ _) H1.out.1, (Nine.new w _ _ _ _ _ _ _ _ _ _).keep (Turns.of_below (F := fun _ => False) H1.out.1) (fun h => h)⟩
       have lw1 : w.heap.size < w1.heap.size := by have := H1.out.1.size; simp at this; omega)
    | (
       go_at_call 39; refine hR.mono ?_; rintro e w2 ⟨p, rfl, H2⟩; clear hR
       have HD2 : Hid (DS w w2 p w2.heap.size (l.take (nn - 8)) 0) := ⟨on HZ1.out.1 H2.out.2.1, HZ1.out.2.keep (Turns.of_below (F := fun _ => False) H2.out.2.1) (fun h => h), H2.out.2.2, by have := H2.out.1; omega, H2.out.2.2.lt, Nat.le_refl _⟩
       have hN1 := fun (W : World) (h : Rdr W p w2.heap.size (l.take (nn - 8)) 0) => numR ((n : Int) - 1) h (by omega) (by omega)
       rw [hA] at hN1
       clear HZ1 H1 H2)
    | (
       go_at_call 40; refine (hN1 _ HD2.out.rd).mono ?_; rintro e w3 ⟨rfl, H3⟩; clear hN1
       have HD3 := hid (HD2.out.go H3.out.1 H3.out.2)
       have hN2 := numR 5 H3.out.2 (by omega) (by omega)
       rw [hK] at hN2
       clear H3)
    | (
       go_at_call 40; refine hN2.mono ?_; rintro e w4 ⟨rfl, H4⟩; clear hN2
       have HD4 := hid (HD3.out.go H4.out.1 H4.out.2)
       have hN3 := numR 2147483647 H4.out.2 (by omega) (by omega)
       rw [hU] at hN3
       clear H4)
    | (
       go_at_call 40; refine hN3.mono ?_; rintro e w5 ⟨rfl, H5⟩; clear hN3
       have HM5 := hid (DM.new (HD4.out.go H5.out.1 H5.out.2) 76 (.int .i64 (5 : Nat)) (.int .i64 (U.1 : Nat)) (.int .i64 0) (.int .i64 0) (.int .i64 0) (.int .i64 0) (.slice none 0 0) (.int .i64 0) (.slice none 0 0))
       have HD5 := hid (HD4.out.go H5.out.1 H5.out.2)
       have l5 : w.heap.size < w5.heap.size := by have h1 := HD5.out.wp; have h2 := HD5.out.pN; have h3 := HD5.out.Nw; omega
       have ne5 : w.heap.size ≠ w5.heap.size := by omega
       clear H5 HD2 HD3 HD4
       have hN4 := numR 2147483647 HM5.out.s.rd (by omega) (by omega)
       rw [hT] at hN4)
    | (
       go_at_call 40; refine hN4.mono ?_; rintro e w6 ⟨rfl, H6⟩; clear hN4
       have HM6 := hid (HM5.out.go H6.out.1 H6.out.2)
       have q1 : w6.cell? ⟨w5.heap.size, 1, none⟩ = some (.int .i64 (U.1 : Nat)) := HM6.out.m.c 1 (by omega)
       have q7 : w6.cell? ⟨w5.heap.size, 7, none⟩ = some (.int .i64 0) := HM6.out.m.c 7 (by omega)
       have f7 := HM6.out.m.f 7
       have HM6s := hid (HM6.out.set 7 (.int .i64 (T.1 : Nat)))
       have hTo := fun W => told_any U.1 T.1 W hUb hTb
       clear H6 HM5 HM6)
    | (
       go_at_call 42; refine (hTo _).mono ?_; rintro e w7 ⟨rfl, hw7⟩; subst w7; clear hTo
       have hRD := rdcs_any n hn7 (told U.1 T.1) (by unfold told; omega) (by unfold told; omega) HM6s.out.s.rd HM6s.out.s.Nw
       rw [hQ] at hRD)
    | (
       go_at_call 41; refine hRD.mono ?_; rintro e w8 ⟨y8, m8, c8, rfl, H8⟩; clear hRD
       have HM8 := hid (HM6s.out.go H8.out.2.1 H8.out.2.2)
       have q0 : w8.cell? ⟨w5.heap.size, 0, none⟩ = some (.int .i64 5) := HM8.out.m.c 0 (by omega)
       have q1 : w8.cell? ⟨w5.heap.size, 1, none⟩ = some (.int .i64 (U.1 : Nat)) := HM8.out.m.c 1 (by omega)
       have q2 : w8.cell? ⟨w5.heap.size, 2, none⟩ = some (.int .i64 0) := HM8.out.m.c 2 (by omega)
       have q3 : w8.cell? ⟨w5.heap.size, 3, none⟩ = some (.int .i64 0) := HM8.out.m.c 3 (by omega)
       have q4 : w8.cell? ⟨w5.heap.size, 4, none⟩ = some (.int .i64 0) := HM8.out.m.c 4 (by omega)
       have q5 : w8.cell? ⟨w5.heap.size, 5, none⟩ = some (.int .i64 0) := HM8.out.m.c 5 (by omega)
       have q6 : w8.cell? ⟨w5.heap.size, 6, none⟩ = some (.slice none 0 0) := HM8.out.m.c 6 (by omega)
       have q7 : w8.cell? ⟨w5.heap.size, 7, none⟩ = some (.int .i64 (T.1 : Nat)) := HM8.out.m.c 7 (by omega)
       have q8 : w8.cell? ⟨w5.heap.size, 8, none⟩ = some (.slice none 0 0) := HM8.out.m.c 8 (by omega)
       have f8 := HM8.out.m.f 8
       have HM9 := hid (HM8.out.set 8 (.slice y8 m8 c8))
       have HO9 : Hid (OwnD (w8.setCell ⟨w5.heap.size, 8, none⟩ (.slice y8 m8 c8)) (w.heap.size + 1) (.slice y8 m8 c8) Q.1 ∧ m8 = Q.1.length) := by
         refine ⟨?_, (own_dcs H8.out.1).1.symm⟩
         have hb1 : w.heap.size + 1 ≤ (w6.setCell ⟨w5.heap.size, 7, none⟩ (.int .i64 (T.1 : Nat))).heap.size := by have h1 := HM6s.out.s.wp; have h2 := HM6s.out.s.pN; have h3 := HM6s.out.s.Nw; omega
         have ho1 : OwnD w8 (w.heap.size + 1) (.slice y8 m8 c8) Q.1 := by
           refine ⟨H8.out.1.1, ?_⟩
           rcases H8.out.1.2 with h0 | ⟨g, cc, cur, h1, h2, h3⟩
           · exact .inl h0
           · exact .inr ⟨g, cc, cur, h1, Nat.le_trans hb1 h2, h3⟩
         refine ho1.turns (turns_put (Turns.refl (atB w5.heap.size) w8) 8 (.slice y8 m8 c8)) (fun g hg e => ?_)
         have e2 : g = w5.heap.size := e
         subst e2
         have h1 := (H8.out.1.tb hg).1
         have h2 := HM6s.out.lt
         omega
       have hDn := doneR HM9.out.s.rd
       rw [ho] at hDn
       clear H8 HM6s hA hK hU hT hQ)
    | (
       go_at_call 45; refine hDn.mono ?_; rintro e wd ⟨rfl, hwd⟩; subst wd; clear hDn
       have hMM := mmay_any ⟨5, U.1, noAc, T.1, Q.1⟩ none y8 0 c8 A1 n hn7 (w8.setCell ⟨w5.heap.size, 8, none⟩ (.slice y8 m8 c8)) (Fl.Sl.empty _) (by show (0 : Nat) ≤ 5000; omega) (own_dcs HO9.out.1).2 (by show Q.1.length ≤ 1000; have := hQl; omega)
       rw [hm] at hMM
       dsimp only [mv, noAc, z0, List.length_nil] at hMM
       rw [← HO9.out.2] at hMM)
    | (
       go_at_call 46; refine hMM.mono ?_; rintro e w20 ⟨rfl, H20⟩; clear hMM
       have HM20 := hid (HM9.out.box H20.out)
       have zc0 : w20.cell? ⟨w.heap.size, 0, none⟩ = some (.int .i64 0) := HM20.out.s.z.c 0 (by omega)
       have g0 := HM20.out.s.z.f 0
       have zc1 : w20.cell? ⟨w.heap.size, 1, none⟩ = some (.int .i64 0) := HM20.out.s.z.c 1 (by omega)
       have g1 := HM20.out.s.z.f 1
       have zc2 : w20.cell? ⟨w.heap.size, 2, none⟩ = some (.int .i64 0) := HM20.out.s.z.c 2 (by omega)
       have g2 := HM20.out.s.z.f 2
       have zc3 : w20.cell? ⟨w.heap.size, 3, none⟩ = some (.int .i64 0) := HM20.out.s.z.c 3 (by omega)
       have g3 := HM20.out.s.z.f 3
       have zc4 : w20.cell? ⟨w.heap.size, 4, none⟩ = some (.int .i64 0) := HM20.out.s.z.c 4 (by omega)
       have g4 := HM20.out.s.z.f 4
       have zc5 : w20.cell? ⟨w.heap.size, 5, none⟩ = some (.int .i64 0) := HM20.out.s.z.c 5 (by omega)
       have g5 := HM20.out.s.z.f 5
       have zc6 : w20.cell? ⟨w.heap.size, 6, none⟩ = some (.slice none 0 0) := HM20.out.s.z.c 6 (by omega)
       have g6 := HM20.out.s.z.f 6
       have zc7 : w20.cell? ⟨w.heap.size, 7, none⟩ = some (.int .i64 0) := HM20.out.s.z.c 7 (by omega)
       have g7 := HM20.out.s.z.f 7
       have zc8 : w20.cell? ⟨w.heap.size, 8, none⟩ = some (.slice none 0 0) := HM20.out.s.z.c 8 (by omega)
       have g8 := HM20.out.s.z.f 8))
  refine bodyPost_ret (v := .tuple #[mv noMs none 0 none 0, .bool false]) ?_ rfl ⟨rfl, ?_⟩
  · rw [results_cell2 rfl]
    dsimp only [mv, noMs, noAc, z0, List.length_nil]
    go_simp
  · show Below _ _ _
    have BB := HM20.out.s.bel
    repeat (first | with_reducible exact BB | (with_reducible refine Below.setCell ?_ (by first | (simp; done) | (simp; omega) | omega) _) | (with_reducible refine Below.alloc ?_ (by first | (simp; done) | (simp; omega) | omega) _))

set_option maxHeartbeats 3200000 in
theorem dec_k5_yes (x : Option Addr) (nn c : Nat) (l : List Nat) (n fr : Nat) (hn7 : n ≤ 7) (w : World) (hl : Fl.Sl w x nn c l) (hnn : nn ≤ 140737488351232) (hse : isSealed l = true)
    (A : Nat × List Nat × Nat) (hA : rNum ((n : Int) - 1) (l.take (nn - 8)) 0 = A) (K : Nat × List Nat × Nat) (hK : rNum 5 A.2.1 A.2.2 = K) (U : Nat × List Nat × Nat) (hU : rNum 2147483647 K.2.1 K.2.2 = U) (hUb : U.1 ≤ 2147483647) (T : Nat × List Nat × Nat) (hT : rNum 2147483647 U.2.1 U.2.2 = T) (hTb : T.1 ≤ 2147483647) (Q : List Dc × List Nat × Nat) (hQ : rDcs n (told U.1 T.1).toNat T.2.1 T.2.2 = Q) (hQl : Q.1.length ≤ 64) (hkk : K.1 = 5)
    (ho : rDone Q.2.1 Q.2.2 = 0) (hfr : A.1 = fr) (hm : mayM ⟨5, U.1, noAc, T.1, Q.1⟩ fr n = true) :
    Calls Try.prog 29 #[.slice x nn c, .int .i64 fr, .int .i64 n] w fun e w' => ∃ x c y cy, e = .returned (.tuple #[mv ⟨5, U.1, noAc, T.1, Q.1⟩ x c y cy, .bool true]) ∧ Hid (Below w.heap.size w w' ∧ MGot w w' ⟨5, U.1, noAc, T.1, Q.1⟩ x c y cy) := by
  have hUn := fun (W : World) (h : Below w.heap.size w W) => unsealed_any x nn c l W (hl.below h) hnn
  rw [hse] at hUn
  have nI : (n : Int) ≤ 7 := by omega
  skip
  obtain ⟨K1, K2⟩ := K
  dsimp only at hkk hU
  subst hkk
  obtain ⟨A1, A2⟩ := A
  dsimp only at hfr hK
  subst hfr
  clear hl hse
  go_enter Try.func29, Try.ntmps29
  go_wp2_with (first
    | (
       go_at_call 38; refine (hUn _ (al _ _)).mono ?_; rintro e w1 ⟨y1, m1, c1, rfl, H1⟩; clear hUn
       have hR := readR y1 m1 c1 _ w1 (H1.out.2 rfl).2 (by have := (H1.out.2 rfl).1; omega)
       have HZ1 : Hid (Below w.heap.size w w1 ∧ Nine w1 w.heap.size zero9) := ⟨on (al _ _) H1.out.1, (Nine.new w _ _ _ _ _ _ _ _ _ _).keep (Turns.of_below (F := fun _ => False) H1.out.1) (fun h => h)⟩
       have lw1 : w.heap.size < w1.heap.size := by have := H1.out.1.size; simp at this; omega)
    | (
       go_at_call 39; refine hR.mono ?_; rintro e w2 ⟨p, rfl, H2⟩; clear hR
       have HD2 : Hid (DS w w2 p w2.heap.size (l.take (nn - 8)) 0) := ⟨on HZ1.out.1 H2.out.2.1, HZ1.out.2.keep (Turns.of_below (F := fun _ => False) H2.out.2.1) (fun h => h), H2.out.2.2, by have := H2.out.1; omega, H2.out.2.2.lt, Nat.le_refl _⟩
       have hN1 := fun (W : World) (h : Rdr W p w2.heap.size (l.take (nn - 8)) 0) => numR ((n : Int) - 1) h (by omega) (by omega)
       rw [hA] at hN1
       clear HZ1 H1 H2)
    | (
       go_at_call 40; refine (hN1 _ HD2.out.rd).mono ?_; rintro e w3 ⟨rfl, H3⟩; clear hN1
       have HD3 := hid (HD2.out.go H3.out.1 H3.out.2)
       have hN2 := numR 5 H3.out.2 (by omega) (by omega)
       rw [hK] at hN2
       clear H3)
    | (
       go_at_call 40; refine hN2.mono ?_; rintro e w4 ⟨rfl, H4⟩; clear hN2
       have HD4 := hid (HD3.out.go H4.out.1 H4.out.2)
       have hN3 := numR 2147483647 H4.out.2 (by omega) (by omega)
       rw [hU] at hN3
       clear H4)
    | (
       go_at_call 40; refine hN3.mono ?_; rintro e w5 ⟨rfl, H5⟩; clear hN3
       have HM5 := hid (DM.new (HD4.out.go H5.out.1 H5.out.2) 76 (.int .i64 (5 : Nat)) (.int .i64 (U.1 : Nat)) (.int .i64 0) (.int .i64 0) (.int .i64 0) (.int .i64 0) (.slice none 0 0) (.int .i64 0) (.slice none 0 0))
       have HD5 := hid (HD4.out.go H5.out.1 H5.out.2)
       have l5 : w.heap.size < w5.heap.size := by have h1 := HD5.out.wp; have h2 := HD5.out.pN; have h3 := HD5.out.Nw; omega
       have ne5 : w.heap.size ≠ w5.heap.size := by omega
       clear H5 HD2 HD3 HD4
       have hN4 := numR 2147483647 HM5.out.s.rd (by omega) (by omega)
       rw [hT] at hN4)
    | (
       go_at_call 40; refine hN4.mono ?_; rintro e w6 ⟨rfl, H6⟩; clear hN4
       have HM6 := hid (HM5.out.go H6.out.1 H6.out.2)
       have q1 : w6.cell? ⟨w5.heap.size, 1, none⟩ = some (.int .i64 (U.1 : Nat)) := HM6.out.m.c 1 (by omega)
       have q7 : w6.cell? ⟨w5.heap.size, 7, none⟩ = some (.int .i64 0) := HM6.out.m.c 7 (by omega)
       have f7 := HM6.out.m.f 7
       have HM6s := hid (HM6.out.set 7 (.int .i64 (T.1 : Nat)))
       have hTo := fun W => told_any U.1 T.1 W hUb hTb
       clear H6 HM5 HM6)
    | (
       go_at_call 42; refine (hTo _).mono ?_; rintro e w7 ⟨rfl, hw7⟩; subst w7; clear hTo
       have hRD := rdcs_any n hn7 (told U.1 T.1) (by unfold told; omega) (by unfold told; omega) HM6s.out.s.rd HM6s.out.s.Nw
       rw [hQ] at hRD)
    | (
       go_at_call 41; refine hRD.mono ?_; rintro e w8 ⟨y8, m8, c8, rfl, H8⟩; clear hRD
       have HM8 := hid (HM6s.out.go H8.out.2.1 H8.out.2.2)
       have q0 : w8.cell? ⟨w5.heap.size, 0, none⟩ = some (.int .i64 5) := HM8.out.m.c 0 (by omega)
       have q1 : w8.cell? ⟨w5.heap.size, 1, none⟩ = some (.int .i64 (U.1 : Nat)) := HM8.out.m.c 1 (by omega)
       have q2 : w8.cell? ⟨w5.heap.size, 2, none⟩ = some (.int .i64 0) := HM8.out.m.c 2 (by omega)
       have q3 : w8.cell? ⟨w5.heap.size, 3, none⟩ = some (.int .i64 0) := HM8.out.m.c 3 (by omega)
       have q4 : w8.cell? ⟨w5.heap.size, 4, none⟩ = some (.int .i64 0) := HM8.out.m.c 4 (by omega)
       have q5 : w8.cell? ⟨w5.heap.size, 5, none⟩ = some (.int .i64 0) := HM8.out.m.c 5 (by omega)
       have q6 : w8.cell? ⟨w5.heap.size, 6, none⟩ = some (.slice none 0 0) := HM8.out.m.c 6 (by omega)
       have q7 : w8.cell? ⟨w5.heap.size, 7, none⟩ = some (.int .i64 (T.1 : Nat)) := HM8.out.m.c 7 (by omega)
       have q8 : w8.cell? ⟨w5.heap.size, 8, none⟩ = some (.slice none 0 0) := HM8.out.m.c 8 (by omega)
       have f8 := HM8.out.m.f 8
       have HM9 := hid (HM8.out.set 8 (.slice y8 m8 c8))
       have HO9 : Hid (OwnD (w8.setCell ⟨w5.heap.size, 8, none⟩ (.slice y8 m8 c8)) (w.heap.size + 1) (.slice y8 m8 c8) Q.1 ∧ m8 = Q.1.length) := by
         refine ⟨?_, (own_dcs H8.out.1).1.symm⟩
         have hb1 : w.heap.size + 1 ≤ (w6.setCell ⟨w5.heap.size, 7, none⟩ (.int .i64 (T.1 : Nat))).heap.size := by have h1 := HM6s.out.s.wp; have h2 := HM6s.out.s.pN; have h3 := HM6s.out.s.Nw; omega
         have ho1 : OwnD w8 (w.heap.size + 1) (.slice y8 m8 c8) Q.1 := by
           refine ⟨H8.out.1.1, ?_⟩
           rcases H8.out.1.2 with h0 | ⟨g, cc, cur, h1, h2, h3⟩
           · exact .inl h0
           · exact .inr ⟨g, cc, cur, h1, Nat.le_trans hb1 h2, h3⟩
         refine ho1.turns (turns_put (Turns.refl (atB w5.heap.size) w8) 8 (.slice y8 m8 c8)) (fun g hg e => ?_)
         have e2 : g = w5.heap.size := e
         subst e2
         have h1 := (H8.out.1.tb hg).1
         have h2 := HM6s.out.lt
         omega
       have hDn := doneR HM9.out.s.rd
       rw [ho] at hDn
       clear H8 HM6s hA hK hU hT hQ)
    | (
       go_at_call 45; refine hDn.mono ?_; rintro e wd ⟨rfl, hwd⟩; subst wd; clear hDn
       have hMM := mmay_any ⟨5, U.1, noAc, T.1, Q.1⟩ none y8 0 c8 A1 n hn7 (w8.setCell ⟨w5.heap.size, 8, none⟩ (.slice y8 m8 c8)) (Fl.Sl.empty _) (by show (0 : Nat) ≤ 5000; omega) (own_dcs HO9.out.1).2 (by show Q.1.length ≤ 1000; have := hQl; omega)
       rw [hm] at hMM
       dsimp only [mv, noAc, z0, List.length_nil] at hMM
       rw [← HO9.out.2] at hMM)
    | (
       go_at_call 46; refine hMM.mono ?_; rintro e w20 ⟨rfl, H20⟩; clear hMM
       have HM20 := hid (HM9.out.box H20.out)
       have zc0 : w20.cell? ⟨w.heap.size, 0, none⟩ = some (.int .i64 0) := HM20.out.s.z.c 0 (by omega)
       have g0 := HM20.out.s.z.f 0
       have zc1 : w20.cell? ⟨w.heap.size, 1, none⟩ = some (.int .i64 0) := HM20.out.s.z.c 1 (by omega)
       have g1 := HM20.out.s.z.f 1
       have zc2 : w20.cell? ⟨w.heap.size, 2, none⟩ = some (.int .i64 0) := HM20.out.s.z.c 2 (by omega)
       have g2 := HM20.out.s.z.f 2
       have zc3 : w20.cell? ⟨w.heap.size, 3, none⟩ = some (.int .i64 0) := HM20.out.s.z.c 3 (by omega)
       have g3 := HM20.out.s.z.f 3
       have zc4 : w20.cell? ⟨w.heap.size, 4, none⟩ = some (.int .i64 0) := HM20.out.s.z.c 4 (by omega)
       have g4 := HM20.out.s.z.f 4
       have zc5 : w20.cell? ⟨w.heap.size, 5, none⟩ = some (.int .i64 0) := HM20.out.s.z.c 5 (by omega)
       have g5 := HM20.out.s.z.f 5
       have zc6 : w20.cell? ⟨w.heap.size, 6, none⟩ = some (.slice none 0 0) := HM20.out.s.z.c 6 (by omega)
       have g6 := HM20.out.s.z.f 6
       have zc7 : w20.cell? ⟨w.heap.size, 7, none⟩ = some (.int .i64 0) := HM20.out.s.z.c 7 (by omega)
       have g7 := HM20.out.s.z.f 7
       have zc8 : w20.cell? ⟨w.heap.size, 8, none⟩ = some (.slice none 0 0) := HM20.out.s.z.c 8 (by omega)
       have g8 := HM20.out.s.z.f 8
       have s0 : w20.cell? ⟨w5.heap.size, 0, none⟩ = some (.int .i64 5) := HM20.out.m.c 0 (by omega)
       have s1 : w20.cell? ⟨w5.heap.size, 1, none⟩ = some (.int .i64 (U.1 : Nat)) := HM20.out.m.c 1 (by omega)
       have s2 : w20.cell? ⟨w5.heap.size, 2, none⟩ = some (.int .i64 0) := HM20.out.m.c 2 (by omega)
       have s3 : w20.cell? ⟨w5.heap.size, 3, none⟩ = some (.int .i64 0) := HM20.out.m.c 3 (by omega)
       have s4 : w20.cell? ⟨w5.heap.size, 4, none⟩ = some (.int .i64 0) := HM20.out.m.c 4 (by omega)
       have s5 : w20.cell? ⟨w5.heap.size, 5, none⟩ = some (.int .i64 0) := HM20.out.m.c 5 (by omega)
       have s6 : w20.cell? ⟨w5.heap.size, 6, none⟩ = some (.slice none 0 0) := HM20.out.m.c 6 (by omega)
       have s7 : w20.cell? ⟨w5.heap.size, 7, none⟩ = some (.int .i64 (T.1 : Nat)) := HM20.out.m.c 7 (by omega)
       have s8 : w20.cell? ⟨w5.heap.size, 8, none⟩ = some (.slice y8 m8 c8) := HM20.out.m.c 8 (by omega)))
  refine bodyPost_ret (v := .tuple #[mv ⟨5, U.1, noAc, T.1, Q.1⟩ none 0 y8 c8, .bool true]) ?_ rfl ⟨none, 0, y8, c8, rfl, ?_⟩
  · rw [results_cell2 rfl]
    dsimp only [mv, noAc, z0, List.length_nil]
    rw [← HO9.out.2]
    go_simp
  · suffices key : ∀ wF, Turns (atB w.heap.size) w20 wF → Below w.heap.size w wF ∧ MGot w wF ⟨5, U.1, noAc, T.1, Q.1⟩ none 0 y8 c8 from key _ (turns_put (turns_put (turns_put (turns_put (turns_put (turns_put (turns_put (turns_put (turns_put (Turns.refl _ w20) 0 _) 1 _) 2 _) 3 _) 4 _) 5 _) 6 _) 7 _) 8 _)
    intro wF t9
    refine ⟨HM20.out.s.bel.trans (t9.below (fun k hk => by have e : k = w.heap.size := hk; omega) HM20.out.s.bel.size), ?_⟩
    have tb := (Turns.of_below (F := atB w.heap.size) H20.out).trans t9
    refine ⟨Fl.Sl.empty _, (fun a ha => by cases ha), ?_⟩
    show OwnD _ _ (.slice y8 Q.1.length c8) Q.1
    rw [← HO9.out.2]
    have hO : OwnD _ (w.heap.size + 1) (.slice y8 m8 c8) Q.1 := HO9.out.1.turns tb (fun g hg e => by
      have e2 : g = w.heap.size := e
      have := (HO9.out.1.tb hg).1
      omega)
    refine ⟨hO.1, ?_⟩
    rcases hO.2 with h0 | ⟨g, cc, cur, h1, h2, h3⟩
    · exact .inl h0
    · exact .inr ⟨g, cc, cur, h1, by omega, h3⟩

set_option maxHeartbeats 3200000 in
theorem dec_ko_done (x : Option Addr) (nn c : Nat) (l : List Nat) (n fr : Nat) (hn7 : n ≤ 7) (w : World) (hl : Fl.Sl w x nn c l) (hnn : nn ≤ 140737488351232) (hse : isSealed l = true)
    (A : Nat × List Nat × Nat) (hA : rNum ((n : Int) - 1) (l.take (nn - 8)) 0 = A) (K : Nat × List Nat × Nat) (hK : rNum 5 A.2.1 A.2.2 = K) (U : Nat × List Nat × Nat) (hU : rNum 2147483647 K.2.1 K.2.2 = U) (hUb : U.1 ≤ 2147483647) (kk : Nat) (hk4 : ((kk : Int) == 4) = false) (hk5 : ((kk : Int) == 5) = false) (hkk : K.1 = kk) (P : Bt × List Nat × Nat) (hP : rBal n U.2.1 U.2.2 = P) (R : Bt × List Nat × Nat) (hR2 : rBal n P.2.1 P.2.2 = R) (Y : List Nat × List Nat × Nat) (hY : rBy 4104 R.2.1 R.2.2 = Y) (hYl : Y.1.length ≤ 4104)
    (o : Nat) (ho : rDone Y.2.1 Y.2.2 = o) (hone : ((o : Int) != 0) = true) :
    Calls Try.prog 29 #[.slice x nn c, .int .i64 fr, .int .i64 n] w fun e w' => e = .returned (.tuple #[mv noMs none 0 none 0, .bool false]) ∧ Hid (Below w.heap.size w w') := by
  have hUn := fun (W : World) (h : Below w.heap.size w W) => unsealed_any x nn c l W (hl.below h) hnn
  rw [hse] at hUn
  have nI : (n : Int) ≤ 7 := by omega
  skip
  obtain ⟨K1, K2⟩ := K
  dsimp only at hkk hU
  have hkk2 : kk = K1 := hkk.symm
  clear hkk
  subst hkk2
  clear hl hse
  go_enter Try.func29, Try.ntmps29
  go_wp2_with (first
    | (
       go_at_call 38; refine (hUn _ (al _ _)).mono ?_; rintro e w1 ⟨y1, m1, c1, rfl, H1⟩; clear hUn
       have hR := readR y1 m1 c1 _ w1 (H1.out.2 rfl).2 (by have := (H1.out.2 rfl).1; omega)
       have HZ1 : Hid (Below w.heap.size w w1 ∧ Nine w1 w.heap.size zero9) := ⟨on (al _ _) H1.out.1, (Nine.new w _ _ _ _ _ _ _ _ _ _).keep (Turns.of_below (F := fun _ => False) H1.out.1) (fun h => h)⟩
       have lw1 : w.heap.size < w1.heap.size := by have := H1.out.1.size; simp at this; omega)
    | (
       go_at_call 39; refine hR.mono ?_; rintro e w2 ⟨p, rfl, H2⟩; clear hR
       have HD2 : Hid (DS w w2 p w2.heap.size (l.take (nn - 8)) 0) := ⟨on HZ1.out.1 H2.out.2.1, HZ1.out.2.keep (Turns.of_below (F := fun _ => False) H2.out.2.1) (fun h => h), H2.out.2.2, by have := H2.out.1; omega, H2.out.2.2.lt, Nat.le_refl _⟩
       have hN1 := fun (W : World) (h : Rdr W p w2.heap.size (l.take (nn - 8)) 0) => numR ((n : Int) - 1) h (by omega) (by omega)
       rw [hA] at hN1
       clear HZ1 H1 H2)
    | (
       go_at_call 40; refine (hN1 _ HD2.out.rd).mono ?_; rintro e w3 ⟨rfl, H3⟩; clear hN1
       have HD3 := hid (HD2.out.go H3.out.1 H3.out.2)
       have hN2 := numR 5 H3.out.2 (by omega) (by omega)
       rw [hK] at hN2
       clear H3)
    | (
       go_at_call 40; refine hN2.mono ?_; rintro e w4 ⟨rfl, H4⟩; clear hN2
       have HD4 := hid (HD3.out.go H4.out.1 H4.out.2)
       have hN3 := numR 2147483647 H4.out.2 (by omega) (by omega)
       rw [hU] at hN3
       clear H4)
    | (
       go_at_call 40; refine hN3.mono ?_; rintro e w5 ⟨rfl, H5⟩; clear hN3
       have HM5 := hid (DM.new (HD4.out.go H5.out.1 H5.out.2) 76 (.int .i64 (kk : Nat)) (.int .i64 (U.1 : Nat)) (.int .i64 0) (.int .i64 0) (.int .i64 0) (.int .i64 0) (.slice none 0 0) (.int .i64 0) (.slice none 0 0))
       have HD5 := hid (HD4.out.go H5.out.1 H5.out.2)
       have l5 : w.heap.size < w5.heap.size := by have h1 := HD5.out.wp; have h2 := HD5.out.pN; have h3 := HD5.out.Nw; omega
       have ne5 : w.heap.size ≠ w5.heap.size := by omega
       clear H5 HD2 HD3 HD4
       have hP1 := rbal_any n hn7 HM5.out.s.rd HM5.out.s.Nw
       rw [hP] at hP1)
    | (
       go_at_call 43; refine hP1.mono ?_; rintro e w6 ⟨rfl, H6⟩; clear hP1
       have HM6 := hid (HM5.out.go H6.out.1 H6.out.2)
       have q2 : w6.cell? ⟨w5.heap.size, 2, none⟩ = some (.int .i64 0) := HM6.out.m.c 2 (by omega)
       have q3 : w6.cell? ⟨w5.heap.size, 3, none⟩ = some (.int .i64 0) := HM6.out.m.c 3 (by omega)
       have f2 := HM6.out.m.f 2
       have f3 := HM6.out.m.f 3
       have HM7 := hid ((HM6.out.set 2 (.int .i64 P.1.1)).set 3 (.int .i64 P.1.2))
       have hP2 := rbal_any n hn7 HM7.out.s.rd HM7.out.s.Nw
       rw [hR2] at hP2
       dsimp only [bt] at hP2 ⊢
       clear H6 HM5 HM6)
    | (
       go_at_call 43; refine hP2.mono ?_; rintro e w8 ⟨rfl, H8⟩; clear hP2
       have HM8 := hid (HM7.out.go H8.out.1 H8.out.2)
       have q4 : w8.cell? ⟨w5.heap.size, 4, none⟩ = some (.int .i64 0) := HM8.out.m.c 4 (by omega)
       have q5 : w8.cell? ⟨w5.heap.size, 5, none⟩ = some (.int .i64 0) := HM8.out.m.c 5 (by omega)
       have f4 := HM8.out.m.f 4
       have f5 := HM8.out.m.f 5
       have HM9 := hid ((HM8.out.set 4 (.int .i64 R.1.1)).set 5 (.int .i64 R.1.2))
       have hY1 := bytesR 4104 HM9.out.s.rd (by omega) (by omega)
       rw [hY] at hY1
       clear H8 HM7 HM8)
    | (
       go_at_call 44; refine hY1.mono ?_; rintro e w10 ⟨y10, m10, c10, rfl, H10⟩; clear hY1
       have HM10 := hid (HM9.out.go H10.out.1 H10.out.2.1)
       have q0 : w10.cell? ⟨w5.heap.size, 0, none⟩ = some (.int .i64 (kk : Nat)) := HM10.out.m.c 0 (by omega)
       have q1 : w10.cell? ⟨w5.heap.size, 1, none⟩ = some (.int .i64 (U.1 : Nat)) := HM10.out.m.c 1 (by omega)
       have q2 : w10.cell? ⟨w5.heap.size, 2, none⟩ = some (.int .i64 P.1.1) := HM10.out.m.c 2 (by omega)
       have q3 : w10.cell? ⟨w5.heap.size, 3, none⟩ = some (.int .i64 P.1.2) := HM10.out.m.c 3 (by omega)
       have q4 : w10.cell? ⟨w5.heap.size, 4, none⟩ = some (.int .i64 R.1.1) := HM10.out.m.c 4 (by omega)
       have q5 : w10.cell? ⟨w5.heap.size, 5, none⟩ = some (.int .i64 R.1.2) := HM10.out.m.c 5 (by omega)
       have q6 : w10.cell? ⟨w5.heap.size, 6, none⟩ = some (.slice none 0 0) := HM10.out.m.c 6 (by omega)
       have q7 : w10.cell? ⟨w5.heap.size, 7, none⟩ = some (.int .i64 0) := HM10.out.m.c 7 (by omega)
       have q8 : w10.cell? ⟨w5.heap.size, 8, none⟩ = some (.slice none 0 0) := HM10.out.m.c 8 (by omega)
       have f6 := HM10.out.m.f 6
       have HM11 := hid (HM10.out.set 6 (.slice y10 m10 c10))
       have HS11 : Hid (Fl.Sl (w10.setCell ⟨w5.heap.size, 6, none⟩ (.slice y10 m10 c10)) y10 m10 c10 Y.1 ∧ m10 = Y.1.length ∧ ∀ a, y10 = some a → w.heap.size < a.block ∧ Tb (w10.setCell ⟨w5.heap.size, 6, none⟩ (.slice y10 m10 c10)) a.block 5) := by
         have hb1 : w.heap.size < ((w8.setCell ⟨w5.heap.size, 4, none⟩ (.int .i64 R.1.1)).setCell ⟨w5.heap.size, 5, none⟩ (.int .i64 R.1.2)).heap.size := by have h1 := HM9.out.s.wp; have h2 := HM9.out.s.pN; have h3 := HM9.out.s.Nw; omega
         have t9 : Turns (atB w5.heap.size) w10 (w10.setCell ⟨w5.heap.size, 6, none⟩ (.slice y10 m10 c10)) := turns_put (Turns.refl _ w10) 6 _
         have hne : ∀ a, y10 = some a → ¬ atB w5.heap.size a.block := fun a ha e => by
           have e2 : a.block = w5.heap.size := e
           have h1 := (H10.out.2.2.2 a ha).1
           have h2 := HM9.out.lt
           omega
         refine ⟨H10.out.2.2.1.turns t9 (fun _ => hne), H10.out.2.2.1.len.symm, fun a ha => ⟨Nat.lt_of_lt_of_le hb1 (H10.out.2.2.2 a ha).1, (H10.out.2.2.2 a ha).2.of_heap (t9.block _ (H10.out.2.2.2 a ha).2.lt (hne a ha))⟩⟩
       have hDn := doneR HM11.out.s.rd
       rw [ho] at hDn
       clear H10 HM9 hA hK hU hP hR2 hY)
    | (
       go_at_call 45; refine hDn.mono ?_; rintro e wd ⟨rfl, hwd⟩; subst wd; clear hDn
       have zc0 : w10.cell? ⟨w.heap.size, 0, none⟩ = some (.int .i64 0) := HM10.out.s.z.c 0 (by omega)
       have g0 := HM10.out.s.z.f 0
       have zc1 : w10.cell? ⟨w.heap.size, 1, none⟩ = some (.int .i64 0) := HM10.out.s.z.c 1 (by omega)
       have g1 := HM10.out.s.z.f 1
       have zc2 : w10.cell? ⟨w.heap.size, 2, none⟩ = some (.int .i64 0) := HM10.out.s.z.c 2 (by omega)
       have g2 := HM10.out.s.z.f 2
       have zc3 : w10.cell? ⟨w.heap.size, 3, none⟩ = some (.int .i64 0) := HM10.out.s.z.c 3 (by omega)
       have g3 := HM10.out.s.z.f 3
       have zc4 : w10.cell? ⟨w.heap.size, 4, none⟩ = some (.int .i64 0) := HM10.out.s.z.c 4 (by omega)
       have g4 := HM10.out.s.z.f 4
       have zc5 : w10.cell? ⟨w.heap.size, 5, none⟩ = some (.int .i64 0) := HM10.out.s.z.c 5 (by omega)
       have g5 := HM10.out.s.z.f 5
       have zc6 : w10.cell? ⟨w.heap.size, 6, none⟩ = some (.slice none 0 0) := HM10.out.s.z.c 6 (by omega)
       have g6 := HM10.out.s.z.f 6
       have zc7 : w10.cell? ⟨w.heap.size, 7, none⟩ = some (.int .i64 0) := HM10.out.s.z.c 7 (by omega)
       have g7 := HM10.out.s.z.f 7
       have zc8 : w10.cell? ⟨w.heap.size, 8, none⟩ = some (.slice none 0 0) := HM10.out.s.z.c 8 (by omega)
       have g8 := HM10.out.s.z.f 8))
  refine bodyPost_ret (v := .tuple #[mv noMs none 0 none 0, .bool false]) ?_ rfl ⟨rfl, ?_⟩
  · rw [results_cell2 rfl]
    dsimp only [mv, noMs, noAc, z0, List.length_nil]
    go_simp
  · show Below _ _ _
    have BB := HM10.out.s.bel
    repeat (first | with_reducible exact BB | (with_reducible refine Below.setCell ?_ (by first | (simp; done) | (simp; omega) | omega) _) | (with_reducible refine Below.alloc ?_ (by first | (simp; done) | (simp; omega) | omega) _))

set_option maxHeartbeats 3200000 in
theorem dec_ko_from (x : Option Addr) (nn c : Nat) (l : List Nat) (n fr : Nat) (hn7 : n ≤ 7) (w : World) (hl : Fl.Sl w x nn c l) (hnn : nn ≤ 140737488351232) (hse : isSealed l = true)
    (A : Nat × List Nat × Nat) (hA : rNum ((n : Int) - 1) (l.take (nn - 8)) 0 = A) (K : Nat × List Nat × Nat) (hK : rNum 5 A.2.1 A.2.2 = K) (U : Nat × List Nat × Nat) (hU : rNum 2147483647 K.2.1 K.2.2 = U) (hUb : U.1 ≤ 2147483647) (kk : Nat) (hk4 : ((kk : Int) == 4) = false) (hk5 : ((kk : Int) == 5) = false) (hkk : K.1 = kk) (P : Bt × List Nat × Nat) (hP : rBal n U.2.1 U.2.2 = P) (R : Bt × List Nat × Nat) (hR2 : rBal n P.2.1 P.2.2 = R) (Y : List Nat × List Nat × Nat) (hY : rBy 4104 R.2.1 R.2.2 = Y) (hYl : Y.1.length ≤ 4104)
    (ho : rDone Y.2.1 Y.2.2 = 0) (hfr : (((A.1 : Nat) : Int) != (fr : Int)) = true) :
    Calls Try.prog 29 #[.slice x nn c, .int .i64 fr, .int .i64 n] w fun e w' => e = .returned (.tuple #[mv noMs none 0 none 0, .bool false]) ∧ Hid (Below w.heap.size w w') := by
  have hUn := fun (W : World) (h : Below w.heap.size w W) => unsealed_any x nn c l W (hl.below h) hnn
  rw [hse] at hUn
  have nI : (n : Int) ≤ 7 := by omega
  skip
  obtain ⟨K1, K2⟩ := K
  dsimp only at hkk hU
  have hkk2 : kk = K1 := hkk.symm
  clear hkk
  subst hkk2
  clear hl hse
  go_enter Try.func29, Try.ntmps29
  go_wp2_with (first
    | (
       go_at_call 38; refine (hUn _ (al _ _)).mono ?_; rintro e w1 ⟨y1, m1, c1, rfl, H1⟩; clear hUn
       have hR := readR y1 m1 c1 _ w1 (H1.out.2 rfl).2 (by have := (H1.out.2 rfl).1; omega)
       have HZ1 : Hid (Below w.heap.size w w1 ∧ Nine w1 w.heap.size zero9) := ⟨on (al _ _) H1.out.1, (Nine.new w _ _ _ _ _ _ _ _ _ _).keep (Turns.of_below (F := fun _ => False) H1.out.1) (fun h => h)⟩
       have lw1 : w.heap.size < w1.heap.size := by have := H1.out.1.size; simp at this; omega)
    | (
       go_at_call 39; refine hR.mono ?_; rintro e w2 ⟨p, rfl, H2⟩; clear hR
       have HD2 : Hid (DS w w2 p w2.heap.size (l.take (nn - 8)) 0) := ⟨on HZ1.out.1 H2.out.2.1, HZ1.out.2.keep (Turns.of_below (F := fun _ => False) H2.out.2.1) (fun h => h), H2.out.2.2, by have := H2.out.1; omega, H2.out.2.2.lt, Nat.le_refl _⟩
       have hN1 := fun (W : World) (h : Rdr W p w2.heap.size (l.take (nn - 8)) 0) => numR ((n : Int) - 1) h (by omega) (by omega)
       rw [hA] at hN1
       clear HZ1 H1 H2)
    | (
       go_at_call 40; refine (hN1 _ HD2.out.rd).mono ?_; rintro e w3 ⟨rfl, H3⟩; clear hN1
       have HD3 := hid (HD2.out.go H3.out.1 H3.out.2)
       have hN2 := numR 5 H3.out.2 (by omega) (by omega)
       rw [hK] at hN2
       clear H3)
    | (
       go_at_call 40; refine hN2.mono ?_; rintro e w4 ⟨rfl, H4⟩; clear hN2
       have HD4 := hid (HD3.out.go H4.out.1 H4.out.2)
       have hN3 := numR 2147483647 H4.out.2 (by omega) (by omega)
       rw [hU] at hN3
       clear H4)
    | (
       go_at_call 40; refine hN3.mono ?_; rintro e w5 ⟨rfl, H5⟩; clear hN3
       have HM5 := hid (DM.new (HD4.out.go H5.out.1 H5.out.2) 76 (.int .i64 (kk : Nat)) (.int .i64 (U.1 : Nat)) (.int .i64 0) (.int .i64 0) (.int .i64 0) (.int .i64 0) (.slice none 0 0) (.int .i64 0) (.slice none 0 0))
       have HD5 := hid (HD4.out.go H5.out.1 H5.out.2)
       have l5 : w.heap.size < w5.heap.size := by have h1 := HD5.out.wp; have h2 := HD5.out.pN; have h3 := HD5.out.Nw; omega
       have ne5 : w.heap.size ≠ w5.heap.size := by omega
       clear H5 HD2 HD3 HD4
       have hP1 := rbal_any n hn7 HM5.out.s.rd HM5.out.s.Nw
       rw [hP] at hP1)
    | (
       go_at_call 43; refine hP1.mono ?_; rintro e w6 ⟨rfl, H6⟩; clear hP1
       have HM6 := hid (HM5.out.go H6.out.1 H6.out.2)
       have q2 : w6.cell? ⟨w5.heap.size, 2, none⟩ = some (.int .i64 0) := HM6.out.m.c 2 (by omega)
       have q3 : w6.cell? ⟨w5.heap.size, 3, none⟩ = some (.int .i64 0) := HM6.out.m.c 3 (by omega)
       have f2 := HM6.out.m.f 2
       have f3 := HM6.out.m.f 3
       have HM7 := hid ((HM6.out.set 2 (.int .i64 P.1.1)).set 3 (.int .i64 P.1.2))
       have hP2 := rbal_any n hn7 HM7.out.s.rd HM7.out.s.Nw
       rw [hR2] at hP2
       dsimp only [bt] at hP2 ⊢
       clear H6 HM5 HM6)
    | (
       go_at_call 43; refine hP2.mono ?_; rintro e w8 ⟨rfl, H8⟩; clear hP2
       have HM8 := hid (HM7.out.go H8.out.1 H8.out.2)
       have q4 : w8.cell? ⟨w5.heap.size, 4, none⟩ = some (.int .i64 0) := HM8.out.m.c 4 (by omega)
       have q5 : w8.cell? ⟨w5.heap.size, 5, none⟩ = some (.int .i64 0) := HM8.out.m.c 5 (by omega)
       have f4 := HM8.out.m.f 4
       have f5 := HM8.out.m.f 5
       have HM9 := hid ((HM8.out.set 4 (.int .i64 R.1.1)).set 5 (.int .i64 R.1.2))
       have hY1 := bytesR 4104 HM9.out.s.rd (by omega) (by omega)
       rw [hY] at hY1
       clear H8 HM7 HM8)
    | (
       go_at_call 44; refine hY1.mono ?_; rintro e w10 ⟨y10, m10, c10, rfl, H10⟩; clear hY1
       have HM10 := hid (HM9.out.go H10.out.1 H10.out.2.1)
       have q0 : w10.cell? ⟨w5.heap.size, 0, none⟩ = some (.int .i64 (kk : Nat)) := HM10.out.m.c 0 (by omega)
       have q1 : w10.cell? ⟨w5.heap.size, 1, none⟩ = some (.int .i64 (U.1 : Nat)) := HM10.out.m.c 1 (by omega)
       have q2 : w10.cell? ⟨w5.heap.size, 2, none⟩ = some (.int .i64 P.1.1) := HM10.out.m.c 2 (by omega)
       have q3 : w10.cell? ⟨w5.heap.size, 3, none⟩ = some (.int .i64 P.1.2) := HM10.out.m.c 3 (by omega)
       have q4 : w10.cell? ⟨w5.heap.size, 4, none⟩ = some (.int .i64 R.1.1) := HM10.out.m.c 4 (by omega)
       have q5 : w10.cell? ⟨w5.heap.size, 5, none⟩ = some (.int .i64 R.1.2) := HM10.out.m.c 5 (by omega)
       have q6 : w10.cell? ⟨w5.heap.size, 6, none⟩ = some (.slice none 0 0) := HM10.out.m.c 6 (by omega)
       have q7 : w10.cell? ⟨w5.heap.size, 7, none⟩ = some (.int .i64 0) := HM10.out.m.c 7 (by omega)
       have q8 : w10.cell? ⟨w5.heap.size, 8, none⟩ = some (.slice none 0 0) := HM10.out.m.c 8 (by omega)
       have f6 := HM10.out.m.f 6
       have HM11 := hid (HM10.out.set 6 (.slice y10 m10 c10))
       have HS11 : Hid (Fl.Sl (w10.setCell ⟨w5.heap.size, 6, none⟩ (.slice y10 m10 c10)) y10 m10 c10 Y.1 ∧ m10 = Y.1.length ∧ ∀ a, y10 = some a → w.heap.size < a.block ∧ Tb (w10.setCell ⟨w5.heap.size, 6, none⟩ (.slice y10 m10 c10)) a.block 5) := by
         have hb1 : w.heap.size < ((w8.setCell ⟨w5.heap.size, 4, none⟩ (.int .i64 R.1.1)).setCell ⟨w5.heap.size, 5, none⟩ (.int .i64 R.1.2)).heap.size := by have h1 := HM9.out.s.wp; have h2 := HM9.out.s.pN; have h3 := HM9.out.s.Nw; omega
         have t9 : Turns (atB w5.heap.size) w10 (w10.setCell ⟨w5.heap.size, 6, none⟩ (.slice y10 m10 c10)) := turns_put (Turns.refl _ w10) 6 _
         have hne : ∀ a, y10 = some a → ¬ atB w5.heap.size a.block := fun a ha e => by
           have e2 : a.block = w5.heap.size := e
           have h1 := (H10.out.2.2.2 a ha).1
           have h2 := HM9.out.lt
           omega
         refine ⟨H10.out.2.2.1.turns t9 (fun _ => hne), H10.out.2.2.1.len.symm, fun a ha => ⟨Nat.lt_of_lt_of_le hb1 (H10.out.2.2.2 a ha).1, (H10.out.2.2.2 a ha).2.of_heap (t9.block _ (H10.out.2.2.2 a ha).2.lt (hne a ha))⟩⟩
       have hDn := doneR HM11.out.s.rd
       rw [ho] at hDn
       clear H10 HM9 hA hK hU hP hR2 hY)
    | (
       go_at_call 45; refine hDn.mono ?_; rintro e wd ⟨rfl, hwd⟩; subst wd; clear hDn
       have zc0 : w10.cell? ⟨w.heap.size, 0, none⟩ = some (.int .i64 0) := HM10.out.s.z.c 0 (by omega)
       have g0 := HM10.out.s.z.f 0
       have zc1 : w10.cell? ⟨w.heap.size, 1, none⟩ = some (.int .i64 0) := HM10.out.s.z.c 1 (by omega)
       have g1 := HM10.out.s.z.f 1
       have zc2 : w10.cell? ⟨w.heap.size, 2, none⟩ = some (.int .i64 0) := HM10.out.s.z.c 2 (by omega)
       have g2 := HM10.out.s.z.f 2
       have zc3 : w10.cell? ⟨w.heap.size, 3, none⟩ = some (.int .i64 0) := HM10.out.s.z.c 3 (by omega)
       have g3 := HM10.out.s.z.f 3
       have zc4 : w10.cell? ⟨w.heap.size, 4, none⟩ = some (.int .i64 0) := HM10.out.s.z.c 4 (by omega)
       have g4 := HM10.out.s.z.f 4
       have zc5 : w10.cell? ⟨w.heap.size, 5, none⟩ = some (.int .i64 0) := HM10.out.s.z.c 5 (by omega)
       have g5 := HM10.out.s.z.f 5
       have zc6 : w10.cell? ⟨w.heap.size, 6, none⟩ = some (.slice none 0 0) := HM10.out.s.z.c 6 (by omega)
       have g6 := HM10.out.s.z.f 6
       have zc7 : w10.cell? ⟨w.heap.size, 7, none⟩ = some (.int .i64 0) := HM10.out.s.z.c 7 (by omega)
       have g7 := HM10.out.s.z.f 7
       have zc8 : w10.cell? ⟨w.heap.size, 8, none⟩ = some (.slice none 0 0) := HM10.out.s.z.c 8 (by omega)
       have g8 := HM10.out.s.z.f 8))
  refine bodyPost_ret (v := .tuple #[mv noMs none 0 none 0, .bool false]) ?_ rfl ⟨rfl, ?_⟩
  · rw [results_cell2 rfl]
    dsimp only [mv, noMs, noAc, z0, List.length_nil]
    go_simp
  · show Below _ _ _
    have BB := HM10.out.s.bel
    repeat (first | with_reducible exact BB | (with_reducible refine Below.setCell ?_ (by first | (simp; done) | (simp; omega) | omega) _) | (with_reducible refine Below.alloc ?_ (by first | (simp; done) | (simp; omega) | omega) _))

set_option maxHeartbeats 3200000 in
theorem dec_ko_may (x : Option Addr) (nn c : Nat) (l : List Nat) (n fr : Nat) (hn7 : n ≤ 7) (w : World) (hl : Fl.Sl w x nn c l) (hnn : nn ≤ 140737488351232) (hse : isSealed l = true)
    (A : Nat × List Nat × Nat) (hA : rNum ((n : Int) - 1) (l.take (nn - 8)) 0 = A) (K : Nat × List Nat × Nat) (hK : rNum 5 A.2.1 A.2.2 = K) (U : Nat × List Nat × Nat) (hU : rNum 2147483647 K.2.1 K.2.2 = U) (hUb : U.1 ≤ 2147483647) (kk : Nat) (hk4 : ((kk : Int) == 4) = false) (hk5 : ((kk : Int) == 5) = false) (hkk : K.1 = kk) (P : Bt × List Nat × Nat) (hP : rBal n U.2.1 U.2.2 = P) (R : Bt × List Nat × Nat) (hR2 : rBal n P.2.1 P.2.2 = R) (Y : List Nat × List Nat × Nat) (hY : rBy 4104 R.2.1 R.2.2 = Y) (hYl : Y.1.length ≤ 4104)
    (ho : rDone Y.2.1 Y.2.2 = 0) (hfr : A.1 = fr) (hm : mayM ⟨kk, U.1, ⟨P.1, R.1, Y.1⟩, 0, []⟩ fr n = false) :
    Calls Try.prog 29 #[.slice x nn c, .int .i64 fr, .int .i64 n] w fun e w' => e = .returned (.tuple #[mv noMs none 0 none 0, .bool false]) ∧ Hid (Below w.heap.size w w') := by
  have hUn := fun (W : World) (h : Below w.heap.size w W) => unsealed_any x nn c l W (hl.below h) hnn
  rw [hse] at hUn
  have nI : (n : Int) ≤ 7 := by omega
  skip
  obtain ⟨K1, K2⟩ := K
  dsimp only at hkk hU
  have hkk2 : kk = K1 := hkk.symm
  clear hkk
  subst hkk2
  obtain ⟨A1, A2⟩ := A
  dsimp only at hfr hK
  subst hfr
  clear hl hse
  go_enter Try.func29, Try.ntmps29
  go_wp2_with (first
    | (
       go_at_call 38; refine (hUn _ (al _ _)).mono ?_; rintro e w1 ⟨y1, m1, c1, rfl, H1⟩; clear hUn
       have hR := readR y1 m1 c1 _ w1 (H1.out.2 rfl).2 (by have := (H1.out.2 rfl).1; omega)
       have HZ1 : Hid (Below w.heap.size w w1 ∧ Nine w1 w.heap.size zero9) := ⟨on (al _ _) H1.out.1, (Nine.new w _ _ _ _ _ _ _ _ _ _).keep (Turns.of_below (F := fun _ => False) H1.out.1) (fun h => h)⟩
       have lw1 : w.heap.size < w1.heap.size := by have := H1.out.1.size; simp at this; omega)
    | (
       go_at_call 39; refine hR.mono ?_; rintro e w2 ⟨p, rfl, H2⟩; clear hR
       have HD2 : Hid (DS w w2 p w2.heap.size (l.take (nn - 8)) 0) := ⟨on HZ1.out.1 H2.out.2.1, HZ1.out.2.keep (Turns.of_below (F := fun _ => False) H2.out.2.1) (fun h => h), H2.out.2.2, by have := H2.out.1; omega, H2.out.2.2.lt, Nat.le_refl _⟩
       have hN1 := fun (W : World) (h : Rdr W p w2.heap.size (l.take (nn - 8)) 0) => numR ((n : Int) - 1) h (by omega) (by omega)
       rw [hA] at hN1
       clear HZ1 H1 H2)
    | (
       go_at_call 40; refine (hN1 _ HD2.out.rd).mono ?_; rintro e w3 ⟨rfl, H3⟩; clear hN1
       have HD3 := hid (HD2.out.go H3.out.1 H3.out.2)
       have hN2 := numR 5 H3.out.2 (by omega) (by omega)
       rw [hK] at hN2
       clear H3)
    | (
       go_at_call 40; refine hN2.mono ?_; rintro e w4 ⟨rfl, H4⟩; clear hN2
       have HD4 := hid (HD3.out.go H4.out.1 H4.out.2)
       have hN3 := numR 2147483647 H4.out.2 (by omega) (by omega)
       rw [hU] at hN3
       clear H4)
    | (
       go_at_call 40; refine hN3.mono ?_; rintro e w5 ⟨rfl, H5⟩; clear hN3
       have HM5 := hid (DM.new (HD4.out.go H5.out.1 H5.out.2) 76 (.int .i64 (kk : Nat)) (.int .i64 (U.1 : Nat)) (.int .i64 0) (.int .i64 0) (.int .i64 0) (.int .i64 0) (.slice none 0 0) (.int .i64 0) (.slice none 0 0))
       have HD5 := hid (HD4.out.go H5.out.1 H5.out.2)
       have l5 : w.heap.size < w5.heap.size := by have h1 := HD5.out.wp; have h2 := HD5.out.pN; have h3 := HD5.out.Nw; omega
       have ne5 : w.heap.size ≠ w5.heap.size := by omega
       clear H5 HD2 HD3 HD4
       have hP1 := rbal_any n hn7 HM5.out.s.rd HM5.out.s.Nw
       rw [hP] at hP1)
    | (
       go_at_call 43; refine hP1.mono ?_; rintro e w6 ⟨rfl, H6⟩; clear hP1
       have HM6 := hid (HM5.out.go H6.out.1 H6.out.2)
       have q2 : w6.cell? ⟨w5.heap.size, 2, none⟩ = some (.int .i64 0) := HM6.out.m.c 2 (by omega)
       have q3 : w6.cell? ⟨w5.heap.size, 3, none⟩ = some (.int .i64 0) := HM6.out.m.c 3 (by omega)
       have f2 := HM6.out.m.f 2
       have f3 := HM6.out.m.f 3
       have HM7 := hid ((HM6.out.set 2 (.int .i64 P.1.1)).set 3 (.int .i64 P.1.2))
       have hP2 := rbal_any n hn7 HM7.out.s.rd HM7.out.s.Nw
       rw [hR2] at hP2
       dsimp only [bt] at hP2 ⊢
       clear H6 HM5 HM6)
    | (
       go_at_call 43; refine hP2.mono ?_; rintro e w8 ⟨rfl, H8⟩; clear hP2
       have HM8 := hid (HM7.out.go H8.out.1 H8.out.2)
       have q4 : w8.cell? ⟨w5.heap.size, 4, none⟩ = some (.int .i64 0) := HM8.out.m.c 4 (by omega)
       have q5 : w8.cell? ⟨w5.heap.size, 5, none⟩ = some (.int .i64 0) := HM8.out.m.c 5 (by omega)
       have f4 := HM8.out.m.f 4
       have f5 := HM8.out.m.f 5
       have HM9 := hid ((HM8.out.set 4 (.int .i64 R.1.1)).set 5 (.int .i64 R.1.2))
       have hY1 := bytesR 4104 HM9.out.s.rd (by omega) (by omega)
       rw [hY] at hY1
       clear H8 HM7 HM8)
    | (
       go_at_call 44; refine hY1.mono ?_; rintro e w10 ⟨y10, m10, c10, rfl, H10⟩; clear hY1
       have HM10 := hid (HM9.out.go H10.out.1 H10.out.2.1)
       have q0 : w10.cell? ⟨w5.heap.size, 0, none⟩ = some (.int .i64 (kk : Nat)) := HM10.out.m.c 0 (by omega)
       have q1 : w10.cell? ⟨w5.heap.size, 1, none⟩ = some (.int .i64 (U.1 : Nat)) := HM10.out.m.c 1 (by omega)
       have q2 : w10.cell? ⟨w5.heap.size, 2, none⟩ = some (.int .i64 P.1.1) := HM10.out.m.c 2 (by omega)
       have q3 : w10.cell? ⟨w5.heap.size, 3, none⟩ = some (.int .i64 P.1.2) := HM10.out.m.c 3 (by omega)
       have q4 : w10.cell? ⟨w5.heap.size, 4, none⟩ = some (.int .i64 R.1.1) := HM10.out.m.c 4 (by omega)
       have q5 : w10.cell? ⟨w5.heap.size, 5, none⟩ = some (.int .i64 R.1.2) := HM10.out.m.c 5 (by omega)
       have q6 : w10.cell? ⟨w5.heap.size, 6, none⟩ = some (.slice none 0 0) := HM10.out.m.c 6 (by omega)
       have q7 : w10.cell? ⟨w5.heap.size, 7, none⟩ = some (.int .i64 0) := HM10.out.m.c 7 (by omega)
       have q8 : w10.cell? ⟨w5.heap.size, 8, none⟩ = some (.slice none 0 0) := HM10.out.m.c 8 (by omega)
       have f6 := HM10.out.m.f 6
       have HM11 := hid (HM10.out.set 6 (.slice y10 m10 c10))
       have HS11 : Hid (Fl.Sl (w10.setCell ⟨w5.heap.size, 6, none⟩ (.slice y10 m10 c10)) y10 m10 c10 Y.1 ∧ m10 = Y.1.length ∧ ∀ a, y10 = some a → w.heap.size < a.block ∧ Tb (w10.setCell ⟨w5.heap.size, 6, none⟩ (.slice y10 m10 c10)) a.block 5) := by
         have hb1 : w.heap.size < ((w8.setCell ⟨w5.heap.size, 4, none⟩ (.int .i64 R.1.1)).setCell ⟨w5.heap.size, 5, none⟩ (.int .i64 R.1.2)).heap.size := by have h1 := HM9.out.s.wp; have h2 := HM9.out.s.pN; have h3 := HM9.out.s.Nw; omega
         have t9 : Turns (atB w5.heap.size) w10 (w10.setCell ⟨w5.heap.size, 6, none⟩ (.slice y10 m10 c10)) := turns_put (Turns.refl _ w10) 6 _
         have hne : ∀ a, y10 = some a → ¬ atB w5.heap.size a.block := fun a ha e => by
           have e2 : a.block = w5.heap.size := e
           have h1 := (H10.out.2.2.2 a ha).1
           have h2 := HM9.out.lt
           omega
         refine ⟨H10.out.2.2.1.turns t9 (fun _ => hne), H10.out.2.2.1.len.symm, fun a ha => ⟨Nat.lt_of_lt_of_le hb1 (H10.out.2.2.2 a ha).1, (H10.out.2.2.2 a ha).2.of_heap (t9.block _ (H10.out.2.2.2 a ha).2.lt (hne a ha))⟩⟩
       have hDn := doneR HM11.out.s.rd
       rw [ho] at hDn
       clear H10 HM9 hA hK hU hP hR2 hY)
    | (
       go_at_call 45; refine hDn.mono ?_; rintro e wd ⟨rfl, hwd⟩; subst wd; clear hDn
       have hMM := mmay_any ⟨kk, U.1, ⟨P.1, R.1, Y.1⟩, 0, []⟩ y10 none c10 0 A1 n hn7 (w10.setCell ⟨w5.heap.size, 6, none⟩ (.slice y10 m10 c10)) (by show Fl.Sl _ y10 Y.1.length c10 Y.1; rw [← HS11.out.2.1]; exact HS11.out.1) (by show Y.1.length ≤ 5000; have := hYl; omega) (.inl rfl) (by show (0 : Nat) ≤ 1000; omega)
       rw [hm] at hMM
       dsimp only [mv, noAc, z0, List.length_nil] at hMM
       rw [← HS11.out.2.1] at hMM)
    | (
       go_at_call 46; refine hMM.mono ?_; rintro e w20 ⟨rfl, H20⟩; clear hMM
       have HM20 := hid (HM11.out.box H20.out)
       have zc0 : w20.cell? ⟨w.heap.size, 0, none⟩ = some (.int .i64 0) := HM20.out.s.z.c 0 (by omega)
       have g0 := HM20.out.s.z.f 0
       have zc1 : w20.cell? ⟨w.heap.size, 1, none⟩ = some (.int .i64 0) := HM20.out.s.z.c 1 (by omega)
       have g1 := HM20.out.s.z.f 1
       have zc2 : w20.cell? ⟨w.heap.size, 2, none⟩ = some (.int .i64 0) := HM20.out.s.z.c 2 (by omega)
       have g2 := HM20.out.s.z.f 2
       have zc3 : w20.cell? ⟨w.heap.size, 3, none⟩ = some (.int .i64 0) := HM20.out.s.z.c 3 (by omega)
       have g3 := HM20.out.s.z.f 3
       have zc4 : w20.cell? ⟨w.heap.size, 4, none⟩ = some (.int .i64 0) := HM20.out.s.z.c 4 (by omega)
       have g4 := HM20.out.s.z.f 4
       have zc5 : w20.cell? ⟨w.heap.size, 5, none⟩ = some (.int .i64 0) := HM20.out.s.z.c 5 (by omega)
       have g5 := HM20.out.s.z.f 5
       have zc6 : w20.cell? ⟨w.heap.size, 6, none⟩ = some (.slice none 0 0) := HM20.out.s.z.c 6 (by omega)
       have g6 := HM20.out.s.z.f 6
       have zc7 : w20.cell? ⟨w.heap.size, 7, none⟩ = some (.int .i64 0) := HM20.out.s.z.c 7 (by omega)
       have g7 := HM20.out.s.z.f 7
       have zc8 : w20.cell? ⟨w.heap.size, 8, none⟩ = some (.slice none 0 0) := HM20.out.s.z.c 8 (by omega)
       have g8 := HM20.out.s.z.f 8))
  refine bodyPost_ret (v := .tuple #[mv noMs none 0 none 0, .bool false]) ?_ rfl ⟨rfl, ?_⟩
  · rw [results_cell2 rfl]
    dsimp only [mv, noMs, noAc, z0, List.length_nil]
    go_simp
  · show Below _ _ _
    have BB := HM20.out.s.bel
    repeat (first | with_reducible exact BB | (with_reducible refine Below.setCell ?_ (by first | (simp; done) | (simp; omega) | omega) _) | (with_reducible refine Below.alloc ?_ (by first | (simp; done) | (simp; omega) | omega) _))

set_option maxHeartbeats 3200000 in
theorem dec_ko_yes (x : Option Addr) (nn c : Nat) (l : List Nat) (n fr : Nat) (hn7 : n ≤ 7) (w : World) (hl : Fl.Sl w x nn c l) (hnn : nn ≤ 140737488351232) (hse : isSealed l = true)
    (A : Nat × List Nat × Nat) (hA : rNum ((n : Int) - 1) (l.take (nn - 8)) 0 = A) (K : Nat × List Nat × Nat) (hK : rNum 5 A.2.1 A.2.2 = K) (U : Nat × List Nat × Nat) (hU : rNum 2147483647 K.2.1 K.2.2 = U) (hUb : U.1 ≤ 2147483647) (kk : Nat) (hk4 : ((kk : Int) == 4) = false) (hk5 : ((kk : Int) == 5) = false) (hkk : K.1 = kk) (P : Bt × List Nat × Nat) (hP : rBal n U.2.1 U.2.2 = P) (R : Bt × List Nat × Nat) (hR2 : rBal n P.2.1 P.2.2 = R) (Y : List Nat × List Nat × Nat) (hY : rBy 4104 R.2.1 R.2.2 = Y) (hYl : Y.1.length ≤ 4104)
    (ho : rDone Y.2.1 Y.2.2 = 0) (hfr : A.1 = fr) (hm : mayM ⟨kk, U.1, ⟨P.1, R.1, Y.1⟩, 0, []⟩ fr n = true) :
    Calls Try.prog 29 #[.slice x nn c, .int .i64 fr, .int .i64 n] w fun e w' => ∃ x c y cy, e = .returned (.tuple #[mv ⟨kk, U.1, ⟨P.1, R.1, Y.1⟩, 0, []⟩ x c y cy, .bool true]) ∧ Hid (Below w.heap.size w w' ∧ MGot w w' ⟨kk, U.1, ⟨P.1, R.1, Y.1⟩, 0, []⟩ x c y cy) := by
  have hUn := fun (W : World) (h : Below w.heap.size w W) => unsealed_any x nn c l W (hl.below h) hnn
  rw [hse] at hUn
  have nI : (n : Int) ≤ 7 := by omega
  skip
  obtain ⟨K1, K2⟩ := K
  dsimp only at hkk hU
  have hkk2 : kk = K1 := hkk.symm
  clear hkk
  subst hkk2
  obtain ⟨A1, A2⟩ := A
  dsimp only at hfr hK
  subst hfr
  clear hl hse
  go_enter Try.func29, Try.ntmps29
  go_wp2_with (first
    | (
       go_at_call 38; refine (hUn _ (al _ _)).mono ?_; rintro e w1 ⟨y1, m1, c1, rfl, H1⟩; clear hUn
       have hR := readR y1 m1 c1 _ w1 (H1.out.2 rfl).2 (by have := (H1.out.2 rfl).1; omega)
       have HZ1 : Hid (Below w.heap.size w w1 ∧ Nine w1 w.heap.size zero9) := ⟨on (al _ _) H1.out.1, (Nine.new w _ _ _ _ _ _ _ _ _ _).keep (Turns.of_below (F := fun _ => False) H1.out.1) (fun h => h)⟩
       have lw1 : w.heap.size < w1.heap.size := by have := H1.out.1.size; simp at this; omega)
    | (
       go_at_call 39; refine hR.mono ?_; rintro e w2 ⟨p, rfl, H2⟩; clear hR
       have HD2 : Hid (DS w w2 p w2.heap.size (l.take (nn - 8)) 0) := ⟨on HZ1.out.1 H2.out.2.1, HZ1.out.2.keep (Turns.of_below (F := fun _ => False) H2.out.2.1) (fun h => h), H2.out.2.2, by have := H2.out.1; omega, H2.out.2.2.lt, Nat.le_refl _⟩
       have hN1 := fun (W : World) (h : Rdr W p w2.heap.size (l.take (nn - 8)) 0) => numR ((n : Int) - 1) h (by omega) (by omega)
       rw [hA] at hN1
       clear HZ1 H1 H2)
    | (
       go_at_call 40; refine (hN1 _ HD2.out.rd).mono ?_; rintro e w3 ⟨rfl, H3⟩; clear hN1
       have HD3 := hid (HD2.out.go H3.out.1 H3.out.2)
       have hN2 := numR 5 H3.out.2 (by omega) (by omega)
       rw [hK] at hN2
       clear H3)
    | (
       go_at_call 40; refine hN2.mono ?_; rintro e w4 ⟨rfl, H4⟩; clear hN2
       have HD4 := hid (HD3.out.go H4.out.1 H4.out.2)
       have hN3 := numR 2147483647 H4.out.2 (by omega) (by omega)
       rw [hU] at hN3
       clear H4)
    | (
       go_at_call 40; refine hN3.mono ?_; rintro e w5 ⟨rfl, H5⟩; clear hN3
       have HM5 := hid (DM.new (HD4.out.go H5.out.1 H5.out.2) 76 (.int .i64 (kk : Nat)) (.int .i64 (U.1 : Nat)) (.int .i64 0) (.int .i64 0) (.int .i64 0) (.int .i64 0) (.slice none 0 0) (.int .i64 0) (.slice none 0 0))
       have HD5 := hid (HD4.out.go H5.out.1 H5.out.2)
       have l5 : w.heap.size < w5.heap.size := by have h1 := HD5.out.wp; have h2 := HD5.out.pN; have h3 := HD5.out.Nw; omega
       have ne5 : w.heap.size ≠ w5.heap.size := by omega
       clear H5 HD2 HD3 HD4
       have hP1 := rbal_any n hn7 HM5.out.s.rd HM5.out.s.Nw
       rw [hP] at hP1)
    | (
       go_at_call 43; refine hP1.mono ?_; rintro e w6 ⟨rfl, H6⟩; clear hP1
       have HM6 := hid (HM5.out.go H6.out.1 H6.out.2)
       have q2 : w6.cell? ⟨w5.heap.size, 2, none⟩ = some (.int .i64 0) := HM6.out.m.c 2 (by omega)
       have q3 : w6.cell? ⟨w5.heap.size, 3, none⟩ = some (.int .i64 0) := HM6.out.m.c 3 (by omega)
       have f2 := HM6.out.m.f 2
       have f3 := HM6.out.m.f 3
       have HM7 := hid ((HM6.out.set 2 (.int .i64 P.1.1)).set 3 (.int .i64 P.1.2))
       have hP2 := rbal_any n hn7 HM7.out.s.rd HM7.out.s.Nw
       rw [hR2] at hP2
       dsimp only [bt] at hP2 ⊢
       clear H6 HM5 HM6)
    | (
       go_at_call 43; refine hP2.mono ?_; rintro e w8 ⟨rfl, H8⟩; clear hP2
       have HM8 := hid (HM7.out.go H8.out.1 H8.out.2)
       have q4 : w8.cell? ⟨w5.heap.size, 4, none⟩ = some (.int .i64 0) := HM8.out.m.c 4 (by omega)
       have q5 : w8.cell? ⟨w5.heap.size, 5, none⟩ = some (.int .i64 0) := HM8.out.m.c 5 (by omega)
       have f4 := HM8.out.m.f 4
       have f5 := HM8.out.m.f 5
       have HM9 := hid ((HM8.out.set 4 (.int .i64 R.1.1)).set 5 (.int .i64 R.1.2))
       have hY1 := bytesR 4104 HM9.out.s.rd (by omega) (by omega)
       rw [hY] at hY1
       clear H8 HM7 HM8)
    | (
       go_at_call 44; refine hY1.mono ?_; rintro e w10 ⟨y10, m10, c10, rfl, H10⟩; clear hY1
       have HM10 := hid (HM9.out.go H10.out.1 H10.out.2.1)
       have q0 : w10.cell? ⟨w5.heap.size, 0, none⟩ = some (.int .i64 (kk : Nat)) := HM10.out.m.c 0 (by omega)
       have q1 : w10.cell? ⟨w5.heap.size, 1, none⟩ = some (.int .i64 (U.1 : Nat)) := HM10.out.m.c 1 (by omega)
       have q2 : w10.cell? ⟨w5.heap.size, 2, none⟩ = some (.int .i64 P.1.1) := HM10.out.m.c 2 (by omega)
       have q3 : w10.cell? ⟨w5.heap.size, 3, none⟩ = some (.int .i64 P.1.2) := HM10.out.m.c 3 (by omega)
       have q4 : w10.cell? ⟨w5.heap.size, 4, none⟩ = some (.int .i64 R.1.1) := HM10.out.m.c 4 (by omega)
       have q5 : w10.cell? ⟨w5.heap.size, 5, none⟩ = some (.int .i64 R.1.2) := HM10.out.m.c 5 (by omega)
       have q6 : w10.cell? ⟨w5.heap.size, 6, none⟩ = some (.slice none 0 0) := HM10.out.m.c 6 (by omega)
       have q7 : w10.cell? ⟨w5.heap.size, 7, none⟩ = some (.int .i64 0) := HM10.out.m.c 7 (by omega)
       have q8 : w10.cell? ⟨w5.heap.size, 8, none⟩ = some (.slice none 0 0) := HM10.out.m.c 8 (by omega)
       have f6 := HM10.out.m.f 6
       have HM11 := hid (HM10.out.set 6 (.slice y10 m10 c10))
       have HS11 : Hid (Fl.Sl (w10.setCell ⟨w5.heap.size, 6, none⟩ (.slice y10 m10 c10)) y10 m10 c10 Y.1 ∧ m10 = Y.1.length ∧ ∀ a, y10 = some a → w.heap.size < a.block ∧ Tb (w10.setCell ⟨w5.heap.size, 6, none⟩ (.slice y10 m10 c10)) a.block 5) := by
         have hb1 : w.heap.size < ((w8.setCell ⟨w5.heap.size, 4, none⟩ (.int .i64 R.1.1)).setCell ⟨w5.heap.size, 5, none⟩ (.int .i64 R.1.2)).heap.size := by have h1 := HM9.out.s.wp; have h2 := HM9.out.s.pN; have h3 := HM9.out.s.Nw; omega
         have t9 : Turns (atB w5.heap.size) w10 (w10.setCell ⟨w5.heap.size, 6, none⟩ (.slice y10 m10 c10)) := turns_put (Turns.refl _ w10) 6 _
         have hne : ∀ a, y10 = some a → ¬ atB w5.heap.size a.block := fun a ha e => by
           have e2 : a.block = w5.heap.size := e
           have h1 := (H10.out.2.2.2 a ha).1
           have h2 := HM9.out.lt
           omega
         refine ⟨H10.out.2.2.1.turns t9 (fun _ => hne), H10.out.2.2.1.len.symm, fun a ha => ⟨Nat.lt_of_lt_of_le hb1 (H10.out.2.2.2 a ha).1, (H10.out.2.2.2 a ha).2.of_heap (t9.block _ (H10.out.2.2.2 a ha).2.lt (hne a ha))⟩⟩
       have hDn := doneR HM11.out.s.rd
       rw [ho] at hDn
       clear H10 HM9 hA hK hU hP hR2 hY)
    | (
       go_at_call 45; refine hDn.mono ?_; rintro e wd ⟨rfl, hwd⟩; subst wd; clear hDn
       have hMM := mmay_any ⟨kk, U.1, ⟨P.1, R.1, Y.1⟩, 0, []⟩ y10 none c10 0 A1 n hn7 (w10.setCell ⟨w5.heap.size, 6, none⟩ (.slice y10 m10 c10)) (by show Fl.Sl _ y10 Y.1.length c10 Y.1; rw [← HS11.out.2.1]; exact HS11.out.1) (by show Y.1.length ≤ 5000; have := hYl; omega) (.inl rfl) (by show (0 : Nat) ≤ 1000; omega)
       rw [hm] at hMM
       dsimp only [mv, noAc, z0, List.length_nil] at hMM
       rw [← HS11.out.2.1] at hMM)
    | (
       go_at_call 46; refine hMM.mono ?_; rintro e w20 ⟨rfl, H20⟩; clear hMM
       have HM20 := hid (HM11.out.box H20.out)
       have zc0 : w20.cell? ⟨w.heap.size, 0, none⟩ = some (.int .i64 0) := HM20.out.s.z.c 0 (by omega)
       have g0 := HM20.out.s.z.f 0
       have zc1 : w20.cell? ⟨w.heap.size, 1, none⟩ = some (.int .i64 0) := HM20.out.s.z.c 1 (by omega)
       have g1 := HM20.out.s.z.f 1
       have zc2 : w20.cell? ⟨w.heap.size, 2, none⟩ = some (.int .i64 0) := HM20.out.s.z.c 2 (by omega)
       have g2 := HM20.out.s.z.f 2
       have zc3 : w20.cell? ⟨w.heap.size, 3, none⟩ = some (.int .i64 0) := HM20.out.s.z.c 3 (by omega)
       have g3 := HM20.out.s.z.f 3
       have zc4 : w20.cell? ⟨w.heap.size, 4, none⟩ = some (.int .i64 0) := HM20.out.s.z.c 4 (by omega)
       have g4 := HM20.out.s.z.f 4
       have zc5 : w20.cell? ⟨w.heap.size, 5, none⟩ = some (.int .i64 0) := HM20.out.s.z.c 5 (by omega)
       have g5 := HM20.out.s.z.f 5
       have zc6 : w20.cell? ⟨w.heap.size, 6, none⟩ = some (.slice none 0 0) := HM20.out.s.z.c 6 (by omega)
       have g6 := HM20.out.s.z.f 6
       have zc7 : w20.cell? ⟨w.heap.size, 7, none⟩ = some (.int .i64 0) := HM20.out.s.z.c 7 (by omega)
       have g7 := HM20.out.s.z.f 7
       have zc8 : w20.cell? ⟨w.heap.size, 8, none⟩ = some (.slice none 0 0) := HM20.out.s.z.c 8 (by omega)
       have g8 := HM20.out.s.z.f 8
       have s0 : w20.cell? ⟨w5.heap.size, 0, none⟩ = some (.int .i64 (kk : Nat)) := HM20.out.m.c 0 (by omega)
       have s1 : w20.cell? ⟨w5.heap.size, 1, none⟩ = some (.int .i64 (U.1 : Nat)) := HM20.out.m.c 1 (by omega)
       have s2 : w20.cell? ⟨w5.heap.size, 2, none⟩ = some (.int .i64 P.1.1) := HM20.out.m.c 2 (by omega)
       have s3 : w20.cell? ⟨w5.heap.size, 3, none⟩ = some (.int .i64 P.1.2) := HM20.out.m.c 3 (by omega)
       have s4 : w20.cell? ⟨w5.heap.size, 4, none⟩ = some (.int .i64 R.1.1) := HM20.out.m.c 4 (by omega)
       have s5 : w20.cell? ⟨w5.heap.size, 5, none⟩ = some (.int .i64 R.1.2) := HM20.out.m.c 5 (by omega)
       have s6 : w20.cell? ⟨w5.heap.size, 6, none⟩ = some (.slice y10 m10 c10) := HM20.out.m.c 6 (by omega)
       have s7 : w20.cell? ⟨w5.heap.size, 7, none⟩ = some (.int .i64 0) := HM20.out.m.c 7 (by omega)
       have s8 : w20.cell? ⟨w5.heap.size, 8, none⟩ = some (.slice none 0 0) := HM20.out.m.c 8 (by omega)))
  refine bodyPost_ret (v := .tuple #[mv ⟨kk, U.1, ⟨P.1, R.1, Y.1⟩, 0, []⟩ y10 c10 none 0, .bool true]) ?_ rfl ⟨y10, c10, none, 0, rfl, ?_⟩
  · rw [results_cell2 rfl]
    dsimp only [mv, noAc, z0, List.length_nil]
    rw [← HS11.out.2.1]
    go_simp
  · suffices key : ∀ wF, Turns (atB w.heap.size) w20 wF → Below w.heap.size w wF ∧ MGot w wF ⟨kk, U.1, ⟨P.1, R.1, Y.1⟩, 0, []⟩ y10 c10 none 0 from key _ (turns_put (turns_put (turns_put (turns_put (turns_put (turns_put (turns_put (turns_put (turns_put (Turns.refl _ w20) 0 _) 1 _) 2 _) 3 _) 4 _) 5 _) 6 _) 7 _) 8 _)
    intro wF t9
    refine ⟨HM20.out.s.bel.trans (t9.below (fun k hk => by have e : k = w.heap.size := hk; omega) HM20.out.s.bel.size), ?_⟩
    have tb := (Turns.of_below (F := atB w.heap.size) H20.out).trans t9
    have hne : ∀ a, y10 = some a → ¬ atB w.heap.size a.block := fun a ha e => by
      have e2 : a.block = w.heap.size := e
      have h1 := (HS11.out.2.2 a ha).1
      omega
    refine ⟨?_, fun a ha => ⟨Nat.le_of_lt (HS11.out.2.2 a ha).1, (HS11.out.2.2 a ha).2.of_heap (tb.block _ (HS11.out.2.2 a ha).2.lt (hne a ha))⟩, Own.nil _ _ _ _ _⟩
    show Fl.Sl _ y10 Y.1.length c10 Y.1
    rw [← HS11.out.2.1]
    exact HS11.out.1.turns tb (fun _ => hne)

end Go.Proofs.Ytfgfjfemaniaiaa.Px
