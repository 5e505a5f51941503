/-
  3 texts of this proof, one behind the other: IvSameI, IvRefIv, IvRefIv2.
-/
import Derived.Test.YthlfmbijagpggaaGreatJIvEqual
import Derived.Test.YthlfmbijagpggaaGreatJPlRefUp
import Derived.Deep.RegionHeld3
import Derived.Test.YthlfmbijagpggaaGreatByHk
/-
  The document's SameInterval, and the statement's same: are intervals alike?
  Conditions: the lists lie in memory.
-/
namespace Go.Proofs.YthlfmbijagpggaaGreat.Iv
open Go.RowKit By Fl At Cr Pl
set_option linter.unusedVariables false
set_option linter.unusedSimpArgs false
set_option maxRecDepth 100000

set_option maxHeartbeats 3200000 in
theorem samei_any {w : World} {v u : SpV} (hv : SpAt w v) (hu : SpAt w u) (hs : v.s = u.s) :
    Calls Tryz.prog 12 #[vS v, vS u] w fun e w' => e = .returned (.bool true) ∧ Below w.heap.size w w' := by
  obtain ⟨⟨f1, f2, f3, f4, f5⟩, x1, n1, c1, x2, n2, c2, x3, n3, c3⟩ := v
  obtain ⟨⟨g1, g2, g3, g4, g5⟩, y1, m1, d1, y2, m2, d2, y3, m3, d3⟩ := u
  obtain ⟨a1, a2, a3, z1, z2, z3⟩ := hv
  obtain ⟨b1, b2, b3, _⟩ := hu
  injection hs with e1 e2 e3 e4 e5
  subst e1 e2 e3 e4 e5
  unfold vS
  dsimp only at a1 a2 a3 b1 b2 b3 z1 z2 z3 ⊢
  obtain ⟨w0, hw0⟩ : ∃ w0, w0 = (w.alloc (.cells #[.int .i64 f1, .int .i64 f2, .slice x1 n1 c1, .slice x2 n2 c2, .slice x3 n3 c3, .int .i64 (prm f3)] 36)).alloc (.cells #[.int .i64 f1, .int .i64 f2, .slice y1 m1 d1, .slice y2 m2 d2, .slice y3 m3 d3, .int .i64 (prm f3)] 36) := ⟨_, rfl⟩
  have b0 : Below w.heap.size w w0 := by rw [hw0]; exact on (al _ _) (al _ _)
  have p3 : w0.cell? ⟨w.heap.size, 3, none⟩ = some (.slice x2 n2 c2) := by rw [hw0]; go_simp
  have p4 : w0.cell? ⟨w.heap.size, 4, none⟩ = some (.slice x3 n3 c3) := by rw [hw0]; go_simp
  have q3 : w0.cell? ⟨w.heap.size + 1, 3, none⟩ = some (.slice y2 m2 d2) := by rw [hw0]; go_simp
  have q4 : w0.cell? ⟨w.heap.size + 1, 4, none⟩ = some (.slice y3 m3 d3) := by rw [hw0]; go_simp
  have cE1 := Iv.ints_any (a1.below b0) (b1.below b0) (by omega)
  rw [decide_eq_true rfl] at cE1
  have HE2 : Hid (∀ W, Below w0.heap.size w0 W → Calls Tryz.prog 13 #[.slice x2 n2 c2, .slice y2 m2 d2] W fun e w' => e = .returned (.bool true) ∧ Below W.heap.size W w') := fun W hb => by
    have := Iv.ints_any (a2.below (on b0 hb)) (b2.below (on b0 hb)) (by omega)
    rw [decide_eq_true rfl] at this
    exact this
  have HE3 : Hid (∀ W, Below w0.heap.size w0 W → Calls Tryz.prog 13 #[.slice x3 n3 c3, .slice y3 m3 d3] W fun e w' => e = .returned (.bool true) ∧ Below W.heap.size W w') := fun W hb => by
    have := Iv.ints_any (a3.below (on b0 hb)) (b3.below (on b0 hb)) (by omega)
    rw [decide_eq_true rfl] at this
    exact this
  have HC : Hid (∀ W, Below w0.heap.size w0 W → W.cell? ⟨w.heap.size, 3, none⟩ = some (.slice x2 n2 c2) ∧ W.cell? ⟨w.heap.size, 4, none⟩ = some (.slice x3 n3 c3) ∧ W.cell? ⟨w.heap.size + 1, 3, none⟩ = some (.slice y2 m2 d2) ∧ W.cell? ⟨w.heap.size + 1, 4, none⟩ = some (.slice y3 m3 d3)) := fun W hb => ⟨keep hb p3, keep hb p4, keep hb q3, keep hb q4⟩
  have HB := hid b0
  have HW := hid hw0
  rw [hw0] at cE1
  clear a1 a2 a3 b1 b2 b3 z1 z2 z3 b0 hw0 p3 p4 q3 q4
  go_enter Tryz.func12, Tryz.ntmps12
  go_wp2_with (go_at_call 13; refine cE1.mono ?_; rintro e w1 ⟨rfl, hb1⟩; clear cE1; rw [← HW.out] at hb1; obtain ⟨r3, r4, s3, s4⟩ := HC.out w1 hb1; have cE2 := HE2.out w1 hb1)
  go_wp2_with (go_at_call 13; refine cE2.mono ?_; rintro e w2 ⟨rfl, hb2⟩; clear cE2; have hb12 := on hb1 hb2; obtain ⟨r3', r4', s3', s4'⟩ := HC.out w2 hb12; have cE3 := HE3.out w2 hb12)
  go_wp2_with (go_at_call 13; refine cE3.mono ?_; rintro e w3 ⟨rfl, hb3⟩; clear cE3)
  go_ret
  exact ⟨rfl, on HB.out (on hb12 hb3)⟩

/- A list of intervals that is read. -/
structure Sps (w : World) (x : Option Addr) (n c : Nat) (LS : List SpV) : Prop where
  len : LS.length = n
  le : n ≤ 5000
  row : n = 0 ∨ ∃ g, x = some ⟨g, 0, none⟩ ∧ ∀ (k : Nat) (v : SpV), LS[k]? = some v → w.cell? ⟨g, k * 6, none⟩ = some (.int .i64 v.s.fr) ∧ w.cell? ⟨g, k * 6 + 1, none⟩ = some (.int .i64 v.s.til) ∧ w.cell? ⟨g, k * 6 + 2, none⟩ = some (.slice v.x1 v.n1 v.c1) ∧ w.cell? ⟨g, k * 6 + 3, none⟩ = some (.slice v.x2 v.n2 v.c2) ∧ w.cell? ⟨g, k * 6 + 4, none⟩ = some (.slice v.x3 v.n3 v.c3) ∧ w.cell? ⟨g, k * 6 + 5, none⟩ = some (.int .i64 (prm v.s.ac))
  each : ∀ v ∈ LS, SpAt w v

theorem Sps.below {w w' : World} {x : Option Addr} {n c : Nat} {LS : List SpV} (h : Sps w x n c LS) (hb : Below w.heap.size w w') : Sps w' x n c LS := by
  refine ⟨h.len, h.le, ?_, fun v hv => (h.each v hv).below hb⟩
  rcases h.row with e | ⟨g, e, hc⟩
  · exact .inl e
  · exact .inr ⟨g, e, fun k v hk => by
      obtain ⟨a0, a1, a2, a3, a4, a5⟩ := hc k v hk
      exact ⟨keep hb a0, keep hb a1, keep hb a2, keep hb a3, keep hb a4, keep hb a5⟩⟩

theorem own_sps {w : World} {B n c : Nat} {x : Option Addr} {LS : List SpV} (h : Fl.Own w B 36 6 enS (.slice x n c) LS) (hl : LS.length ≤ 5000) (he : ∀ v ∈ LS, SpAt w v) : Sps w x n c LS := by
  have hn := form_slice h
  refine ⟨hn, by omega, ?_, he⟩
  by_cases h0 : LS = []
  · left
    rw [h0] at hn
    exact hn.symm
  · obtain ⟨g, c6, e6, _, _, _, _⟩ := h.there h0
    injection e6 with e61 e62 e63
    subst e61
    exact .inr ⟨g, rfl, fun k v hk => cells6 h hk⟩

set_option maxHeartbeats 3200000 in
theorem same_yes {w : World} {x y : Option Addr} {n c n' c' : Nat} {A B : List SpV} (hA : Sps w x n c A) (hB : Sps w y n' c' B) (hs : A.map SpV.s = B.map SpV.s) :
    Calls Tryz.prog 11 #[.slice x n c, .slice y n' c'] w fun e w' => e = .returned (.bool true) ∧ Below w.heap.size w w' := by
  have hnn : n' = n := by
    have := congrArg List.length hs
    rw [List.length_map, List.length_map, hA.len, hB.len] at this
    exact this.symm
  subst hnn
  have hle := hA.le
  have HA := hid hA
  have HB := hid hB
  have HS := hid hs
  clear hA hB hs
  go_enter Tryz.func11, Tryz.ntmps11
  go_wp2_with fail
  have H0 : Hid (Below w.heap.size w w) := Below.refl _ _
  go_loopw [5] (fun i wr => ∃ k : Nat, k ≤ n' ∧ i = .int .i64 k ∧ Hid (Below w.heap.size w wr)) (fun i _ => n' - (intOf i).toNat)
  case atStart => exact ⟨0, by omega, rfl, H0.out⟩
  case round =>
    clear H0
    obtain ⟨k, hk, rfl, HR⟩ := hrel
    by_cases hlt : k < n'
    · have hkn : (k : Int) < (n' : Int) := by omega
      obtain ⟨v, hv⟩ : ∃ v, A[k]? = some v := ⟨A[k]'(by have := HA.out.len; omega), List.getElem?_eq_getElem (by have := HA.out.len; omega)⟩
      obtain ⟨u, hu⟩ : ∃ u, B[k]? = some u := ⟨B[k]'(by have := HB.out.len; omega), List.getElem?_eq_getElem (by have := HB.out.len; omega)⟩
      have hvu : v.s = u.s := by
        have h1 : (A.map SpV.s)[k]? = some v.s := by rw [List.getElem?_map, hv]; rfl
        have h2 : (B.map SpV.s)[k]? = some u.s := by rw [List.getElem?_map, hu]; rfl
        rw [HS.out, h2] at h1
        injection h1 with h1
        exact h1.symm
      rcases HA.out.row with e | ⟨ga, rfl, hca⟩
      · omega
      rcases HB.out.row with e | ⟨gb, rfl, hcb⟩
      · omega
      obtain ⟨a0, a1, a2, a3, a4, a5⟩ := hca k v hv
      obtain ⟨b0, b1, b2, b3, b4, b5⟩ := hcb k u hu
      have s0 := After.cell (keep HR.out a0)
      have s1 := After.cell (keep HR.out a1)
      have s2 := After.cell (keep HR.out a2)
      have s3 := After.cell (keep HR.out a3)
      have s4 := After.cell (keep HR.out a4)
      have s5 := After.cell (keep HR.out a5)
      have t0 := After.cell (keep HR.out b0)
      have t1 := After.cell (keep HR.out b1)
      have t2 := After.cell (keep HR.out b2)
      have t3 := After.cell (keep HR.out b3)
      have t4 := After.cell (keep HR.out b4)
      have t5 := After.cell (keep HR.out b5)
      have hI := fun p : After wr => samei_any ((HA.out.each v (List.mem_of_getElem? hv)).below (on HR.out p.h)) ((HB.out.each u (List.mem_of_getElem? hu)).below (on HR.out p.h)) hvu
      unfold vS at hI
      clear a0 a1 a2 a3 a4 a5 b0 b1 b2 b3 b4 b5 hca hcb hv hu hvu
      haveI := After.ne wr
      go_wp2_with fail
      refine wp_region_after (by kernel_rfl) (by kernel_rfl) ?_
      repeat (go_big_quiet_step ((go_at_call 12; refine Calls.after_of (hI _))))
      refine wpQuiet_nil ?_
      rintro _ ⟨p, rfl⟩
      go_wp2_with fail
      go_roundw
      case rel => exact ⟨k + 1, by omega, by go_num, on HR.out p.h⟩
      case measure => simp [intOf]; omega
    · have hk2 : k = n' := by omega
      subst hk2
      go_wp2_with fail
      go_ret
      exact ⟨rfl, HR.out⟩

end Go.Proofs.YthlfmbijagpggaaGreat.Iv

/-
  The document's Intervals.
  Conditions: the row of maps lies in memory, and they are maps, one behind the other.
-/
namespace Go.Proofs.YthlfmbijagpggaaGreat.Iv
open Go.RowKit By Fl At Cr Pl
set_option linter.unusedVariables false
set_option linter.unusedSimpArgs false
set_option maxRecDepth 100000

theorem push_i {w : World} {B : Nat} {R : Value} {L : List SpV} (h : Fl.Own w B 36 6 enS R L) (v : SpV) (hl : L.length ≤ 5000) (hB : B ≤ w.heap.size) :
    ∃ x' c' w3, (Builtin.append_ #[30, 30] 30 #[R, .slice (some ⟨w.heap.size, 0, none⟩) 1 1]).run Tryz.prog (w.alloc (.cells #[.int .i64 v.s.fr, .int .i64 v.s.til, .slice v.x1 v.n1 v.c1, .slice v.x2 v.n2 v.c2, .slice v.x3 v.n3 v.c3, .int .i64 (prm v.s.ac)] 36)) = .ok (.slice x' (L.length + 1) c') w3 ∧
      Hid (Fl.Own w3 B 36 6 enS (.slice x' (L.length + 1) c') (L ++ [v]) ∧ Turns (fun j => R.ownBlock = some j) w w3 ∧ ∀ g, (Value.slice x' (L.length + 1) c').ownBlock = some g → R.ownBlock = some g ∨ w.heap.size ≤ g) := by
  have b1 := al w (.cells #[.int .i64 v.s.fr, .int .i64 v.s.til, .slice v.x1 v.n1 v.c1, .slice v.x2 v.n2 v.c2, .slice v.x3 v.n3 v.c3, .int .i64 (prm v.s.ac)] 36)
  obtain ⟨x', c', w3, hap, HO⟩ := (h.below b1).push srow (by simp; omega) ⟨w.heap.size, 0, none⟩ 1 1 [v] rfl (fun j u hj => by
    rw [add_at, Nat.zero_add]
    rw [flat_one] at hj
    have hh : (w.alloc (.cells (cS v) 36)).heap[w.heap.size]? = some (.cells (cS v) 36 (0, 0)) := heap_alloc_new _ _
    exact cell_heap hh (by simpa [cS, enS] using hj)) (by omega)
  obtain ⟨o3, t3, n3⟩ := HO.out
  refine ⟨x', c', w3, hap, o3, (Turns.of_below b1).trans t3, fun g hg => ?_⟩
  rcases n3 g hg with e | e
  · exact .inl e
  · right
    rw [e]
    simp

def tilS (u : SpV) (z : Int) : SpV := ⟨⟨u.s.fr, z, u.s.ac, u.s.lv, u.s.bt⟩, u.x1, u.n1, u.c1, u.x2, u.n2, u.c2, u.x3, u.n3, u.c3⟩
theorem flat_til : ∀ (L : List SpV) (q : Nat) (u : SpV) (z : Int), L[q]? = some u → flat enS (L.set q (tilS u z)) = (flat enS L).set (q * 6 + 1) (.int .i64 z)
  | [], q, u, z, h => by simp at h
  | b :: L, 0, u, z, h => by
    injection h with h
    subst h
    simp [flat_cons, enS, tilS]
  | b :: L, q + 1, u, z, h => by
    rw [List.set_cons_succ, flat_cons, flat_cons, flat_til L q u z (by simpa using h), show (q + 1) * 6 + 1 = q * 6 + 1 + 1 + 1 + 1 + 1 + 1 + 1 by omega]
    simp [List.set_cons_succ, enS]
theorem own_til {w : World} {B g n c q : Nat} {L : List SpV} {u : SpV} (h : Fl.Own w B 36 6 enS (.slice (some ⟨g, 0, none⟩) n c) L) (hu : L[q]? = some u) (z : Int) : Fl.Own (w.setCell ⟨g, q * 6 + 1, none⟩ (.int .i64 z)) B 36 6 enS (.slice (some ⟨g, 0, none⟩) n c) (L.set q (tilS u z)) := by
  have hL := h.heap.1
  unfold Fl.Own at h ⊢
  rw [List.length_set, flat_til L q u z hu]
  rw [hL] at h ⊢
  exact own_setCell h _ _

/- What stands behind k maps. -/
structure Ri (w wr : World) (ms : List Mp) (pg : Int) (k : Nat) (R : Value) (LS : List SpV) : Prop where
  bel : Below w.heap.size w wr
  own : Fl.Own wr w.heap.size 36 6 enS R LS
  lst : LS.map SpV.s = ivs (ms.take k) pg
  spa : ∀ v ∈ LS, SpAt wr v ∧ ∀ j, blks v j → R.ownBlock ≠ some j

theorem Ri.len {w wr : World} {ms : List Mp} {pg : Int} {k : Nat} {R : Value} {LS : List SpV} (h : Ri w wr ms pg k R LS) : LS.length ≤ k := by
  have h1 := congrArg List.length h.lst
  rw [List.length_map] at h1
  have h2 := ivs_len (ms.take k) pg
  rw [List.length_take] at h2
  omega

theorem ivs_next {ms : List Mp} {pg : Int} {k : Nat} {m : Mp} (hm : ms[k]? = some m) : ivs (ms.take (k + 1)) pg = snc (ivs (ms.take k) pg) (mom m pg) := by
  rw [List.take_add_one, hm]
  exact ivs_snoc _ _ _

/- One more behind the list. -/
theorem Ri.push {w wr w1 : World} {ms : List Mp} {pg : Int} {k : Nat} {R : Value} {LS : List SpV} {m : Mp} {v : SpV} (h : Ri w wr ms pg k R LS) (hk : k ≤ 4096) (hm : ms[k]? = some m) (hs : v.s = mom m pg) (hb : Below wr.heap.size wr w1) (hsp : SpAt w1 v) (hnew : ∀ j, blks v j → wr.heap.size ≤ j) (hcase : LS = [] ∨ ∃ M u, LS = M ++ [u] ∧ lik u.s (mom m pg) = false) :
    ∃ x' n' c' w3, (Builtin.append_ #[30, 30] 30 #[R, .slice (some ⟨w1.heap.size, 0, none⟩) 1 1]).run Tryz.prog (w1.alloc (.cells #[.int .i64 v.s.fr, .int .i64 v.s.til, .slice v.x1 v.n1 v.c1, .slice v.x2 v.n2 v.c2, .slice v.x3 v.n3 v.c3, .int .i64 (prm v.s.ac)] 36)) = .ok (.slice x' n' c') w3 ∧ Below w1.heap.size w1 w1 ∧ Hid (Ri w w3 ms pg (k + 1) (.slice x' n' c') (LS ++ [v])) := by
  have bw : Below w.heap.size w w1 := on h.bel hb
  have hl := h.len
  obtain ⟨x', c', w3, hap, HO⟩ := push_i (h.own.below hb) v (by omega) bw.size
  obtain ⟨o3, t3, n3⟩ := HO.out
  have zb := hb.size
  have hne : ∀ u : SpV, SpAt w1 u → (∀ j, blks u j → R.ownBlock ≠ some j) → SpAt w3 u ∧ ∀ j, blks u j → (Value.slice x' (LS.length + 1) c').ownBlock ≠ some j := fun u hu hn => by
    refine ⟨hu.turns t3 (fun j hj e => hn j hj e), fun j hj e => ?_⟩
    rcases n3 j e with e2 | e2
    · exact hn j hj e2
    · have := hu.lt hj
      omega
  refine ⟨x', _, c', w3, hap, Below.refl _ _, bw.trans (t3.below (fun j hj => (h.own.tb hj).1) bw.size), o3, ?_, fun u hu => ?_⟩
  · rw [ivs_next hm, ← h.lst, List.map_append]
    rcases hcase with rfl | ⟨M, u, rfl, hlk⟩
    · simp [snc, hs]
    · rw [List.map_append]
      simp only [List.map_cons, List.map_nil]
      rw [snc_app, hlk, if_neg (by simp), hs]
      simp
  · rcases List.mem_append.1 hu with hu | hu
    · exact hne u ((h.spa u hu).1.below hb) (h.spa u hu).2
    · simp at hu
      subst hu
      refine hne u hsp (fun j hj e => ?_)
      have := hnew j hj
      have := (h.own.tb e).2.lt
      omega

/- The last one lasts longer. -/
theorem Ri.longer {w wr w1 : World} {ms : List Mp} {pg : Int} {k g n c q : Nat} {LS : List SpV} {m : Mp} {u : SpV} (h : Ri w wr ms pg k (.slice (some ⟨g, 0, none⟩) n c) LS) (hm : ms[k]? = some m) (hb : Below wr.heap.size wr w1) (hq : LS.length = q + 1) (hu : LS[q]? = some u) (hlik : lik u.s (mom m pg) = true) :
    Ri w (w1.setCell ⟨g, q * 6 + 1, none⟩ (.int .i64 m.ep)) ms pg (k + 1) (.slice (some ⟨g, 0, none⟩) n c) (LS.set q (tilS u m.ep)) := by
  have bw : Below w.heap.size w w1 := on h.bel hb
  have t : Turns (fun j => j = g) w1 (w1.setCell ⟨g, q * 6 + 1, none⟩ (.int .i64 m.ep)) := turns_put (Turns.refl _ w1) _ _
  have hg : w.heap.size ≤ g := (h.own.tb (g := g) rfl).1
  have hLS : LS = LS.take q ++ [u] := by
    have := (List.take_append_drop q LS).symm
    rw [List.drop_eq_getElem_cons (by omega), List.drop_of_length_le (by omega)] at this
    have e := (List.getElem?_eq_some_iff.1 hu).2
    rw [e] at this
    exact this
  have hset : LS.set q (tilS u m.ep) = LS.take q ++ [tilS u m.ep] := by
    have hl : (LS.take q).length = q := by rw [List.length_take]; omega
    conv => lhs; rw [hLS]
    rw [List.set_append_right _ _ (by omega), hl, Nat.sub_self]
    rfl
  refine ⟨bw.trans (t.below (fun j e => by have e' : j = g := e; omega) bw.size), own_til (h.own.below hb) hu _, ?_, fun v hv => ?_⟩
  · rw [ivs_next hm, ← h.lst, hset]
    conv => rhs; rw [hLS]
    rw [List.map_append, List.map_append]
    simp only [List.map_cons, List.map_nil]
    rw [snc_app, if_pos hlik]
    rfl
  · have hone : ∀ v' : SpV, SpAt wr v' → (∀ j, blks v' j → (Value.slice (some ⟨g, 0, none⟩) n c).ownBlock ≠ some j) → SpAt (w1.setCell ⟨g, q * 6 + 1, none⟩ (.int .i64 m.ep)) v' := fun v' h1 h2 => (h1.below hb).turns t (fun j hj e => h2 j hj (by have e' : j = g := e; rw [e']; rfl))
    rw [hset] at hv
    rcases List.mem_append.1 hv with hv | hv
    · obtain ⟨s1, s2⟩ := h.spa v (List.mem_of_mem_take hv)
      exact ⟨hone v s1 s2, s2⟩
    · simp at hv
      subst hv
      obtain ⟨s1, s2⟩ := h.spa u (List.mem_of_getElem? hu)
      have := hone u s1 s2
      exact ⟨⟨this.a, this.l, this.b, this.sm⟩, s2⟩

end Go.Proofs.YthlfmbijagpggaaGreat.Iv

/-
  The document's Intervals, of maps one behind the other.
  Conditions: the row of maps lies in memory.
-/
namespace Go.Proofs.YthlfmbijagpggaaGreat.Iv
open Go.RowKit By Fl At Cr Pl
set_option linter.unusedVariables false
set_option linter.unusedSimpArgs false
set_option maxRecDepth 100000

def IvSays (w w' : World) (ms : List Mp) (pg : Int) (x : Option Addr) (n c : Nat) : Prop := ∃ LS : List SpV, Below w.heap.size w w' ∧ Fl.Own w' w.heap.size 36 6 enS (.slice x n c) LS ∧ LS.map SpV.s = ivs ms pg ∧ ∀ v ∈ LS, SpAt w' v

/- The lists that Acting tells, as an interval's. -/
theorem sp_of {wr w1 : World} {m : Mp} {pg : Int} {x0 x1 x2 : Option Addr} {n0 c0 n1 c1 n2 c2 : Nat} (h : Below wr.heap.size wr w1 ∧ Nu w1 x0 n0 c0 (actL m pg) ∧ Nu w1 x1 n1 c1 ((actL m pg).map (lf m.osds)) ∧ Nu w1 x2 n2 c2 ((actL m pg).map (bo m.osds)) ∧ (∀ a, x0 = some a → wr.heap.size ≤ a.block) ∧ (∀ a, x1 = some a → wr.heap.size ≤ a.block) ∧ (∀ a, x2 = some a → wr.heap.size ≤ a.block)) (hl : (actL m pg).length ≤ 32) {W : World} (hW : Below w1.heap.size w1 W) : SpAt W ⟨mom m pg, x0, n0, c0, x1, n1, c1, x2, n2, c2⟩ := by
  obtain ⟨_, h1, h2, h3, _⟩ := h
  have e1 := h1.len
  have e2 := h2.len
  have e3 := h3.len
  rw [List.length_map] at e2 e3
  exact ⟨h1.below hW, h2.below hW, h3.below hW, by show n0 ≤ 1000; omega, by show n1 ≤ 1000; omega, by show n2 ≤ 1000; omega⟩
theorem blk_of {wr w1 : World} {m : Mp} {pg : Int} {x0 x1 x2 : Option Addr} {n0 c0 n1 c1 n2 c2 : Nat} (h : Below wr.heap.size wr w1 ∧ Nu w1 x0 n0 c0 (actL m pg) ∧ Nu w1 x1 n1 c1 ((actL m pg).map (lf m.osds)) ∧ Nu w1 x2 n2 c2 ((actL m pg).map (bo m.osds)) ∧ (∀ a, x0 = some a → wr.heap.size ≤ a.block) ∧ (∀ a, x1 = some a → wr.heap.size ≤ a.block) ∧ (∀ a, x2 = some a → wr.heap.size ≤ a.block)) (j : Nat) (hj : blks ⟨mom m pg, x0, n0, c0, x1, n1, c1, x2, n2, c2⟩ j) : wr.heap.size ≤ j := by
  obtain ⟨_, _, _, _, g0, g1, g2⟩ := h
  rcases hj with ⟨_, a, ha, rfl⟩ | ⟨_, a, ha, rfl⟩ | ⟨_, a, ha, rfl⟩
  · exact g0 a ha
  · exact g1 a ha
  · exact g2 a ha

set_option maxHeartbeats 6400000 in
theorem intervals_any {w : World} {x : Option Addr} {n c : Nat} {L : List MV} (h : Ms w x n c L) (pg : Int) (hR : Rw (L.map MV.m) pg) :
    Calls Tryz.prog 10 #[.slice x n c, .int .i64 pg] w fun e w' => ∃ x' n' c', e = .returned (.slice x' n' c') ∧ Hid (IvSays w w' (L.map MV.m) pg x' n' c') := by
  have hn4 : n ≤ 4096 := by
    have := hR.le
    rw [List.length_map, h.len] at this
    exact this
  have HM := hid h
  have HF := hid hR.fine
  have HL := hid h.len
  have H0 : Hid (Ri w (w.alloc (.cells #[] 36)) (L.map MV.m) pg 0 (.slice (some ⟨w.heap.size, 0, none⟩) 0 0) []) := ⟨al _ _, Own.of_heap (K := ([] : List SpV)) (sz := 6) (enc := enS) (heap_alloc_new w (.cells #[] 36)) (Nat.le_refl _) (c := 0) (by simp) (by decide) (by simp) srow.len (by simp [flat]), rfl, fun v hv => (List.not_mem_nil hv).elim⟩
  clear h hR
  go_enter Tryz.func10, Tryz.ntmps10
  go_wp2_with fail
  go_loopw [6, 5, 7, 8, 9, 10, 11, 12] (fun i l _ _ _ _ _ _ wr => ∃ (k : Nat) (R : Value) (LS : List SpV), k ≤ n ∧ i = .int .i64 k ∧ l = R ∧ Hid (Ri w wr (L.map MV.m) pg k R LS)) (fun i _ _ _ _ _ _ _ _ => n - (intOf i).toNat)
  case atStart => exact ⟨0, _, _, by omega, rfl, rfl, H0.out⟩
  case round =>
    clear H0
    obtain ⟨k, R, LS, hk, rfl, rfl, HR⟩ := hrel
    by_cases hlt : k < n
    · have hkn : (k : Int) < (n : Int) := by omega
      obtain ⟨mv, hmv⟩ : ∃ v, L[k]? = some v := ⟨L[k]'(by have := HL.out; omega), List.getElem?_eq_getElem (by have := HL.out; omega)⟩
      have hmm : (L.map MV.m)[k]? = some mv.m := by rw [List.getElem?_map, hmv]; rfl
      have hfine := HF.out k _ hmm
      have hOs := HM.out.each k mv hmv
      have hRi := HR.out
      rcases HM.out.row with e | ⟨b, o, rfl, hb, hc⟩
      · omega
      obtain ⟨d0, d1, d2, d3, d4, d5⟩ := Ms.at hc hmv
      have r0 := keep hRi.bel d0
      have r1 := keep hRi.bel d1
      have r2 := keep hRi.bel d2
      have r3 := keep hRi.bel d3
      have r4 := keep hRi.bel d4
      have r5 := keep hRi.bel d5
      have HS0 : Hid (∀ W, Below w.heap.size w W → W.cell? ⟨b, o + k * 6, none⟩ = some (.int .i64 mv.m.ep)) := fun W hW => keep hW d0
      have cA := racting_yes mv.m (hOs.1.below hRi.bel) pg hfine
      have hl32 := upL_len mv.m pg
      rw [← actL_len] at hl32
      have HMM := hid (And.intro hmm hl32)
      have hlen := hRi.len
      unfold vM at cA
      clear d0 d1 d2 d3 d4 d5 hOs hfine hc hmv hmm hb hl32
      obtain ⟨xr, cr, hRe, hle1, _, _⟩ := hRi.own.form
      subst hRe
      rcases List.eq_nil_or_concat LS with hnil | ⟨M, u, hcat⟩
      · have hz : LS.length = 0 := by rw [hnil]; rfl
        rw [hz] at HR hRi ⊢
        go_wp2_with (go_at_call 22
                     refine cA.mono ?_
                     rintro e w1 ⟨x0, n0, c0, x1, n1, c1, x2, n2, c2, rfl, H1⟩
                     clear cA)
        have HX : Hid (∀ W, Below w1.heap.size w1 W → ∃ x' n' c' w3, (Builtin.append_ #[30, 30] 30 #[.slice xr 0 cr, .slice (some ⟨W.heap.size, 0, none⟩) 1 1]).run Tryz.prog (W.alloc (.cells #[.int .i64 mv.m.ep, .int .i64 mv.m.ep, .slice x0 n0 c0, .slice x1 n1 c1, .slice x2 n2 c2, .int .i64 (prm (actL mv.m pg))] 36)) = .ok (.slice x' n' c') w3 ∧ Hid (∃ LS', Ri w w3 (L.map MV.m) pg (k + 1) (.slice x' n' c') LS')) := fun W hW => by
          obtain ⟨x', n', c', w3, hap, _, HN⟩ := HR.out.push (v := ⟨mom mv.m pg, x0, n0, c0, x1, n1, c1, x2, n2, c2⟩) (m := mv.m) (by omega) HMM.out.1 rfl (on H1.out.1 hW) (sp_of H1.out HMM.out.2 hW) (blk_of H1.out) (.inl hnil)
          exact ⟨x', n', c', w3, hap, _, HN.out⟩
        have HB1 := hid (on HR.out.bel H1.out.1)
        obtain ⟨wX, hwX⟩ : ∃ wX, wX = w1 := ⟨_, rfl⟩
        have HWX : Hid (Below w1.heap.size w1 wX) := by rw [hwX]; exact Below.refl _ _
        rw [← hwX]
        clear hwX
        have e0 := HS0.out wX (on HB1.out HWX.out)
        go_wp2_with fail
        have bD : Below wX.heap.size wX wX.drew := (Below.refl _ _).drew
        have d0 := keep bD e0
        obtain ⟨x', n', c', w9, hap, HN⟩ := HX.out wX.drew (on HWX.out bD)
        have s1 : ∀ ob, (wX.drew.alloc ob).cell? ⟨b, o + k * 6, none⟩ = some (.int .i64 mv.m.ep) := fun ob => keep (al _ _) d0
        have s2 : w9.cell? ⟨b, o + k * 6, none⟩ = some (.int .i64 mv.m.ep) := by
          obtain ⟨LS', hN⟩ := HN.out
          exact HS0.out w9 hN.bel
        clear bD e0 HX
        refine wp_region_held_drew (S := fun v => v.cell? ⟨b, o + k * 6, none⟩ = some (.int .i64 mv.m.ep)) (by kernel_rfl) d0 (fun hHeld => ?_)
        generalize wX.drew = wD at *
        refine By.hk 0 ?_
        refine By.hk 1 ?_
        refine By.hk 2 ?_
        refine By.hk 3 ?_
        refine By.hk 4 ?_
        refine By.hk 5 ?_
        refine By.hk 6 ?_
        refine By.hk 7 ?_
        refine By.hk 8 ?_
        refine By.hk 9 ?_
        refine By.hk 10 ?_
        refine By.hk 11 ?_
        refine By.hk 12 ?_
        refine By.hk 13 ?_
        refine By.hk 14 ?_
        refine By.hk 15 ?_
        refine wpAnyH_ready (rs := [16]) (by kernel_rfl) (by simp) ?_
        refine AllReadyH.cons rfl (fun K hK => ?_) AllReadyH.nil
        go_simp
        refine hK.out _ _ (s1 _) (fun hHeld => ?_)
        clear hK K
        refine wpAnyH_ready (rs := [17]) (by kernel_rfl) (by simp) ?_
        refine AllReadyH.cons rfl (fun K hK => ?_) AllReadyH.nil
        refine st_append rfl _ _ 30 rfl _ _ rfl rfl hap ?_
        (try simp only [Act.put, List.getElem_toArray, List.getElem_cons_succ, List.getElem_cons_zero, List.setIfInBounds_toArray, List.set_cons_zero, List.set_cons_succ])
        refine hK.out _ _ s2 (fun hHeld => ?_)
        clear hK K
        refine By.hk 18 ?_
        refine wpAnyH_done (by kernel_rfl) ?_ _
        clear hap s1 s2 d0 hHeld
        go_wp2_with fail
        go_roundw
        case rel =>
          obtain ⟨LS', hN⟩ := HN.out
          exact ⟨k + 1, _, _, by omega, by go_num, rfl, hN⟩
        case measure => simp [intOf]; omega
      · rw [List.concat_eq_append] at hcat
        have hq : LS.length = M.length + 1 := by rw [hcat]; simp
        obtain ⟨q, hqq⟩ : ∃ q, q = M.length := ⟨_, rfl⟩
        obtain ⟨nl, hnl⟩ : ∃ nl, nl = LS.length := ⟨_, rfl⟩
        have hu : LS[q]? = some u := by rw [hcat, hqq]; simp
        obtain ⟨g, cl, e6, _, _, hg1, hg2⟩ := hRi.own.there (by rw [hcat]; simp)
        injection e6 with e61 e62 e63
        subst e61
        rw [← hnl] at hRi HR ⊢
        have hql : (nl : Int) - 1 = (q : Int) := by omega
        have hqn : (q : Int) < (nl : Int) := by omega
        have hwq : IntKind.i64.wrap (q : Int) = (q : Int) := by rw [IntKind.wrap_i64]; omega
        obtain ⟨a0, a1, a2, a3, a4, a5⟩ := cells6 hRi.own hu
        have HU := hid (And.intro hu (And.intro hcat (And.intro (show LS.length = q + 1 by omega) (And.intro ((hRi.spa u (List.mem_of_getElem? hu)).1) (And.intro a2 (And.intro a3 a4))))))
        have hfr := hRi.own.frozen (k := q * 6 + 1)
        have hga : g < wr.heap.size := hg2
        have HA1 := hid (And.intro a1 hfr)
        clear hRi hg1 hg2 a0 a1 a2 a3 a4 a5 hcat hq hqq hnl hu e62 e63 hfr hle1
        go_wp2_with (go_at_call 22
                     refine cA.mono ?_
                     rintro e w1 ⟨x0, n0, c0, x1, n1, c1, x2, n2, c2, rfl, H1⟩
                     clear cA
                     have i2 := keep H1.out.1 HU.out.2.2.2.2.1
                     have i3 := keep H1.out.1 HU.out.2.2.2.2.2.1
                     have i4 := keep H1.out.1 HU.out.2.2.2.2.2.2)
        have HI : Hid (∀ W, Below w1.heap.size w1 W → (Calls Tryz.prog 13 #[.slice u.x1 u.n1 u.c1, .slice x0 n0 c0] W fun e w' => e = .returned (.bool (decide (u.s.ac = actL mv.m pg))) ∧ Below W.heap.size W w') ∧ (Calls Tryz.prog 13 #[.slice u.x2 u.n2 u.c2, .slice x1 n1 c1] W fun e w' => e = .returned (.bool (decide (u.s.lv = (actL mv.m pg).map (lf mv.m.osds)))) ∧ Below W.heap.size W w') ∧ (Calls Tryz.prog 13 #[.slice u.x3 u.n3 u.c3, .slice x2 n2 c2] W fun e w' => e = .returned (.bool (decide (u.s.bt = (actL mv.m pg).map (bo mv.m.osds)))) ∧ Below W.heap.size W w')) := fun W hW => by
          have su := HU.out.2.2.2.1.below (on H1.out.1 hW)
          have sz := su.sm
          exact ⟨Iv.ints_any su.a (H1.out.2.1.below hW) (by omega), Iv.ints_any su.l (H1.out.2.2.1.below hW) (by omega), Iv.ints_any su.b (H1.out.2.2.2.1.below hW) (by omega)⟩
        have cI1 := (HI.out w1 (Below.refl _ _)).1
        have HLK : Hid (lik u.s (mom mv.m pg) = (decide (u.s.ac = actL mv.m pg) && decide (u.s.lv = (actL mv.m pg).map (lf mv.m.osds)) && decide (u.s.bt = (actL mv.m pg).map (bo mv.m.osds)))) := rfl
        have HX : Hid (lik u.s (mom mv.m pg) = false → ∀ W, Below w1.heap.size w1 W → ∃ x' n' c' w3, (Builtin.append_ #[30, 30] 30 #[.slice (some ⟨g, 0, none⟩) nl cr, .slice (some ⟨W.heap.size, 0, none⟩) 1 1]).run Tryz.prog (W.alloc (.cells #[.int .i64 mv.m.ep, .int .i64 mv.m.ep, .slice x0 n0 c0, .slice x1 n1 c1, .slice x2 n2 c2, .int .i64 (prm (actL mv.m pg))] 36)) = .ok (.slice x' n' c') w3 ∧ Hid (∃ LS', Ri w w3 (L.map MV.m) pg (k + 1) (.slice x' n' c') LS')) := fun hno W hW => by
          obtain ⟨x', n', c', w3, hap, _, HN⟩ := HR.out.push (v := ⟨mom mv.m pg, x0, n0, c0, x1, n1, c1, x2, n2, c2⟩) (m := mv.m) (by omega) HMM.out.1 rfl (on H1.out.1 hW) (sp_of H1.out HMM.out.2 hW) (blk_of H1.out) (.inr ⟨M, u, HU.out.2.1, hno⟩)
          exact ⟨x', n', c', w3, hap, _, HN.out⟩
        have HB1 := hid (on HR.out.bel H1.out.1)
        generalize decide (u.s.ac = actL mv.m pg) = t1 at *
        generalize decide (u.s.lv = (actL mv.m pg).map (lf mv.m.osds)) = t2 at *
        generalize decide (u.s.bt = (actL mv.m pg).map (bo mv.m.osds)) = t3 at *
        cases t1 with
        | false =>
          replace HX := hid (HX.out (by rw [HLK.out]; simp))
          go_wp2_with (go_at_call 13; refine cI1.mono ?_; rintro e wX ⟨rfl, hbx⟩; clear cI1; have HWX := hid hbx)
          have e0 := HS0.out wX (on HB1.out HWX.out)
          go_wp2_with fail
          have bD : Below wX.heap.size wX wX.drew := (Below.refl _ _).drew
          have d0 := keep bD e0
          obtain ⟨x', n', c', w9, hap, HN⟩ := HX.out wX.drew (on HWX.out bD)
          have s1 : ∀ ob, (wX.drew.alloc ob).cell? ⟨b, o + k * 6, none⟩ = some (.int .i64 mv.m.ep) := fun ob => keep (al _ _) d0
          have s2 : w9.cell? ⟨b, o + k * 6, none⟩ = some (.int .i64 mv.m.ep) := by
            obtain ⟨LS', hN⟩ := HN.out
            exact HS0.out w9 hN.bel
          clear bD e0 HX
          refine wp_region_held_drew (S := fun v => v.cell? ⟨b, o + k * 6, none⟩ = some (.int .i64 mv.m.ep)) (by kernel_rfl) d0 (fun hHeld => ?_)
          generalize wX.drew = wD at *
          refine By.hk 0 ?_
          refine By.hk 1 ?_
          refine By.hk 2 ?_
          refine By.hk 3 ?_
          refine By.hk 4 ?_
          refine By.hk 5 ?_
          refine By.hk 6 ?_
          refine By.hk 7 ?_
          refine By.hk 8 ?_
          refine By.hk 9 ?_
          refine By.hk 10 ?_
          refine By.hk 11 ?_
          refine By.hk 12 ?_
          refine By.hk 13 ?_
          refine By.hk 14 ?_
          refine By.hk 15 ?_
          refine wpAnyH_ready (rs := [16]) (by kernel_rfl) (by simp) ?_
          refine AllReadyH.cons rfl (fun K hK => ?_) AllReadyH.nil
          go_simp
          refine hK.out _ _ (s1 _) (fun hHeld => ?_)
          clear hK K
          refine wpAnyH_ready (rs := [17]) (by kernel_rfl) (by simp) ?_
          refine AllReadyH.cons rfl (fun K hK => ?_) AllReadyH.nil
          refine st_append rfl _ _ 30 rfl _ _ rfl rfl hap ?_
          (try simp only [Act.put, List.getElem_toArray, List.getElem_cons_succ, List.getElem_cons_zero, List.setIfInBounds_toArray, List.set_cons_zero, List.set_cons_succ])
          refine hK.out _ _ s2 (fun hHeld => ?_)
          clear hK K
          refine By.hk 18 ?_
          refine wpAnyH_done (by kernel_rfl) ?_ _
          clear hap s1 s2 d0 hHeld
          go_wp2_with fail
          go_roundw
          case rel =>
            obtain ⟨LS', hN⟩ := HN.out
            exact ⟨k + 1, _, _, by omega, by go_num, rfl, hN⟩
          case measure => simp [intOf]; omega
        | true =>
          go_wp2_with (go_at_call 13; refine cI1.mono ?_; rintro e w2 ⟨rfl, hb2⟩; clear cI1; have cI2 := (HI.out w2 hb2).2.1; have j3 := keep hb2 i3; have j4 := keep hb2 i4)
          cases t2 with
          | false =>
            replace HX := hid (HX.out (by rw [HLK.out]; simp))
            go_wp2_with (go_at_call 13; refine cI2.mono ?_; rintro e wX ⟨rfl, hbx⟩; clear cI2; have HWX := hid (on hb2 hbx))
            have e0 := HS0.out wX (on HB1.out HWX.out)
            go_wp2_with fail
            have bD : Below wX.heap.size wX wX.drew := (Below.refl _ _).drew
            have d0 := keep bD e0
            obtain ⟨x', n', c', w9, hap, HN⟩ := HX.out wX.drew (on HWX.out bD)
            have s1 : ∀ ob, (wX.drew.alloc ob).cell? ⟨b, o + k * 6, none⟩ = some (.int .i64 mv.m.ep) := fun ob => keep (al _ _) d0
            have s2 : w9.cell? ⟨b, o + k * 6, none⟩ = some (.int .i64 mv.m.ep) := by
              obtain ⟨LS', hN⟩ := HN.out
              exact HS0.out w9 hN.bel
            clear bD e0 HX
            refine wp_region_held_drew (S := fun v => v.cell? ⟨b, o + k * 6, none⟩ = some (.int .i64 mv.m.ep)) (by kernel_rfl) d0 (fun hHeld => ?_)
            generalize wX.drew = wD at *
            refine By.hk 0 ?_
            refine By.hk 1 ?_
            refine By.hk 2 ?_
            refine By.hk 3 ?_
            refine By.hk 4 ?_
            refine By.hk 5 ?_
            refine By.hk 6 ?_
            refine By.hk 7 ?_
            refine By.hk 8 ?_
            refine By.hk 9 ?_
            refine By.hk 10 ?_
            refine By.hk 11 ?_
            refine By.hk 12 ?_
            refine By.hk 13 ?_
            refine By.hk 14 ?_
            refine By.hk 15 ?_
            refine wpAnyH_ready (rs := [16]) (by kernel_rfl) (by simp) ?_
            refine AllReadyH.cons rfl (fun K hK => ?_) AllReadyH.nil
            go_simp
            refine hK.out _ _ (s1 _) (fun hHeld => ?_)
            clear hK K
            refine wpAnyH_ready (rs := [17]) (by kernel_rfl) (by simp) ?_
            refine AllReadyH.cons rfl (fun K hK => ?_) AllReadyH.nil
            refine st_append rfl _ _ 30 rfl _ _ rfl rfl hap ?_
            (try simp only [Act.put, List.getElem_toArray, List.getElem_cons_succ, List.getElem_cons_zero, List.setIfInBounds_toArray, List.set_cons_zero, List.set_cons_succ])
            refine hK.out _ _ s2 (fun hHeld => ?_)
            clear hK K
            refine By.hk 18 ?_
            refine wpAnyH_done (by kernel_rfl) ?_ _
            clear hap s1 s2 d0 hHeld
            go_wp2_with fail
            go_roundw
            case rel =>
              obtain ⟨LS', hN⟩ := HN.out
              exact ⟨k + 1, _, _, by omega, by go_num, rfl, hN⟩
            case measure => simp [intOf]; omega
          | true =>
            go_wp2_with (go_at_call 13; refine cI2.mono ?_; rintro e w3 ⟨rfl, hb3⟩; clear cI2; have hb23 := on hb2 hb3; have cI3 := (HI.out w3 hb23).2.2; have k4 := keep hb3 j4)
            cases t3 with
            | false =>
              replace HX := hid (HX.out (by rw [HLK.out]; simp))
              go_wp2_with (go_at_call 13; refine cI3.mono ?_; rintro e wX ⟨rfl, hbx⟩; clear cI3; have HWX := hid (on hb23 hbx))
              have e0 := HS0.out wX (on HB1.out HWX.out)
              go_wp2_with fail
              have bD : Below wX.heap.size wX wX.drew := (Below.refl _ _).drew
              have d0 := keep bD e0
              obtain ⟨x', n', c', w9, hap, HN⟩ := HX.out wX.drew (on HWX.out bD)
              have s1 : ∀ ob, (wX.drew.alloc ob).cell? ⟨b, o + k * 6, none⟩ = some (.int .i64 mv.m.ep) := fun ob => keep (al _ _) d0
              have s2 : w9.cell? ⟨b, o + k * 6, none⟩ = some (.int .i64 mv.m.ep) := by
                obtain ⟨LS', hN⟩ := HN.out
                exact HS0.out w9 hN.bel
              clear bD e0 HX
              refine wp_region_held_drew (S := fun v => v.cell? ⟨b, o + k * 6, none⟩ = some (.int .i64 mv.m.ep)) (by kernel_rfl) d0 (fun hHeld => ?_)
              generalize wX.drew = wD at *
              refine By.hk 0 ?_
              refine By.hk 1 ?_
              refine By.hk 2 ?_
              refine By.hk 3 ?_
              refine By.hk 4 ?_
              refine By.hk 5 ?_
              refine By.hk 6 ?_
              refine By.hk 7 ?_
              refine By.hk 8 ?_
              refine By.hk 9 ?_
              refine By.hk 10 ?_
              refine By.hk 11 ?_
              refine By.hk 12 ?_
              refine By.hk 13 ?_
              refine By.hk 14 ?_
              refine By.hk 15 ?_
              refine wpAnyH_ready (rs := [16]) (by kernel_rfl) (by simp) ?_
              refine AllReadyH.cons rfl (fun K hK => ?_) AllReadyH.nil
              go_simp
              refine hK.out _ _ (s1 _) (fun hHeld => ?_)
              clear hK K
              refine wpAnyH_ready (rs := [17]) (by kernel_rfl) (by simp) ?_
              refine AllReadyH.cons rfl (fun K hK => ?_) AllReadyH.nil
              refine st_append rfl _ _ 30 rfl _ _ rfl rfl hap ?_
              (try simp only [Act.put, List.getElem_toArray, List.getElem_cons_succ, List.getElem_cons_zero, List.setIfInBounds_toArray, List.set_cons_zero, List.set_cons_succ])
              refine hK.out _ _ s2 (fun hHeld => ?_)
              clear hK K
              refine By.hk 18 ?_
              refine wpAnyH_done (by kernel_rfl) ?_ _
              clear hap s1 s2 d0 hHeld
              go_wp2_with fail
              go_roundw
              case rel =>
                obtain ⟨LS', hN⟩ := HN.out
                exact ⟨k + 1, _, _, by omega, by go_num, rfl, hN⟩
              case measure => simp [intOf]; omega
            | true =>
              have hlk : lik u.s (mom mv.m pg) = true := by rw [HLK.out]; rfl
              have HN : Hid (∀ W, Below w1.heap.size w1 W → Ri w (W.setCell ⟨g, q * 6 + 1, none⟩ (.int .i64 mv.m.ep)) (L.map MV.m) pg (k + 1) (.slice (some ⟨g, 0, none⟩) nl cr) (LS.set q (tilS u mv.m.ep))) := fun W hW => HR.out.longer HMM.out.1 (on H1.out.1 hW) HU.out.2.2.1 HU.out.1 hlk
              clear hlk
              go_wp2_with (go_at_call 13; refine cI3.mono ?_; rintro e w4 ⟨rfl, hb4⟩; clear cI3; have hb14 := on hb23 hb4; have e0 := HS0.out w4 (on HB1.out hb14); have m1 := keep (on H1.out.1 hb14) HA1.out.1; have mf := keepf (on H1.out.1 hb14) hga HA1.out.2)
              go_roundw
              case rel => exact ⟨k + 1, _, _, by omega, by go_num, rfl, HN.out w4 hb14⟩
              case measure => simp [intOf]; omega
    · have hk2 : k = n := by omega
      subst hk2
      have hRi := HR.out
      obtain ⟨xr, cr, hRe, hle1, _, _⟩ := hRi.own.form
      subst hRe
      have HZ : Hid (IvSays w wr (L.map MV.m) pg xr LS.length cr) := ⟨LS, hRi.bel, hRi.own, by rw [hRi.lst, List.take_of_length_le (by rw [List.length_map]; have := HL.out; omega)], fun v hv => (hRi.spa v hv).1⟩
      clear hRi hle1
      go_wp2_with fail
      go_ret
      exact ⟨_, _, _, rfl, HZ.out⟩

end Go.Proofs.YthlfmbijagpggaaGreat.Iv
