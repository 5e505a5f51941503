/-
  All intervals of any maps that come of changes, the last one, and those ahead of an epoch: 'mooringlaw19.IntervalAll' returns true and leaves its arguments as they were.
  Conditions: none.
-/
import Derived.Test.YthlfmbijagpggaaGreatRows
import Derived.WalkKit
import Derived.ProofKit
import Derived.OpenShut
import Derived.SizedLaws
import Derived.ShutString
import Derived.ChangeOld
import Derived.Below
import Derived.Test.YthlfmbijagpggaaGreatByRows
import Derived.Test.YthlfmbijagpggaaGreatJSrItem
import Derived.Test.YthlfmbijagpggaaGreatJIvAll
import Derived.Test.YthlfmbijagpggaaGreatJIvMaps
import Derived.Test.YthlfmbijagpggaaGreatJIvBefore
import Derived.Test.YthlfmbijagpggaaGreatJIvSameI
namespace Go.Proofs.YthlfmbijagpggaaGreat.intervalAll
open Go.ChangeShapes Go.WideShapes Go.ChangeAt Go.RowKit By
open Fl At Cr Pl Iv
set_option linter.unusedVariables false
set_option linter.unusedSimpArgs false
set_option maxRecDepth 100000

theorem own : ownKnob Tryz.prog.godebug = none := by kernel_rfl
theorem laidOut : laidOutB Tryz.prog = true := by kernel_rfl

theorem okM_is {p : Pool} {ms : List Mp} (pg : Int) (h : okR p 0 ms = true) (hne : ms ≠ []) (hl : ms.length ≤ 4096) : okM ms pg = (decide (0 ≤ pg) && decide (pg < p.pgs)) := by
  cases ms with
  | nil => exact absurd rfl hne
  | cons m t =>
    obtain ⟨g1, g2, g3⟩ := okR_get h 0 m rfl
    have g3' : m.ep = 0 := by simpa using g3
    simp only [okM]
    rw [decide_eq_true (p := t.length + 1 ≤ 4096) (by simpa using hl), g2, g3', h]
    simp

def wA (w : World) (V0 : Pool) (V2 U2 : Int) : World := (w.alloc (.cells #[.int .i64 V0.k, .int .i64 V0.m, .int .i64 V0.pgs, .int .i64 V0.dom] 23)).alloc (.cells #[.int .i64 V2, .int .i64 U2] 25)

set_option maxHeartbeats 1600000 in
theorem walk_no (V0 : Pool) (x : Option Addr) (n c : Nat) (l : List Ch) (V2 U2 : Int) (w : World) (hk : V0.k ≤ 9223372036854775807) (h : Cs w x n c l) (hno : poolB V0 = false ∨ 8 < V0.k + V0.m) : Calls Tryz.prog 3 #[vP V0, .slice x n c, .agg #[.int .i64 V2, .int .i64 U2]] w fun e w' => e = .returned (.bool true) ∧ Below w.heap.size w w' := by
  have hW := fun W => awake_any W
  have b0 : Below w.heap.size w (wA w V0 V2 U2) := on (al _ _) (al _ _)
  have cM : Calls Tryz.prog 5 #[vP V0, .slice x n c] (wA w V0 V2 U2) fun e w' => e = .returned (.tuple #[.slice none 0 0, .bool false]) ∧ Below (wA w V0 V2 U2).heap.size (wA w V0 V2 U2) w' := by
    refine (maps_any V0 (h.below b0) hk).mono ?_
    rintro e w' hm
    rcases hm with ⟨_, h2, h3⟩ | ⟨h1, h2, _⟩
    · exact ⟨h2, h3⟩
    · rcases hno with q | q
      · rw [q] at h1
        cases h1
      · omega
  have HB := hid b0
  unfold vP wA at *
  clear h hno hk b0
  go_enter Tryz.func3, Tryz.ntmps3
  go_wp2_with (first
    | (go_at_call 5; refine cM.mono ?_; rintro e w1 ⟨rfl, hb1⟩; clear cM)
    | (go_at_call 6; refine (hW _).mono ?_; rintro e w7 ⟨rfl, hb7⟩; clear hW))
  go_ret
  exact ⟨rfl, on HB.out (on hb1 hb7)⟩

/- What maps tells, where there are some. -/
theorem maps_yes (V0 : Pool) {w0 : World} {x : Option Addr} {n c : Nat} {l : List Ch} (hk : V0.k ≤ 9223372036854775807) (h : Cs w0 x n c l) (hp : poolB V0 = true) (h8 : V0.k + V0.m ≤ 8) :
    Calls Tryz.prog 5 #[vP V0, .slice x n c] w0 fun e w' => ∃ y yn yc, e = .returned (.tuple #[.slice y yn yc, .bool true]) ∧ Hid (∃ LM : List MV, Below w0.heap.size w0 w' ∧ Ms w' y yn yc LM ∧ okR V0 0 (LM.map MV.m) = true ∧ LM.map MV.m ≠ [] ∧ (LM.map MV.m).length ≤ 4096) := by
  refine (maps_any V0 h hk).mono ?_
  rintro e w' hm
  rcases hm with ⟨h1, _⟩ | ⟨_, _, y, yn, yc, he, LM, h1, h2, h3, h4, h5⟩
  · rcases h1 with q | q
    · rw [hp] at q
      cases q
    · omega
  · have hl := h2.len
    refine ⟨y, yn, yc, he, LM, h1, h2, h3, fun e => ?_, by rw [List.length_map]; omega⟩
    have := congrArg List.length e
    rw [List.length_map, hl] at this
    simp at this
    omega

set_option maxHeartbeats 3200000 in
theorem walk_out (V0 : Pool) (x : Option Addr) (n c : Nat) (l : List Ch) (V2 U2 : Int) (w : World) (hk : V0.k ≤ 9223372036854775807) (h : Cs w x n c l) (hp : poolB V0 = true) (h8 : V0.k + V0.m ≤ 8) (hout : ¬ (0 ≤ V2 ∧ V2 < V0.pgs)) : Calls Tryz.prog 3 #[vP V0, .slice x n c, .agg #[.int .i64 V2, .int .i64 U2]] w fun e w' => e = .returned (.bool true) ∧ Below w.heap.size w w' := by
  have hW := fun W => awake_any W
  obtain ⟨w0, hw0⟩ : ∃ w0, w0 = wA w V0 V2 U2 := ⟨_, rfl⟩
  have b0 : Below w.heap.size w w0 := by rw [hw0]; exact on (al _ _) (al _ _)
  have q2 : w0.cell? ⟨w.heap.size, 2, none⟩ = some (.int .i64 V0.pgs) := by rw [hw0]; unfold wA; go_simp
  have p0 : w0.cell? ⟨w.heap.size + 1, 0, none⟩ = some (.int .i64 V2) := by rw [hw0]; unfold wA; go_simp
  have p1 : w0.cell? ⟨w.heap.size + 1, 1, none⟩ = some (.int .i64 U2) := by rw [hw0]; unfold wA; go_simp
  have HQ : Hid (∀ W, Below w0.heap.size w0 W → W.cell? ⟨w.heap.size, 2, none⟩ = some (.int .i64 V0.pgs) ∧ W.cell? ⟨w.heap.size + 1, 0, none⟩ = some (.int .i64 V2) ∧ W.cell? ⟨w.heap.size + 1, 1, none⟩ = some (.int .i64 U2)) := fun W hb => ⟨keep hb q2, keep hb p0, keep hb p1⟩
  have cM := maps_yes V0 hk (h.below b0) hp h8
  have HO := hid hout
  have HB := hid b0
  have HW0 := hid hw0
  rw [hw0] at cM
  unfold vP wA at *
  clear h hk b0 hp h8 hw0 q2 p0 p1 hout
  go_enter Tryz.func3, Tryz.ntmps3
  go_wp2_with (go_at_call 5
               refine cM.mono ?_
               rintro e w1 ⟨y, yn, yc, rfl, H1⟩
               clear cM
               rw [← HW0.out] at H1
               have HC : Hid (∀ W, Below w1.heap.size w1 W → (Calls Tryz.prog 7 #[.slice y yn yc, .int .i64 V2] W fun e w' => e = .returned (.tuple #[.slice none 0 0, .int .i64 1]) ∧ Below W.heap.size W w') ∧ (Calls Tryz.prog 8 #[.slice y yn yc, .int .i64 V2] W fun e w' => e = .returned (.tuple #[.agg #[.int .i64 0, .int .i64 0, .slice none 0 0, .slice none 0 0, .slice none 0 0, .int .i64 0], .int .i64 1]) ∧ Below W.heap.size W w') ∧ (Calls Tryz.prog 9 #[.slice y yn yc, .int .i64 V2, .int .i64 U2] W fun e w' => e = .returned (.tuple #[.slice none 0 0, .int .i64 1]) ∧ Below W.heap.size W w')) := fun W hW => by
                 obtain ⟨LM, g0, g1, g2, g3, g4⟩ := H1.out
                 have hno : okM (LM.map MV.m) V2 = false := by
                   rw [okM_is V2 g2 g3 g4]
                   cases hz : (decide (0 ≤ V2) && decide (V2 < V0.pgs)) with
                   | false => rfl
                   | true =>
                     simp only [Bool.and_eq_true, decide_eq_true_eq] at hz
                     exact absurd hz HO.out
                 refine ⟨(all_any (g1.below hW) V2).mono fun e w' hh => ?_, (last_any (g1.below hW) V2).mono fun e w' hh => ?_, (before_any (g1.below hW) V2 U2).mono fun e w' hh => ?_⟩
                 · rcases hh with ⟨_, h1, h2⟩ | ⟨h1, _⟩
                   · exact ⟨h1, h2⟩
                   · rw [hno] at h1; cases h1
                 · rcases hh with ⟨_, h1, h2⟩ | ⟨h1, _⟩
                   · exact ⟨h1, h2⟩
                   · rw [hno] at h1; cases h1
                 · rcases hh with ⟨_, h1, h2⟩ | ⟨h1, _⟩
                   · exact ⟨h1, h2⟩
                   · rw [hno] at h1; cases h1
               have HB1 : Hid (Below w0.heap.size w0 w1) := by obtain ⟨LM, g0, _⟩ := H1.out; exact g0
               clear H1
               obtain ⟨i2, j0, j1⟩ := HQ.out w1 HB1.out)
  go_quiet (fail)
  by_cases hneg : V2 < 0
  · clear HO
    go_wp2_with (first
      | (go_at_call 7; refine ((HC.out _ (bel_drewN w1 _)).1).mono ?_; rintro e w2 ⟨rfl, hb2⟩; have hb2' := on (bel_drewN w1 _) hb2; have cL := (HC.out w2 hb2').2.1)
      | (go_at_call 8; refine cL.mono ?_; rintro e w3 ⟨rfl, hb3⟩; clear cL; have hb3' := on (on hb2' hb3) (al w3 (.cells #[.int .i64 0, .int .i64 0, .slice none 0 0, .slice none 0 0, .slice none 0 0, .int .i64 0] 36)); have cB := (HC.out _ hb3').2.2)
      | (go_at_call 9; refine cB.mono ?_; rintro e w4 ⟨rfl, hb4⟩; clear cB; have hb4' := on hb3' hb4; obtain ⟨i2', _, _⟩ := HQ.out w4 (on HB1.out hb4'))
      | (go_at_call 6; refine (hW _).mono ?_; rintro e w7 ⟨rfl, hb7⟩; clear hW))
    go_ret
    exact ⟨rfl, on HB.out (on HB1.out (on hb4' hb7))⟩
  · have hge : V0.pgs ≤ V2 := by
      have := HO.out
      omega
    clear HO
    go_wp2_with (first
      | (go_at_call 7; refine ((HC.out _ (bel_drewN w1 _)).1).mono ?_; rintro e w2 ⟨rfl, hb2⟩; have hb2' := on (bel_drewN w1 _) hb2; have cL := (HC.out w2 hb2').2.1)
      | (go_at_call 8; refine cL.mono ?_; rintro e w3 ⟨rfl, hb3⟩; clear cL; have hb3' := on (on hb2' hb3) (al w3 (.cells #[.int .i64 0, .int .i64 0, .slice none 0 0, .slice none 0 0, .slice none 0 0, .int .i64 0] 36)); have cB := (HC.out _ hb3').2.2)
      | (go_at_call 9; refine cB.mono ?_; rintro e w4 ⟨rfl, hb4⟩; clear cB; have hb4' := on hb3' hb4; obtain ⟨i2', _, _⟩ := HQ.out w4 (on HB1.out hb4'))
      | (go_at_call 6; refine (hW _).mono ?_; rintro e w7 ⟨rfl, hb7⟩; clear hW))
    go_ret
    exact ⟨rfl, on HB.out (on HB1.out (on hb4' hb7))⟩

/- The list of those ahead of an epoch, as the statement builds it. -/
structure Rb (w5 wr : World) (T : List Span) (epoch : Int) (k : Nat) (R : Value) (LB : List SpV) : Prop where
  bel : Below w5.heap.size w5 wr
  own : Fl.Own wr w5.heap.size 36 6 enS R LB
  lst : LB.map SpV.s = (T.take k).filter (Iv.ahead epoch)
  spa : ∀ v ∈ LB, SpAt w5 v

theorem Rb.len {w5 wr : World} {T : List Span} {epoch : Int} {k : Nat} {R : Value} {LB : List SpV} (h : Rb w5 wr T epoch k R LB) : LB.length ≤ k := by
  have h1 := congrArg List.length h.lst
  rw [List.length_map] at h1
  have h2 := List.length_filter_le (Iv.ahead epoch) (T.take k)
  rw [List.length_take] at h2
  omega

theorem Rb.push {w5 wr : World} {T : List Span} {epoch : Int} {k : Nat} {R : Value} {LB : List SpV} {v : SpV} (h : Rb w5 wr T epoch k R LB) (hk : k ≤ 4096) (hv : T[k]? = some v.s) (hsp : SpAt w5 v) (hp : v.s.fr < epoch) :
    ∃ x' n' c' w3, (Builtin.append_ #[30, 30] 30 #[R, .slice (some ⟨wr.heap.size, 0, none⟩) 1 1]).run Tryz.prog (wr.alloc (.cells #[.int .i64 v.s.fr, .int .i64 v.s.til, .slice v.x1 v.n1 v.c1, .slice v.x2 v.n2 v.c2, .slice v.x3 v.n3 v.c3, .int .i64 (prm v.s.ac)] 36)) = .ok (.slice x' n' c') w3 ∧ Hid (Rb w5 w3 T epoch (k + 1) (.slice x' n' c') (LB ++ [v])) := by
  have hl := h.len
  obtain ⟨x', c', w3, hap, HO⟩ := push_i h.own v (by omega) h.bel.size
  obtain ⟨o3, t3, n3⟩ := HO.out
  refine ⟨x', _, c', w3, hap, h.bel.trans (t3.below (fun j hj => (h.own.tb hj).1) h.bel.size), o3, ?_, fun u hu => ?_⟩
  · rw [List.map_append, h.lst, take_filter (Iv.ahead epoch) hv, if_pos (by unfold Iv.ahead; simpa using hp)]
    rfl
  · rcases List.mem_append.1 hu with hu | hu
    · exact h.spa u hu
    · simp at hu
      subst hu
      exact hsp

theorem Rb.skip {w5 wr : World} {T : List Span} {epoch : Int} {k : Nat} {R : Value} {LB : List SpV} {v : SpV} (h : Rb w5 wr T epoch k R LB) (hv : T[k]? = some v.s) (hp : ¬ v.s.fr < epoch) : Rb w5 wr T epoch (k + 1) R LB := by
  refine ⟨h.bel, h.own, ?_, h.spa⟩
  rw [h.lst, take_filter (Iv.ahead epoch) hv, if_neg (by unfold Iv.ahead; simpa using hp), List.append_nil]

/- What is known ahead of the end. -/
structure Kn (w5 : World) (T : List Span) (epoch : Int) (xa : Option Addr) (na ca : Nat) (b : SpV) (xd : Option Addr) (nd cd : Nat) (g nw cw : Nat) (LW : List SpV) : Prop where
  a : ∃ LA, Sps w5 xa na ca LA ∧ LA.map SpV.s = T.reverse
  b : SpAt w5 b ∧ T[0]? = some b.s
  d : ∃ LD, Sps w5 xd nd cd LD ∧ LD.map SpV.s = T.filter (Iv.ahead epoch)
  w : Sps w5 (some ⟨g, 0, none⟩) nw cw LW ∧ LW.map SpV.s = T.reverse
  pos : 1 ≤ nw
  le : nw ≤ 4096
  len : T.length = nw

set_option maxHeartbeats 6400000 in
theorem walk_in (V0 : Pool) (x : Option Addr) (n c : Nat) (l : List Ch) (V2 U2 : Int) (w : World) (hk : V0.k ≤ 9223372036854775807) (h : Cs w x n c l) (hp : poolB V0 = true) (h8 : V0.k + V0.m ≤ 8) (hin : 0 ≤ V2 ∧ V2 < V0.pgs) : Calls Tryz.prog 3 #[vP V0, .slice x n c, .agg #[.int .i64 V2, .int .i64 U2]] w fun e w' => e = .returned (.bool true) ∧ Below w.heap.size w w' := by
  have hW := fun W => awake_any W
  obtain ⟨w0, hw0⟩ : ∃ w0, w0 = wA w V0 V2 U2 := ⟨_, rfl⟩
  have b0 : Below w.heap.size w w0 := by rw [hw0]; exact on (al _ _) (al _ _)
  have q2 : w0.cell? ⟨w.heap.size, 2, none⟩ = some (.int .i64 V0.pgs) := by rw [hw0]; unfold wA; go_simp
  have p0 : w0.cell? ⟨w.heap.size + 1, 0, none⟩ = some (.int .i64 V2) := by rw [hw0]; unfold wA; go_simp
  have p1 : w0.cell? ⟨w.heap.size + 1, 1, none⟩ = some (.int .i64 U2) := by rw [hw0]; unfold wA; go_simp
  have HQ : Hid (∀ W, Below w0.heap.size w0 W → W.cell? ⟨w.heap.size, 2, none⟩ = some (.int .i64 V0.pgs) ∧ W.cell? ⟨w.heap.size + 1, 0, none⟩ = some (.int .i64 V2) ∧ W.cell? ⟨w.heap.size + 1, 1, none⟩ = some (.int .i64 U2)) := fun W hb => ⟨keep hb q2, keep hb p0, keep hb p1⟩
  have cM := maps_yes V0 hk (h.below b0) hp h8
  have HO := hid hin
  have hn1 : ¬ V2 < 0 := by omega
  have hn2 : ¬ V0.pgs ≤ V2 := by omega
  have HB := hid b0
  have HW0 := hid hw0
  rw [hw0] at cM
  unfold vP wA at *
  clear h hk b0 hp h8 hw0 q2 p0 p1 hin
  go_enter Tryz.func3, Tryz.ntmps3
  go_wp2_with (go_at_call 5
               refine cM.mono ?_
               rintro e w1 ⟨y, yn, yc, rfl, H1⟩
               clear cM
               rw [← HW0.out] at H1
               obtain ⟨T, HC⟩ : ∃ T : List Span, Hid ((∀ W, Below w1.heap.size w1 W → (Calls Tryz.prog 7 #[.slice y yn yc, .int .i64 V2] W fun e w' => ∃ xa na ca, e = .returned (.tuple #[.slice xa na ca, .int .i64 0]) ∧ Hid (Below W.heap.size W w' ∧ ∃ LA, Sps w' xa na ca LA ∧ LA.map SpV.s = T.reverse)) ∧ (Calls Tryz.prog 8 #[.slice y yn yc, .int .i64 V2] W fun e w' => ∃ v : SpV, e = .returned (.tuple #[.agg #[.int .i64 v.s.fr, .int .i64 v.s.til, .slice v.x1 v.n1 v.c1, .slice v.x2 v.n2 v.c2, .slice v.x3 v.n3 v.c3, .int .i64 (prm v.s.ac)], .int .i64 0]) ∧ Hid (Below W.heap.size W w' ∧ SpAt w' v ∧ T[0]? = some v.s)) ∧ (Calls Tryz.prog 9 #[.slice y yn yc, .int .i64 V2, .int .i64 U2] W fun e w' => ∃ xd nd cd, e = .returned (.tuple #[.slice xd nd cd, .int .i64 0]) ∧ Hid (Below W.heap.size W w' ∧ ∃ LD, Sps w' xd nd cd LD ∧ LD.map SpV.s = T.filter (Iv.ahead U2))) ∧ (Calls Tryz.prog 10 #[.slice y yn yc, .int .i64 V2] W fun e w' => ∃ g nw cw LW, e = .returned (.slice (some ⟨g, 0, none⟩) nw cw) ∧ Hid (Below W.heap.size W w' ∧ Sps w' (some ⟨g, 0, none⟩) nw cw LW ∧ LW.map SpV.s = T.reverse ∧ 1 ≤ nw))) ∧ T.length ≤ 4096) := by
                 obtain ⟨LM, g0, g1, g2, g3, g4⟩ := H1.out
                 have hyes : okM (LM.map MV.m) V2 = true := by
                   rw [okM_is V2 g2 g3 g4, decide_eq_true HO.out.1, decide_eq_true HO.out.2]
                   rfl
                 have hlen := bks_len (LM.map MV.m) V2
                 have hrev : (bks (LM.map MV.m) V2).reverse = ivs (LM.map MV.m) V2 := by unfold bks; rw [List.reverse_reverse]
                 have sps : ∀ {W w' : World} {xx : Option Addr} {nn cc : Nat} {TT : List Span}, TT.length ≤ 4096 → CollSays W w' TT xx nn cc → Below W.heap.size W w' ∧ ∃ LA, Sps w' xx nn cc LA ∧ LA.map SpV.s = TT := fun hT hc => by
                   obtain ⟨LS, q1, q2, q3, q4⟩ := hc
                   have hl := congrArg List.length q3
                   rw [List.length_map] at hl
                   exact ⟨q1, LS, own_sps q2 (by omega) (fun v hv => (q4 v hv).1), q3⟩
                 refine ⟨bks (LM.map MV.m) V2, fun W hW => ⟨(all_any (g1.below hW) V2).mono fun e w' hh => ?_, (last_any (g1.below hW) V2).mono fun e w' hh => ?_, (before_any (g1.below hW) V2 U2).mono fun e w' hh => ?_, (intervals_any (g1.below hW) V2 (rw_of hyes)).mono fun e w' hh => ?_⟩, by omega⟩
                 · rcases hh with ⟨h1, _⟩ | ⟨_, xa, na, ca, h1, h2⟩
                   · rw [hyes] at h1; cases h1
                   · rw [← hrev] at h2
                     exact ⟨xa, na, ca, h1, sps (by rw [List.length_reverse]; omega) h2⟩
                 · rcases hh with ⟨h1, _⟩ | ⟨_, v, h1, h2⟩
                   · rw [hyes] at h1; cases h1
                   · exact ⟨v, h1, h2⟩
                 · rcases hh with ⟨h1, _⟩ | ⟨_, xd, nd, cd, h1, h2⟩
                   · rw [hyes] at h1; cases h1
                   · exact ⟨xd, nd, cd, h1, sps (Nat.le_trans (List.length_filter_le _ _) (by omega)) h2⟩
                 · obtain ⟨x', n', c', h1, H2⟩ := hh
                   obtain ⟨LS, q1, q2, q3, q4⟩ := H2.out
                   have hl := congrArg List.length q3
                   rw [List.length_map, ← hrev, List.length_reverse] at hl
                   have hne : LS ≠ [] := fun e => by
                     rw [e] at q3
                     exact ivs_ne g3 V2 q3.symm
                   obtain ⟨g, c6, e6, _, _, _, _⟩ := q2.there hne
                   have hn := form_slice q2
                   injection e6 with e61 e62 e63
                   subst e61
                   exact ⟨g, n', c', LS, h1, q1, own_sps q2 (by omega) q4, by rw [q3, hrev], by have := List.length_pos_iff.2 hne; omega⟩
               have HB1 : Hid (Below w0.heap.size w0 w1) := by obtain ⟨LM, g0, _⟩ := H1.out; exact g0
               clear H1
               obtain ⟨i2, j0, j1⟩ := HQ.out w1 HB1.out)
  go_quiet (fail)
  go_wp2_with (first
    | (go_at_call 7; refine ((HC.out.1 _ (bel_drewN w1 _)).1).mono ?_; rintro e w2 ⟨xa, na, ca, rfl, H2⟩; have hb2' := on (bel_drewN w1 _) H2.out.1; have cL := (HC.out.1 w2 hb2').2.1)
    | (go_at_call 8; refine cL.mono ?_; rintro e w3 ⟨v, rfl, H3⟩; clear cL; have hb3' := on (on hb2' H3.out.1) (al w3 (.cells #[.int .i64 v.s.fr, .int .i64 v.s.til, .slice v.x1 v.n1 v.c1, .slice v.x2 v.n2 v.c2, .slice v.x3 v.n3 v.c3, .int .i64 (prm v.s.ac)] 36)); have cB := (HC.out.1 _ hb3').2.2.1)
    | (go_at_call 9; refine cB.mono ?_; rintro e w4 ⟨xd, nd, cd, rfl, H4⟩; clear cB; have hb4' := on hb3' H4.out.1; obtain ⟨i2', _, _⟩ := HQ.out w4 (on HB1.out hb4'); have cI := (HC.out.1 w4 hb4').2.2.2)
    | (go_at_call 10; refine cI.mono ?_; rintro e w5 ⟨g, nw, cw, LW, rfl, H5⟩; clear cI
       have hbx : SBox w5 w3.heap.size v := SBox.turns (SBox.turns (heap_alloc_new w3 (.cells #[.int .i64 v.s.fr, .int .i64 v.s.til, .slice v.x1 v.n1 v.c1, .slice v.x2 v.n2 v.c2, .slice v.x3 v.n3 v.c3, .int .i64 (prm v.s.ac)] 36)) (Turns.of_below (F := fun _ => False) H4.out.1) (fun e => e)) (Turns.of_below (F := fun _ => False) H5.out.1) (fun e => e)
       have HBX := hid hbx
       have HK : Hid (Kn w5 T U2 xa na ca v xd nd cd g nw cw LW) := by
         obtain ⟨q1, LA, q2, q3⟩ := H2.out
         obtain ⟨r1, r2, r3⟩ := H3.out
         obtain ⟨s1, LD, s2, s3⟩ := H4.out
         obtain ⟨t1, t2, t3, t4⟩ := H5.out
         have bA := al w3 (.cells #[.int .i64 v.s.fr, .int .i64 v.s.til, .slice v.x1 v.n1 v.c1, .slice v.x2 v.n2 v.c2, .slice v.x3 v.n3 v.c3, .int .i64 (prm v.s.ac)] 36)
         have b35 := on bA (on s1 t1)
         have hl := congrArg List.length t3
         rw [List.length_map, List.length_reverse, t2.len] at hl
         have hT := HC.out.2
         exact ⟨⟨LA, q2.below (on r1 b35), q3⟩, ⟨r2.below b35, r3⟩, ⟨LD, s2.below t1, s3⟩, ⟨t2, t3⟩, t4, by omega, hl.symm⟩
       have HB5 := hid (on HB.out (on HB1.out (on hb4' H5.out.1)))
       have hnw : 1 ≤ nw ∧ nw ≤ 4096 := ⟨HK.out.pos, HK.out.le⟩
       obtain ⟨z, hz⟩ : ∃ z : Int, (nw : Int) - 1 = z := ⟨_, rfl⟩
       clear H2 H3 H4 H5 hbx hb2' hb3' hb4' i2 i2' j0 j1 HC HQ))
  have H0 : Hid (Rb w5 (w5.alloc (.cells #[] 36)) T U2 0 (.slice (some ⟨w5.heap.size, 0, none⟩) 0 0) []) := ⟨al _ _, Own.of_heap (K := ([] : List SpV)) (sz := 6) (enc := enS) (heap_alloc_new w5 (.cells #[] 36)) (Nat.le_refl _) (c := 0) (by simp) (by decide) (by simp) srow.len (by simp [flat]), by simp, fun v hv => (List.not_mem_nil hv).elim⟩
  have HZ := hid hz
  clear hz
  go_loopw [19, 18] (fun i r wr => ∃ (k : Nat) (yy : Int) (R : Value) (LB : List SpV), k ≤ nw ∧ i = .int .i64 yy ∧ r = R ∧ Hid (yy + k + 1 = nw) ∧ Hid (Rb w5 wr T U2 k R LB)) (fun i _ _ => (intOf i + 1).toNat)
  case atStart => exact ⟨0, z, _, _, by omega, by first | rfl | (have := HZ.out; go_num), rfl, by have := HZ.out; show z + (0 : Nat) + 1 = nw; omega, H0.out⟩
  case round =>
    clear H0
    obtain ⟨k, yy, R, LB, hk, rfl, rfl, HY, HR⟩ := hrel
    by_cases hlt : k < nw
    · obtain ⟨j, hj⟩ : ∃ j : Nat, yy = (j : Int) := ⟨yy.toNat, by have := HY.out; omega⟩
      subst hj
      have hjk : j + k + 1 = nw := by have := HY.out; omega
      have hjn' : (j : Int) < (nw : Int) := by omega
      obtain ⟨u, hu⟩ : ∃ u, LW[j]? = some u := ⟨LW[j]'(by have := HK.out.w.1.len; omega), List.getElem?_eq_getElem (by have := HK.out.w.1.len; omega)⟩
      have hTk : T[k]? = some u.s := by
        have h1 : (LW.map SpV.s)[j]? = some u.s := by rw [List.getElem?_map, hu]; rfl
        rw [HK.out.w.2, List.getElem?_reverse (by rw [HK.out.len]; omega), HK.out.len, show nw - 1 - j = k by omega] at h1
        exact h1
      rcases HK.out.w.1.row with e | ⟨g', eg, hc⟩
      · omega
      injection eg with eg
      injection eg with eg1
      subst eg1
      obtain ⟨a0, a1, a2, a3, a4, a5⟩ := hc j u hu
      have r0 := keep HR.out.bel a0
      have r1 := keep HR.out.bel a1
      have r2 := keep HR.out.bel a2
      have r3 := keep HR.out.bel a3
      have r4 := keep HR.out.bel a4
      have r5 := keep HR.out.bel a5
      have hsu := HK.out.w.1.each u (List.mem_of_getElem? hu)
      by_cases hfr : u.s.fr < U2
      · obtain ⟨x', n', c', w9, hap, HN⟩ := HR.out.push (by omega) hTk hsu hfr
        clear a0 a1 a2 a3 a4 a5 hc hu hTk hsu HR
        go_wp2_with (at_builtin; refine wpList_append_run rfl _ _ _ rfl _ _ rfl rfl hap ?_)
        go_roundw
        case rel => exact ⟨k + 1, (j : Int) - 1, _, _, by omega, by first | rfl | go_num, rfl, by show (j : Int) - 1 + ((k + 1 : Nat) : Int) + 1 = nw; omega, HN.out⟩
        case measure => simp [intOf]
      · have HN := hid (HR.out.skip hTk hfr)
        clear a0 a1 a2 a3 a4 a5 hc hu hTk hsu HR
        go_wp2_with fail
        go_roundw
        case rel => exact ⟨k + 1, (j : Int) - 1, _, _, by omega, by first | rfl | go_num, rfl, by show (j : Int) - 1 + ((k + 1 : Nat) : Int) + 1 = nw; omega, HN.out⟩
        case measure => simp [intOf]
    · have hk2 : k = nw := by omega
      subst hk2
      have hyy : yy = -1 := by have := HY.out; omega
      subst hyy
      obtain ⟨xb, cb, hRe, hle1, _, _⟩ := HR.out.own.form
      subst hRe
      obtain ⟨qa, hqa⟩ : ∃ qa : Nat, k = qa + 1 := ⟨k - 1, by omega⟩
      have hqa1 : (k : Int) - 1 = (qa : Int) := by omega
      have hqa2 : (qa : Int) < (k : Int) := by omega
      have hqw : IntKind.i64.wrap (qa : Int) = (qa : Int) := by rw [IntKind.wrap_i64]; omega
      obtain ⟨u, hu⟩ : ∃ u, LW[qa]? = some u := ⟨LW[qa]'(by have := HK.out.w.1.len; omega), List.getElem?_eq_getElem (by have := HK.out.w.1.len; omega)⟩
      have hTu : v.s = u.s := by
        have h1 : (LW.map SpV.s)[qa]? = some u.s := by rw [List.getElem?_map, hu]; rfl
        rw [HK.out.w.2, List.getElem?_reverse (by rw [HK.out.len]; omega), HK.out.len, show k - 1 - qa = 0 by omega, HK.out.b.2] at h1
        injection h1
      rcases HK.out.w.1.row with e | ⟨g', eg, hc⟩
      · omega
      injection eg with eg
      injection eg with eg1
      subst eg1
      obtain ⟨a0, a1, a2, a3, a4, a5⟩ := hc qa u hu
      have bR := HR.out.bel
      have s0 := After.cell (keep bR a0)
      have s1 := After.cell (keep bR a1)
      have s2 := After.cell (keep bR a2)
      have s3 := After.cell (keep bR a3)
      have s4 := After.cell (keep bR a4)
      have s5 := After.cell (keep bR a5)
      obtain ⟨v0, v1, v2, v3, v4, v5⟩ := HBX.out.at
      have t0 := After.cell (keep bR v0)
      have t1 := After.cell (keep bR v1)
      have t2 := After.cell (keep bR v2)
      have t3 := After.cell (keep bR v3)
      have t4 := After.cell (keep bR v4)
      have t5 := After.cell (keep bR v5)
      have hS1 : ∀ p : After wr, Calls Tryz.prog 11 #[.slice xa na ca, .slice (some ⟨g, 0, none⟩) k cw] p.W fun e w' => e = .returned (.bool true) ∧ Below p.W.heap.size p.W w' := fun p => by
        obtain ⟨LA, q1, q2⟩ := HK.out.a
        exact same_yes (q1.below (on bR p.h)) (HK.out.w.1.below (on bR p.h)) (by rw [q2, HK.out.w.2])
      have hS2 : ∀ p : After wr, Calls Tryz.prog 11 #[.slice xd nd cd, .slice xb LB.length cb] p.W fun e w' => e = .returned (.bool true) ∧ Below p.W.heap.size p.W w' := fun p => by
        obtain ⟨LD, q1, q2⟩ := HK.out.d
        have hl := HR.out.len
        exact same_yes (q1.below (on bR p.h)) (own_sps (HR.out.own.below p.h) (by omega) (fun u hu => (HR.out.spa u hu).below (on bR p.h))) (by rw [q2, HR.out.lst, ← HK.out.len, List.take_length])
      have hS3 : ∀ p : After wr, Calls Tryz.prog 12 #[.agg #[.int .i64 v.s.fr, .int .i64 v.s.til, .slice v.x1 v.n1 v.c1, .slice v.x2 v.n2 v.c2, .slice v.x3 v.n3 v.c3, .int .i64 (prm v.s.ac)], .agg #[.int .i64 u.s.fr, .int .i64 u.s.til, .slice u.x1 u.n1 u.c1, .slice u.x2 u.n2 u.c2, .slice u.x3 u.n3 u.c3, .int .i64 (prm u.s.ac)]] p.W fun e w' => e = .returned (.bool true) ∧ Below p.W.heap.size p.W w' := fun p => samei_any (HK.out.b.1.below (on bR p.h)) ((HK.out.w.1.each u (List.mem_of_getElem? hu)).below (on bR p.h)) hTu
      have HBR := hid bR
      clear a0 a1 a2 a3 a4 a5 v0 v1 v2 v3 v4 v5 hc hu hTu bR HR HK HBX hle1 hqa
      generalize LB.length = nb at *
      haveI := After.ne wr
      go_wp2_with fail
      refine wp_region_after (by kernel_rfl) (by kernel_rfl) ?_
      repeat (go_big_quiet_step ((first | (go_at_call 11; with_reducible refine Calls.after_of (hS1 _)) | (go_at_call 11; with_reducible refine Calls.after_of (hS2 _)) | (go_at_call 12; refine Calls.after_of (hS3 _)) | (go_at_call 6; refine Calls.after_of (hW _)))))
      refine wpQuiet_nil ?_
      rintro _ ⟨p, rfl⟩
      go_wp2_with fail
      go_ret
      exact ⟨rfl, on HB5.out (on HBR.out p.h)⟩

theorem walk (V0 : Pool) (x : Option Addr) (n c : Nat) (l : List Ch) (V2 U2 : Int) (w : World) (hk : V0.k ≤ 9223372036854775807) (h : Cs w x n c l) : Calls Tryz.prog 3 #[vP V0, .slice x n c, .agg #[.int .i64 V2, .int .i64 U2]] w fun e w' => e = .returned (.bool true) ∧ Below w.heap.size w w' := by
  cases hp : poolB V0 with
  | false => exact walk_no V0 x n c l V2 U2 w hk h (.inl hp)
  | true =>
    by_cases h8 : 8 < V0.k + V0.m
    · exact walk_no V0 x n c l V2 U2 w hk h (.inr h8)
    · by_cases hin : 0 ≤ V2 ∧ V2 < V0.pgs
      · exact walk_in V0 x n c l V2 U2 w hk h hp (by omega) hin
      · exact walk_out V0 x n c l V2 U2 w hk h hp (by omega) hin

set_option maxRecDepth 100000 in
theorem lifted (os : Os) (started : os.Started) (H : Type) (enc : TypeId × Value → H) :
    ReturnsInHanded {} Tryz.checked os 3 .any (Rows.intervalAllSpec.pre6 enc Tryz.prog Tryz.f3 Rows.intervalAllRow.domain false) (Rows.intervalAllSpec.post enc Tryz.prog Tryz.f3 false true false false) := by
  refine returnsInHanded_of_change_sized (C := Tryz.checked) own started (by kernel_rfl) Tryz.func3
    (ChangeSpec.witness6 (enc := enc) (C := Tryz.checked) false ⟨#[], #[.agg #[.int .i64 0, .int .i64 0, .int .i64 0, .int .i64 0], .slice none 0 0, .agg #[.int .i64 0, .int .i64 0]], []⟩ 8 (by kernel_rfl) (by kernel_rfl) (by kernel_rfl) (by kernel_rfl)) ?_
  intro W base args ds gs before hval0 hW hcnd hsz0 _
  have hsz : (DataW.weightsEach Tryz.prog (Tryz.f3.params.toList ++ Rows.intervalAllSpec.plain.varTypes Tryz.prog) (ds ++ gs)).all (· ≤ reachBytes) = true := hsz0
  have hval : ∀ (j : Nat) t v, Tryz.f3.params[j]? = some t → args[j]? = some v → Value.okWide Tryz.prog W .any base t v := hval0
  have hW' := hW
  obtain ⟨p, q, hA0, hV, rfl, hfz, hnd⟩ := hW
  have hA : DataW.TrodAll enc Tryz.prog W 0 (fun _ => true) true Tryz.f3.params.toList args.toList ds p := hA0
  rw [Tryz.params3] at hA hval hsz
  obtain ⟨v0, vs0, d0, ds0, p0, q0, hargs, rfl, rfl, h0, r0⟩ := trodAll_cons hA
  obtain ⟨v1, vs1, d1, ds1, p1, q1, rfl, rfl, rfl, h1, r1⟩ := trodAll_cons r0
  obtain ⟨v2, vs2, d2, ds2, p2, q2, rfl, rfl, rfl, h2, r2⟩ := trodAll_cons r1
  obtain ⟨rfl, rfl, rfl⟩ := trodAll_nil r2
  obtain rfl : args = #[v0, v1, v2] := by cases args; simp_all
  obtain ⟨rfl, rfl⟩ := trodVars_none hV
  have k0 := h0
  have lt0 : ∀ x ∈ p0, x.block < W.heap.size := by obtain ⟨m, hm⟩ := k0; exact DataW.trod_lt m _ _ _ hm
  have s0 : ∀ x ∈ d0.weights Tryz.prog 23, x ≤ reachBytes := fun x hx => by
    have := List.all_eq_true.1 hsz x (DataW.weights_mem_each (j := 0) rfl rfl x hx)
    simpa using this
  obtain ⟨V0, rfl, w0⟩ := At.pool_in (okWide_struct Tryz.underlying23 (hval 0 23 v0 rfl rfl)) h0
  have k1 := h1
  have lt1 : ∀ x ∈ p1, x.block < W.heap.size := by obtain ⟨m, hm⟩ := k1; exact DataW.trod_lt m _ _ _ hm
  have s1 : ∀ x ∈ d1.weights Tryz.prog 24, x ≤ reachBytes := fun x hx => by
    have := List.all_eq_true.1 hsz x (DataW.weights_mem_each (j := 1) rfl rfl x hx)
    simpa using this
  obtain ⟨b1, nn1, cc1, rfl⟩ := okWide_slice Tryz.underlying24 (hval 1 24 v1 rfl rfl)
  obtain ⟨fu1, hf1⟩ := h1
  obtain ⟨a1, len1, cap1, V1, e1, w1, _⟩ := At.chs_in hf1 s1
  simp [Value.cells] at e1
  obtain ⟨rfl, rfl, rfl⟩ := e1
  have k2 := h2
  have lt2 : ∀ x ∈ p2, x.block < W.heap.size := by obtain ⟨m, hm⟩ := k2; exact DataW.trod_lt m _ _ _ hm
  have s2 : ∀ x ∈ d2.weights Tryz.prog 25, x ≤ reachBytes := fun x hx => by
    have := List.all_eq_true.1 hsz x (DataW.weights_mem_each (j := 2) rfl rfl x hx)
    simpa using this
  obtain ⟨V2, U2, rfl⟩ := Sr.two_in (Sr.okWide_array Tryz.underlying25 (hval 2 25 v2 rfl rfl)) h2
  clear hA0 hval0
  refine (walk V0 b1 nn1 cc1 V1 V2 U2 W w0 w1).mono fun e W' ⟨he, bel⟩ => ?_
  subst he
  exact ⟨_, rfl, _, _, _, [], _, [], hW', trodAll_mk1 (shut_bool Tryz.underlying4 _), (trodAll_cons_mk (Below.trod laidOut (by kernel_rfl) (of_decide_eq_true (by kernel_rfl)) k0 bel lt0) (trodAll_cons_mk (Below.trod laidOut (by kernel_rfl) (of_decide_eq_true (by kernel_rfl)) k1 bel lt1) (trodAll_cons_mk (Below.trod laidOut (by kernel_rfl) (of_decide_eq_true (by kernel_rfl)) k2 bel lt2) trodAll_mk0))), rfl, bel.frame _, fun h => by cases h⟩

theorem over : Rows.intervalAllRow.holds Tryz.pinned (OpenSpec.ofChange Rows.intervalAllSpec) :=
  OpenClaim.holds_of_wide 3 Tryz.f3 rfl rfl rfl rfl rfl rfl rfl ⟨rfl, rfl, rfl, rfl, rfl⟩ rfl rfl rfl rfl rfl (by kernel_rfl) Tryz.func3 (by kernel_rfl)
    (of_decide_eq_true (by kernel_rfl)) (by unfold Func.isWrapper; first | (rw [if_pos (by decide +kernel)]; kernel_rfl) | (rw [if_neg (by decide +kernel)]; exact ⟨rfl, rfl⟩))
    (fun os started H enc _ => lifted os started H enc)

theorem proved : Rows.IntervalAllSaid := over
#print axioms proved
end Go.Proofs.YthlfmbijagpggaaGreat.intervalAll
