/-
  One decree: whoever prepares, and whatever is lost, once a value is chosen no other one ever is: 'mooringlaw11.BallotAgrees' returns true and leaves its arguments as they were.
  Conditions: none.
-/
import Derived.Test.YtlfeafbpknbbfaaRows
import Derived.WalkKit
import Derived.ProofKit
import Derived.OpenShut
import Derived.SizedLaws
import Derived.ShutString
import Derived.ChangeOld
import Derived.Below
import Derived.Test.YtlfeafbpknbbfaaByRows
import Derived.Test.YtlfeafbpknbbfaaBaItem
import Derived.Test.YtlfeafbpknbbfaaBaLoop2
import Derived.Deep.DeepCutAuto
namespace Go.Proofs.Ytlfeafbpknbbfaa.ballotAgrees
open Go.ChangeShapes Go.WideShapes Go.ChangeAt Go.RowKit By
open Fl Ba
set_option linter.unusedVariables false
set_option linter.unusedSimpArgs false
set_option maxRecDepth 100000

theorem own : ownKnob Try.prog.godebug = none := by kernel_rfl
theorem laidOut : laidOutB Try.prog = true := by kernel_rfl

/- A state of the law, between two steps. -/
def St (w0 w : World) (n gA gP gS k : Nat) (fx : Option Addr) (fn fc : Nat) (sb : Bool) : Prop :=
  ∃ (V : Nat → AccV) (Q : Nat → PrV) (seen : Bt) (fd : List Nat), Mem w0 w n gA gP gS V Q seen ∧ Gd n seen V Q (if sb = true then some fd else none) ∧ Sv w fx fn fc fd ∧ SeenOk seen k

theorem mod7 (z : Int) : ∃ m : Nat, m < 7 ∧ (wrap64 (z.tmod 7 + 7)).tmod 7 = (m : Int) := by
  have h1 : -7 < z.tmod 7 := by
    have := Int.lt_tmod_of_pos z (show (0 : Int) < 7 by decide)
    omega
  have h2 : z.tmod 7 < 7 := Int.tmod_lt_of_pos z (by decide)
  have e : wrap64 (z.tmod 7 + 7) = z.tmod 7 + 7 := by
    unfold wrap64
    omega
  rw [e]
  have h3 : 0 ≤ (z.tmod 7 + 7).tmod 7 := Int.tmod_nonneg 7 (by omega)
  have h4 : (z.tmod 7 + 7).tmod 7 < 7 := Int.tmod_lt_of_pos _ (by decide)
  exact ⟨((z.tmod 7 + 7).tmod 7).toNat, by omega, by omega⟩

set_option maxHeartbeats 16000000 in
set_option maxRecDepth 100000 in
theorem walk (nn : Int) (x : Option Addr) (ln lc : Nat) (L : Nat → StV) (w : World) (hw : wfi nn) (hL : StsIn w x ln lc L) :
    Calls Try.prog 5 #[.int .i64 nn, .slice x ln lc] w fun e w' => e = .returned (.bool true) ∧ Below w.heap.size w w' := by
  have HL : Hid (StsIn w x ln lc L) := hL
  have hlz : (ln : Int) ≤ 140737488351232 := by have := hL.small; omega
  clear hL
  obtain ⟨n0, hn0, en⟩ := mod7 nn
  have hn1 : (n0 : Int) < 7 := by omega
  have hmk := fun W => make_acc (n0 + 1) (by omega) W
  have e0 : ((n0 + 1 : Nat) : Int) = 1 + (n0 : Int) := by omega
  rw [e0] at hmk
  have hmp := fun W => make_pr W
  have HI : Hid _ := mem_init w (n0 + 1) (by omega) (by omega)
  go_enter Try.func5, Try.ntmps5
  go_wp2_with fail
  rw [← e0]
  have H0 : Hid (St w ((((w.alloc (.cells (madeCells accZ ((n0 + 1) * 5)) 26)).alloc (.cells (madeCells prZ (7 * 5)) 46)).alloc (.cells #[.int .i64 0, .int .i64 0] 23)).alloc (.cells #[] 5)) (n0 + 1) w.heap.size (w.heap.size + 1) (w.heap.size + 1 + 1) 0 (some ⟨w.heap.size + 1 + 1 + 1, 0, none⟩) 0 0 false) :=
    ⟨_, _, _, [], HI.out.1, Gd.init (n0 + 1) noAcc noPr ⟨rfl, rfl, rfl⟩ ⟨rfl, fun _ => rfl, rfl⟩, HI.out.2, .inl rfl⟩
  have hn7 : n0 + 1 ≤ 7 := by omega
  have hn00 : 0 < n0 + 1 := by omega
  clear HI hmk hmp hn0 en hn1 e0 hw
  generalize n0 + 1 = n at *
  go_loopw [8, 9, 10] (fun f s i wr => ∃ (k : Nat) (fx : Option Addr) (fn fc : Nat) (sb : Bool), k ≤ ln ∧ k ≤ 300 ∧ f = .slice fx fn fc ∧ s = .bool sb ∧ i = .int .i64 k ∧ Hid (St w wr n w.heap.size (w.heap.size + 1) (w.heap.size + 1 + 1) k fx fn fc sb)) (fun _ _ i _ => ln - (intOf i).toNat)
  case atStart => exact ⟨0, _, 0, 0, false, by omega, by omega, rfl, rfl, rfl, H0.out⟩
  case round =>
    clear H0
    obtain ⟨k, fx, fn, fc, sb, hk1, hk3, rfl, rfl, rfl, HS⟩ := hrel
    by_cases hlt : k < ln
    · by_cases hlt3 : k < 300
      · have hkl : (k : Int) < (ln : Int) := by omega
        have hk300 : (k : Int) < 300 := by omega
        obtain ⟨V, Q, seen, fd, hM0, hG0, hF0, hS0⟩ := HS.out
        obtain ⟨b, o, rfl, hb, hc⟩ := HL.out.row.resolve_left (by omega)
        obtain ⟨d0, d1, d2, d3⟩ := hc k hlt
        have d0 := keep hM0.bel d0
        have d1 := keep hM0.bel d1
        have d2 := keep hM0.bel d2
        have d3 := keep hM0.bel d3
        have HI : Hid (StIn (L k)) := HL.out.st k hlt
        obtain ⟨m, hm, em⟩ := mod7 (L k).mon
        have hm7 : (m : Int) < 7 := by omega
        have HM : Hid (Mem w wr n w.heap.size (w.heap.size + 1) (w.heap.size + 1 + 1) V Q seen) := hM0
        have HG : Hid (Gd n seen V Q (if sb = true then some fd else none)) := hG0
        have HF : Hid (Sv wr fx fn fc fd) := hF0
        have HN : Hid (SeenOk seen k) := hS0
        have lA : w.heap.size < wr.heap.size := hM0.all.tb.lt
        have lP : w.heap.size + 1 < wr.heap.size := hM0.prs.tb.lt
        have lS : w.heap.size + 1 + 1 < wr.heap.size := hM0.stb.lt
        clear hM0 hG0 hF0 hS0 hc hb HS
        generalize (L k).mon = mon at *
        obtain ⟨at_, eat⟩ : ∃ z, z = (L k).at_ := ⟨_, rfl⟩
        obtain ⟨val, eval⟩ : ∃ z, z = (L k).val := ⟨_, rfl⟩
        have hat : at_ < 256 := eat ▸ HI.out.ha
        have hval : val < 256 := eval ▸ HI.out.hv
        rw [← eat] at d2
        rw [← eval] at d3
        clear HI eat eval
        cases hac : (L k).acc with
        | false =>
          rw [hac] at d1
          clear hac
          obtain ⟨nb, enx, hlt1, hlt2, hb2, hso, hbw⟩ := nx_ok HN.out (by omega) hm
          have hX := fun W => next_any seen (m : Int) W
          rw [enx] at hX
          have HB : Hid (lt seen nb ∧ lt z0 nb ∧ nb.2 = (m : Int) ∧ SeenOk nb (k + 1) ∧ bwf nb) := ⟨hlt1, hlt2, hb2, hso, hbw⟩
          clear enx hlt1 hlt2 hb2 hso hbw HN
          obtain ⟨sn1, sn2⟩ := seen
          obtain ⟨b1, b2⟩ := nb
          have s0 := HM.out.s0
          have s1 := HM.out.s1
          dsimp only [bt] at hX s0 s1
          have hmm := @run_makeMap Try.prog
          go_wp2_with (first
            | (
               go_at_call 6; refine (hX _).mono ?_; rintro e w1 ⟨rfl, hb1⟩; clear hX
               have t0 := keep hb1 (b := wr.heap.size) (o := 0) (x := .int .i64 mon) (by first | assumption | go_simp)
               have t1 := keep hb1 (b := wr.heap.size) (o := 1) (x := .bool false) (by first | assumption | go_simp)
               have t2 := keep hb1 (b := wr.heap.size) (o := 2) (x := .int .u8 (at_ : Int)) (by first | assumption | go_simp)
               have t3 := keep hb1 (b := wr.heap.size) (o := 3) (x := .int .u8 (val : Int)) (by first | assumption | go_simp)
               have HM1 : Hid (MemA w w1 n V Q (sn1, sn2)) := HM.out.below (on (al _ _) hb1)
               have HF1 : Hid (Sv w1 fx fn fc fd) := HF.out.below (on (al _ _) hb1)
               have s0 : w1.cell? ⟨w.heap.size + 1 + 1, 0, none⟩ = some (.int .i64 sn1) := HM1.out.s0
               have s1 : w1.cell? ⟨w.heap.size + 1 + 1, 1, none⟩ = some (.int .i64 sn2) := HM1.out.s1
               have f0 := HM1.out.sf 0
               have f1 := HM1.out.sf 1
               have p0 : w1.cell? ⟨w.heap.size + 1, m * 5, none⟩ = some (prC (Q m) 0) := HM1.out.prs.cell m 0 hm (by omega)
               have p1 := HM1.out.prs.cell m 1 hm (by omega)
               have p2 := HM1.out.prs.cell m 2 hm (by omega)
               have p3 := HM1.out.prs.cell m 3 hm (by omega)
               have p4 := HM1.out.prs.cell m 4 hm (by omega)
               have g0 := HM1.out.prs.frz (m * 5)
               have g1 := HM1.out.prs.frz (m * 5 + 1)
               have g2 := HM1.out.prs.frz (m * 5 + 2)
               have g3 := HM1.out.prs.frz (m * 5 + 3)
               have g4 := HM1.out.prs.frz (m * 5 + 4)
               have lr : wr.heap.size < w1.heap.size := cell_lt' t0
               have l1 : w.heap.size < w1.heap.size := by omega
               have l2 : w.heap.size + 1 < w1.heap.size := by omega
               have l3 : w.heap.size + 1 + 1 < w1.heap.size := by omega
               clear HM HF hb1 d0 d1 d2 d3))
          have HP0 : Hid (P2 w (((((((((w1.setCell ⟨w.heap.size + 1 + 1, 0, none⟩ (.int .i64 b1)).setCell ⟨w.heap.size + 1 + 1, 1, none⟩ (.int .i64 b2)).setCell ⟨w.heap.size + 1, m * 5, none⟩ (.int .i64 b1)).setCell ⟨w.heap.size + 1, m * 5 + 1, none⟩ (.int .i64 b2)).setCell ⟨w.heap.size + 1, m * 5 + 2, none⟩ (.map (some (w1.heap.size + 1)))).setCell ⟨w.heap.size + 1, m * 5 + 3, none⟩ (.slice none 0 0)).setCell ⟨w.heap.size + 1, m * 5 + 4, none⟩ (.bool false)).alloc (.cells #[.int .i64 b1, .int .i64 b2] 23)).alloc (.map #[] 0)) n m (w1.heap.size + 1) wr.heap.size w1.heap.size (b1, b2) at_ fx fn fc sb 0 V (up Q m (newPr (b1, b2) (w1.heap.size + 1)))) := by
            obtain ⟨q1, q2⟩ := mem_start HM1.out hm (b1, b2) HB.out.2.2.2.2 (.cells #[.int .i64 b1, .int .i64 b2] 23)
            have tt : Turns (fun i => i = w.heap.size + 1 ∨ i = w.heap.size + 1 + 1) w1 (((((((((w1.setCell ⟨w.heap.size + 1 + 1, 0, none⟩ (.int .i64 b1)).setCell ⟨w.heap.size + 1 + 1, 1, none⟩ (.int .i64 b2)).setCell ⟨w.heap.size + 1, m * 5, none⟩ (.int .i64 b1)).setCell ⟨w.heap.size + 1, m * 5 + 1, none⟩ (.int .i64 b2)).setCell ⟨w.heap.size + 1, m * 5 + 2, none⟩ (.map (some (w1.heap.size + 1)))).setCell ⟨w.heap.size + 1, m * 5 + 3, none⟩ (.slice none 0 0)).setCell ⟨w.heap.size + 1, m * 5 + 4, none⟩ (.bool false)).alloc (.cells #[.int .i64 b1, .int .i64 b2] 23)).alloc (.map #[] 0)) := by
              refine Turns.alloc (Turns.alloc ?_ _) _
              refine ((((((Turns.setCell (Turns.setCell (Turns.refl _ w1) (p := ⟨w.heap.size + 1 + 1, 0, none⟩) (.inl (.inr rfl)) _) (p := ⟨w.heap.size + 1 + 1, 1, none⟩) (.inl (.inr rfl)) _).setCell (p := ⟨w.heap.size + 1, m * 5, none⟩) (.inl (.inl rfl)) _).setCell (p := ⟨w.heap.size + 1, m * 5 + 1, none⟩) (.inl (.inl rfl)) _).setCell (p := ⟨w.heap.size + 1, m * 5 + 2, none⟩) (.inl (.inl rfl)) _).setCell (p := ⟨w.heap.size + 1, m * 5 + 3, none⟩) (.inl (.inl rfl)) _).setCell (p := ⟨w.heap.size + 1, m * 5 + 4, none⟩) (.inl (.inl rfl)) _)
            refine ⟨q1, ⟨fd, HG.out.start m hm _ HB.out.1 HB.out.2.1 HB.out.2.2.1 _ rfl rfl rfl, HF1.out.turns tt (fun i hi tb => ?_)⟩, by rw [up_same]; rfl, by rw [up_same]; rfl, by rw [up_same]; rfl, fun i _ => by rw [up_same]; rfl, ⟨0, _, by rw [up_same]; exact q2, Nat.le_refl _⟩, keept tt (fun e => by omega) t2, ?_, ?_⟩
            · rcases hi with e | e
              · rw [e] at tb
                have := tb.same HM1.out.prs.tb
                revert this
                decide
              · rw [e] at tb
                have := tb.same HM1.out.stb
                revert this
                decide
            · exact (new_cells _ _ (by simp) _ _ _ _).1
            · exact (new_cells _ _ (by simp) _ _ _ _).2
          generalize (((((((((w1.setCell ⟨w.heap.size + 1 + 1, 0, none⟩ (.int .i64 b1)).setCell ⟨w.heap.size + 1 + 1, 1, none⟩ (.int .i64 b2)).setCell ⟨w.heap.size + 1, m * 5, none⟩ (.int .i64 b1)).setCell ⟨w.heap.size + 1, m * 5 + 1, none⟩ (.int .i64 b2)).setCell ⟨w.heap.size + 1, m * 5 + 2, none⟩ (.map (some (w1.heap.size + 1)))).setCell ⟨w.heap.size + 1, m * 5 + 3, none⟩ (.slice none 0 0)).setCell ⟨w.heap.size + 1, m * 5 + 4, none⟩ (.bool false)).alloc (.cells #[.int .i64 b1, .int .i64 b2] 23)).alloc (.map #[] 0)) = wE at HP0 ⊢
          clear HM1 HF1 HG s0 s1 f0 f1 p0 p1 p2 p3 p4 g0 g1 g2 g3 g4 t0 t1 t2 t3 em hmm
          have hmb : w.heap.size + 1 + 1 < w1.heap.size + 1 := by omega
          generalize wr.heap.size = rs at *
          generalize w1.heap.size = bs at *
          go_loopw [16] (fun i wv => ∃ (j : Nat) (V : Nat → AccV) (Q : Nat → PrV), j ≤ n ∧ i = .int .i64 j ∧ Hid (P2 w wv n m (bs + 1) rs bs (b1, b2) at_ fx fn fc sb j V Q)) (fun i _ => n - (intOf i).toNat)
          case atStart => exact ⟨0, _, _, by omega, rfl, HP0.out⟩
          case round =>
            clear HP0
            obtain ⟨j, V, Q, hj, rfl, HP⟩ := hrel
            by_cases hjn : j < n
            · have hjz : (j : Int) < (n : Int) := by omega
              have q2 := HP.out.2.2.2.2.2.2.2.1
              go_wp2_with fail
              · have HV : Hid (Sv wr.drew (V j).x (V j).n (V j).c (V j).d) := (HP.out.1.val j hjn).1.below (Below.refl _ _).drew
                have HK : Hid (wr.drew.cell? ⟨w.heap.size, j * 5, none⟩ = some (.int .i64 (V j).p.1) ∧ wr.drew.cell? ⟨w.heap.size, j * 5 + 1, none⟩ = some (.int .i64 (V j).p.2) ∧ wr.drew.cell? ⟨w.heap.size, j * 5 + 2, none⟩ = some (.int .i64 (V j).a.1) ∧ wr.drew.cell? ⟨w.heap.size, j * 5 + 3, none⟩ = some (.int .i64 (V j).a.2) ∧ wr.drew.cell? ⟨w.heap.size, j * 5 + 4, none⟩ = some (.slice (V j).x (V j).n (V j).c) ∧ wr.drew.cell? ⟨bs, 0, none⟩ = some (.int .i64 b1) ∧ wr.drew.cell? ⟨bs, 1, none⟩ = some (.int .i64 b2)) := ⟨HP.out.1.all.cell j 0 hjn (by omega), HP.out.1.all.cell j 1 hjn (by omega), HP.out.1.all.cell j 2 hjn (by omega), HP.out.1.all.cell j 3 hjn (by omega), HP.out.1.all.cell j 4 hjn (by omega), HP.out.2.2.2.2.2.2.2.2.1, HP.out.2.2.2.2.2.2.2.2.2⟩
                have HPD : Hid (P2 w wr.drew n m (bs + 1) rs bs (b1, b2) at_ fx fn fc sb j V Q) := HP.out.below (Below.refl _ _).drew
                clear q2
                have lmb : bs + 1 < wr.heap.size := by
                  obtain ⟨es, c, hh⟩ := (HP.out.1.mapne hm HP.out.2.2.2.2.1).2.2.2.2
                  exact (Array.getElem?_eq_some_iff.1 hh).1
                go_cut [17, 18] (fun s17 s18 wc => ∃ (ga : Nat) (y : Option Addr) (cy : Nat) (t : Bool), s17 = .pointer (some ⟨ga, 0, none⟩) ∧ s18 = .bool t ∧ Hid (wr.heap.size ≤ ga ∧ P2 w wc n m (bs + 1) rs bs (b1, b2) at_ fx fn fc sb j V Q ∧ Sv wc y (V j).n cy (V j).d ∧ (t = true → wc.cell? ⟨ga, 0, none⟩ = some (.int .i64 b1) ∧ wc.cell? ⟨ga, 1, none⟩ = some (.int .i64 b2) ∧ wc.cell? ⟨ga, 2, none⟩ = some (.int .i64 (V j).a.1) ∧ wc.cell? ⟨ga, 3, none⟩ = some (.int .i64 (V j).a.2) ∧ wc.cell? ⟨ga, 4, none⟩ = some (.slice y (V j).n cy))))
                case first =>
                  cases hf : freeb (V j).p (V j).a (V j).n (b1, b2) with
                  | true => as_aux_lemma =>
                    have hPr := fun W h => prepare_yes (V j).p (V j).a (V j).x (V j).n (V j).c (V j).d (b1, b2) W h (HP.out.1.val j hjn).1.sm hf
                    dsimp only [bt, ac] at hPr
                    clear hf HP
                    have eD : wr.heap.size = wr.drew.heap.size := rfl
                    refine wp_region_held_drew (S := fun v => v.cell? ⟨w.heap.size, j * 5, none⟩ = some (.int .i64 (V j).p.1) ∧ v.cell? ⟨w.heap.size, j * 5 + 1, none⟩ = some (.int .i64 (V j).p.2) ∧ v.cell? ⟨w.heap.size, j * 5 + 2, none⟩ = some (.int .i64 (V j).a.1) ∧ v.cell? ⟨w.heap.size, j * 5 + 3, none⟩ = some (.int .i64 (V j).a.2) ∧ v.cell? ⟨w.heap.size, j * 5 + 4, none⟩ = some (.slice (V j).x (V j).n (V j).c) ∧ v.cell? ⟨bs, 0, none⟩ = some (.int .i64 b1) ∧ v.cell? ⟨bs, 1, none⟩ = some (.int .i64 b2)) (by kernel_rfl) HK.out (fun hHeld => ?_)
                    generalize wr.drew = wD at *
                    refine wpAnyH_take (i := 0) (v := ?_) rfl (by kernel_rfl) (by kernel_rfl) (by kernel_rfl) (fun _ _ _ h => h) (Or.inl ⟨by rfl, ?_⟩) (by assumption) ?_
                    case refine_2 => (intro w hSw; (try dsimp only at hSw); go_simp; (try with_reducible rfl))
                    (try simp only [Act.put, List.getElem_toArray, List.getElem_cons_succ, List.getElem_cons_zero, List.setIfInBounds_toArray, List.set_cons_zero, List.set_cons_succ])
                    refine wpAnyH_take (i := 1) (v := ?_) rfl (by kernel_rfl) (by kernel_rfl) (by kernel_rfl) (fun _ _ _ h => h) (Or.inl ⟨by rfl, ?_⟩) (by assumption) ?_
                    case refine_2 => (intro w hSw; (try dsimp only at hSw); go_simp; (try with_reducible rfl))
                    (try simp only [Act.put, List.getElem_toArray, List.getElem_cons_succ, List.getElem_cons_zero, List.setIfInBounds_toArray, List.set_cons_zero, List.set_cons_succ])
                    refine wpAnyH_take (i := 2) (v := ?_) rfl (by kernel_rfl) (by kernel_rfl) (by kernel_rfl) (fun _ _ _ h => h) (Or.inl ⟨by rfl, ?_⟩) (by assumption) ?_
                    case refine_2 => (intro w hSw; (try dsimp only at hSw); go_simp; (try with_reducible rfl))
                    (try simp only [Act.put, List.getElem_toArray, List.getElem_cons_succ, List.getElem_cons_zero, List.setIfInBounds_toArray, List.set_cons_zero, List.set_cons_succ])
                    refine wpAnyH_take (i := 3) (v := ?_) rfl (by kernel_rfl) (by kernel_rfl) (by kernel_rfl) (fun _ _ _ h => h) (Or.inl ⟨by rfl, ?_⟩) (by assumption) ?_
                    case refine_2 => (intro w hSw; (try dsimp only at hSw); go_simp; (try with_reducible rfl))
                    (try simp only [Act.put, List.getElem_toArray, List.getElem_cons_succ, List.getElem_cons_zero, List.setIfInBounds_toArray, List.set_cons_zero, List.set_cons_succ])
                    refine wpAnyH_take (i := 4) (v := ?_) rfl (by kernel_rfl) (by kernel_rfl) (by kernel_rfl) (fun _ _ _ h => h) (Or.inl ⟨by rfl, ?_⟩) (by assumption) ?_
                    case refine_2 => (intro w hSw; (try dsimp only at hSw); go_simp; (try with_reducible rfl))
                    (try simp only [Act.put, List.getElem_toArray, List.getElem_cons_succ, List.getElem_cons_zero, List.setIfInBounds_toArray, List.set_cons_zero, List.set_cons_succ])
                    refine wpAnyH_ready (rs := [5, 9]) (by kernel_rfl) (by simp) ?_
                    refine AllReadyH.cons rfl (fun K hK => ?_) (AllReadyH.cons rfl (fun K hK => ?_) AllReadyH.nil)
                    · go_simp
                      refine (hPr _ HV.out.sl).mono ?_
                      rintro e w2 ⟨y, cy, rfl, H2⟩
                      have HK2 : Hid (w2.cell? ⟨w.heap.size, j * 5, none⟩ = some (.int .i64 (V j).p.1) ∧ w2.cell? ⟨w.heap.size, j * 5 + 1, none⟩ = some (.int .i64 (V j).p.2) ∧ w2.cell? ⟨w.heap.size, j * 5 + 2, none⟩ = some (.int .i64 (V j).a.1) ∧ w2.cell? ⟨w.heap.size, j * 5 + 3, none⟩ = some (.int .i64 (V j).a.2) ∧ w2.cell? ⟨w.heap.size, j * 5 + 4, none⟩ = some (.slice (V j).x (V j).n (V j).c) ∧ w2.cell? ⟨bs, 0, none⟩ = some (.int .i64 b1) ∧ w2.cell? ⟨bs, 1, none⟩ = some (.int .i64 b2)) := ⟨keep H2.out.1 HK.out.1, keep H2.out.1 HK.out.2.1, keep H2.out.1 HK.out.2.2.1, keep H2.out.1 HK.out.2.2.2.1, keep H2.out.1 HK.out.2.2.2.2.1, keep H2.out.1 HK.out.2.2.2.2.2.1, keep H2.out.1 HK.out.2.2.2.2.2.2⟩
                      refine hK.out _ _ HK2.out (fun hHeld => ?_)
                      clear hK K
                      refine wpAnyH_take (i := 6) (v := ?_) rfl (by kernel_rfl) (by kernel_rfl) (by kernel_rfl) (fun _ _ _ h => h) (Or.inl ⟨by rfl, ?_⟩) (by assumption) ?_
                      case refine_2 => (intro w hSw; (try dsimp only at hSw); go_simp; (try with_reducible rfl))
                      (try simp only [Act.put, List.getElem_toArray, List.getElem_cons_succ, List.getElem_cons_zero, List.setIfInBounds_toArray, List.set_cons_zero, List.set_cons_succ])
                      refine wpAnyH_take (i := 7) (v := ?_) rfl (by kernel_rfl) (by kernel_rfl) (by kernel_rfl) (fun _ _ _ h => h) (Or.inl ⟨by rfl, ?_⟩) (by assumption) ?_
                      case refine_2 => (intro w hSw; (try dsimp only at hSw); go_simp; (try with_reducible rfl))
                      (try simp only [Act.put, List.getElem_toArray, List.getElem_cons_succ, List.getElem_cons_zero, List.setIfInBounds_toArray, List.set_cons_zero, List.set_cons_succ])
                      refine wpAnyH_take (i := 8) (v := ?_) rfl (by kernel_rfl) (by kernel_rfl) (by kernel_rfl) (fun _ _ _ h => h) (Or.inl ⟨by rfl, ?_⟩) (by assumption) ?_
                      case refine_2 => (intro w hSw; (try dsimp only at hSw); go_simp; (try with_reducible rfl))
                      (try simp only [Act.put, List.getElem_toArray, List.getElem_cons_succ, List.getElem_cons_zero, List.setIfInBounds_toArray, List.set_cons_zero, List.set_cons_succ])
                      refine wpAnyH_ready (rs := [9]) (by kernel_rfl) (by simp) ?_
                      refine AllReadyH.cons rfl (fun K hK => ?_) AllReadyH.nil
                      go_simp
                      have bz := al w2 (.cells #[.int .i64 0, .int .i64 0, .int .i64 0, .int .i64 0, .slice none 0 0] 26)
                      refine hK.out _ _ ⟨keep bz HK2.out.1, keep bz HK2.out.2.1, keep bz HK2.out.2.2.1, keep bz HK2.out.2.2.2.1, keep bz HK2.out.2.2.2.2.1, keep bz HK2.out.2.2.2.2.2.1, keep bz HK2.out.2.2.2.2.2.2⟩ (fun hHeld => ?_)
                      clear hK K
                      refine wpAnyH_ready (rs := [10]) (by kernel_rfl) (by simp) ?_
                      refine AllReadyH.cons rfl (fun K hK => ?_) AllReadyH.nil
                      go_simp
                      have bz2 := al w2 (.cells #[.int .i64 b1, .int .i64 b2, .int .i64 (V j).a.1, .int .i64 (V j).a.2, .slice y (V j).n cy] 26)
                      refine hK.out _ _ ⟨keep bz2 HK2.out.1, keep bz2 HK2.out.2.1, keep bz2 HK2.out.2.2.1, keep bz2 HK2.out.2.2.2.1, keep bz2 HK2.out.2.2.2.2.1, keep bz2 HK2.out.2.2.2.2.2.1, keep bz2 HK2.out.2.2.2.2.2.2⟩ (fun hHeld => ?_)
                      clear hK K
                      refine wpAnyH_take (i := 11) (v := ?_) rfl (by kernel_rfl) (by kernel_rfl) (by kernel_rfl) (fun _ _ _ h => h) (Or.inl ⟨by rfl, ?_⟩) (by assumption) ?_
                      case refine_2 => (intro w hSw; (try dsimp only at hSw); go_simp; (try with_reducible rfl))
                      (try simp only [Act.put, List.getElem_toArray, List.getElem_cons_succ, List.getElem_cons_zero, List.setIfInBounds_toArray, List.set_cons_zero, List.set_cons_succ])
                      refine wpAnyH_done (by kernel_rfl) ?_ _
                      clear bz bz2
                      have BE : Below wD.heap.size wD (w2.alloc (.cells #[.int .i64 b1, .int .i64 b2, .int .i64 (V j).a.1, .int .i64 (V j).a.2, .slice y (V j).n cy] 26)) := on H2.out.1 (al _ _)
                      have HV3 : Hid (Sv (w2.alloc (.cells #[.int .i64 b1, .int .i64 b2, .int .i64 (V j).a.1, .int .i64 (V j).a.2, .slice y (V j).n cy] 26)) y (V j).n cy (V j).d) := (H2.out.sv HV.out.sm).below (al _ _)
                      have lg : wD.heap.size ≤ w2.heap.size := H2.out.1.size
                      have HP3 : Hid (P2 w (w2.alloc (.cells #[.int .i64 b1, .int .i64 b2, .int .i64 (V j).a.1, .int .i64 (V j).a.2, .slice y (V j).n cy] 26)) n m (bs + 1) rs bs (b1, b2) at_ fx fn fc sb j V Q) := HPD.out.below BE
                      have z0 : (w2.alloc (.cells #[.int .i64 b1, .int .i64 b2, .int .i64 (V j).a.1, .int .i64 (V j).a.2, .slice y (V j).n cy] 26)).cell? ⟨w2.heap.size, 0, none⟩ = some (.int .i64 b1) := by go_simp
                      have z1 : (w2.alloc (.cells #[.int .i64 b1, .int .i64 b2, .int .i64 (V j).a.1, .int .i64 (V j).a.2, .slice y (V j).n cy] 26)).cell? ⟨w2.heap.size, 1, none⟩ = some (.int .i64 b2) := by go_simp
                      have z2 : (w2.alloc (.cells #[.int .i64 b1, .int .i64 b2, .int .i64 (V j).a.1, .int .i64 (V j).a.2, .slice y (V j).n cy] 26)).cell? ⟨w2.heap.size, 2, none⟩ = some (.int .i64 (V j).a.1) := by go_simp
                      have z3 : (w2.alloc (.cells #[.int .i64 b1, .int .i64 b2, .int .i64 (V j).a.1, .int .i64 (V j).a.2, .slice y (V j).n cy] 26)).cell? ⟨w2.heap.size, 3, none⟩ = some (.int .i64 (V j).a.2) := by go_simp
                      have z4 : (w2.alloc (.cells #[.int .i64 b1, .int .i64 b2, .int .i64 (V j).a.1, .int .i64 (V j).a.2, .slice y (V j).n cy] 26)).cell? ⟨w2.heap.size, 4, none⟩ = some (.slice y (V j).n cy) := by go_simp
                      have lg2 : Hid (wr.heap.size ≤ w2.heap.size) := Nat.le_trans (Nat.le_of_eq eD) lg
                      go_wp2_with fail
                      go_meet
                      case rel => exact ⟨w2.heap.size, y, cy, true, rfl, rfl, lg2.out, HP3.out, HV3.out, fun _ => ⟨z0, z1, z2, z3, z4⟩⟩
                    · go_simp
                      have bz := al wD (.cells #[.int .i64 0, .int .i64 0, .int .i64 0, .int .i64 0, .slice none 0 0] 26)
                      have HKz : Hid ((wD.alloc (.cells #[.int .i64 0, .int .i64 0, .int .i64 0, .int .i64 0, .slice none 0 0] 26)).cell? ⟨w.heap.size, j * 5, none⟩ = some (.int .i64 (V j).p.1) ∧ (wD.alloc (.cells #[.int .i64 0, .int .i64 0, .int .i64 0, .int .i64 0, .slice none 0 0] 26)).cell? ⟨w.heap.size, j * 5 + 1, none⟩ = some (.int .i64 (V j).p.2) ∧ (wD.alloc (.cells #[.int .i64 0, .int .i64 0, .int .i64 0, .int .i64 0, .slice none 0 0] 26)).cell? ⟨w.heap.size, j * 5 + 2, none⟩ = some (.int .i64 (V j).a.1) ∧ (wD.alloc (.cells #[.int .i64 0, .int .i64 0, .int .i64 0, .int .i64 0, .slice none 0 0] 26)).cell? ⟨w.heap.size, j * 5 + 3, none⟩ = some (.int .i64 (V j).a.2) ∧ (wD.alloc (.cells #[.int .i64 0, .int .i64 0, .int .i64 0, .int .i64 0, .slice none 0 0] 26)).cell? ⟨w.heap.size, j * 5 + 4, none⟩ = some (.slice (V j).x (V j).n (V j).c) ∧ (wD.alloc (.cells #[.int .i64 0, .int .i64 0, .int .i64 0, .int .i64 0, .slice none 0 0] 26)).cell? ⟨bs, 0, none⟩ = some (.int .i64 b1) ∧ (wD.alloc (.cells #[.int .i64 0, .int .i64 0, .int .i64 0, .int .i64 0, .slice none 0 0] 26)).cell? ⟨bs, 1, none⟩ = some (.int .i64 b2)) := ⟨keep bz HK.out.1, keep bz HK.out.2.1, keep bz HK.out.2.2.1, keep bz HK.out.2.2.2.1, keep bz HK.out.2.2.2.2.1, keep bz HK.out.2.2.2.2.2.1, keep bz HK.out.2.2.2.2.2.2⟩
                      refine hK.out _ _ HKz.out (fun hHeld => ?_)
                      clear hK K
                      refine wpAnyH_ready (rs := [5]) (by kernel_rfl) (by simp) ?_
                      refine AllReadyH.cons rfl (fun K hK => ?_) AllReadyH.nil
                      go_simp
                      refine (hPr _ (HV.out.sl.below bz)).mono ?_
                      rintro e w2 ⟨y, cy, rfl, H2⟩
                      have HK2 : Hid (w2.cell? ⟨w.heap.size, j * 5, none⟩ = some (.int .i64 (V j).p.1) ∧ w2.cell? ⟨w.heap.size, j * 5 + 1, none⟩ = some (.int .i64 (V j).p.2) ∧ w2.cell? ⟨w.heap.size, j * 5 + 2, none⟩ = some (.int .i64 (V j).a.1) ∧ w2.cell? ⟨w.heap.size, j * 5 + 3, none⟩ = some (.int .i64 (V j).a.2) ∧ w2.cell? ⟨w.heap.size, j * 5 + 4, none⟩ = some (.slice (V j).x (V j).n (V j).c) ∧ w2.cell? ⟨bs, 0, none⟩ = some (.int .i64 b1) ∧ w2.cell? ⟨bs, 1, none⟩ = some (.int .i64 b2)) := ⟨keep H2.out.1 HKz.out.1, keep H2.out.1 HKz.out.2.1, keep H2.out.1 HKz.out.2.2.1, keep H2.out.1 HKz.out.2.2.2.1, keep H2.out.1 HKz.out.2.2.2.2.1, keep H2.out.1 HKz.out.2.2.2.2.2.1, keep H2.out.1 HKz.out.2.2.2.2.2.2⟩
                      have u0 := keep H2.out.1 (b := wD.heap.size) (o := 0) (x := .int .i64 0) (by first | assumption | go_simp)
                      have u1 := keep H2.out.1 (b := wD.heap.size) (o := 1) (x := .int .i64 0) (by first | assumption | go_simp)
                      have u2 := keep H2.out.1 (b := wD.heap.size) (o := 2) (x := .int .i64 0) (by first | assumption | go_simp)
                      have u3 := keep H2.out.1 (b := wD.heap.size) (o := 3) (x := .int .i64 0) (by first | assumption | go_simp)
                      have u4 := keep H2.out.1 (b := wD.heap.size) (o := 4) (x := .slice none 0 0) (by first | assumption | go_simp)
                      have v0 := keepf H2.out.1 (b := wD.heap.size) (o := 0) (by first | (simp <;> omega) | exact cell_lt' (a := ⟨wD.heap.size, 0, none⟩) (by assumption) | (simp; exact cell_lt' (a := ⟨wD.heap.size, 0, none⟩) (by assumption))) (by first | assumption | go_simp)
                      have v1 := keepf H2.out.1 (b := wD.heap.size) (o := 1) (by first | (simp <;> omega) | exact cell_lt' (a := ⟨wD.heap.size, 1, none⟩) (by assumption) | (simp; exact cell_lt' (a := ⟨wD.heap.size, 1, none⟩) (by assumption))) (by first | assumption | go_simp)
                      have v2 := keepf H2.out.1 (b := wD.heap.size) (o := 2) (by first | (simp <;> omega) | exact cell_lt' (a := ⟨wD.heap.size, 2, none⟩) (by assumption) | (simp; exact cell_lt' (a := ⟨wD.heap.size, 2, none⟩) (by assumption))) (by first | assumption | go_simp)
                      have v3 := keepf H2.out.1 (b := wD.heap.size) (o := 3) (by first | (simp <;> omega) | exact cell_lt' (a := ⟨wD.heap.size, 3, none⟩) (by assumption) | (simp; exact cell_lt' (a := ⟨wD.heap.size, 3, none⟩) (by assumption))) (by first | assumption | go_simp)
                      have v4 := keepf H2.out.1 (b := wD.heap.size) (o := 4) (by first | (simp <;> omega) | exact cell_lt' (a := ⟨wD.heap.size, 4, none⟩) (by assumption) | (simp; exact cell_lt' (a := ⟨wD.heap.size, 4, none⟩) (by assumption))) (by first | assumption | go_simp)
                      have l9 : w.heap.size < wD.heap.size := cell_lt' HK.out.1
                      have l10 : bs < wD.heap.size := cell_lt' HK.out.2.2.2.2.2.1
                      refine hK.out _ _ HK2.out (fun hHeld => ?_)
                      clear hK K
                      refine wpAnyH_take (i := 6) (v := ?_) rfl (by kernel_rfl) (by kernel_rfl) (by kernel_rfl) (fun _ _ _ h => h) (Or.inl ⟨by rfl, ?_⟩) (by assumption) ?_
                      case refine_2 => (intro w hSw; (try dsimp only at hSw); go_simp; (try with_reducible rfl))
                      (try simp only [Act.put, List.getElem_toArray, List.getElem_cons_succ, List.getElem_cons_zero, List.setIfInBounds_toArray, List.set_cons_zero, List.set_cons_succ])
                      refine wpAnyH_take (i := 7) (v := ?_) rfl (by kernel_rfl) (by kernel_rfl) (by kernel_rfl) (fun _ _ _ h => h) (Or.inl ⟨by rfl, ?_⟩) (by assumption) ?_
                      case refine_2 => (intro w hSw; (try dsimp only at hSw); go_simp; (try with_reducible rfl))
                      (try simp only [Act.put, List.getElem_toArray, List.getElem_cons_succ, List.getElem_cons_zero, List.setIfInBounds_toArray, List.set_cons_zero, List.set_cons_succ])
                      refine wpAnyH_take (i := 8) (v := ?_) rfl (by kernel_rfl) (by kernel_rfl) (by kernel_rfl) (fun _ _ _ h => h) (Or.inl ⟨by rfl, ?_⟩) (by assumption) ?_
                      case refine_2 => (intro w hSw; (try dsimp only at hSw); go_simp; (try with_reducible rfl))
                      (try simp only [Act.put, List.getElem_toArray, List.getElem_cons_succ, List.getElem_cons_zero, List.setIfInBounds_toArray, List.set_cons_zero, List.set_cons_succ])
                      refine wpAnyH_ready (rs := [10]) (by kernel_rfl) (by simp) ?_
                      refine AllReadyH.cons rfl (fun K hK => ?_) AllReadyH.nil
                      go_simp
                      have t5 := (Turns.refl (atB wD.heap.size) w2).set5 wD.heap.size rfl (.int .i64 b1) (.int .i64 b2) (.int .i64 (V j).a.1) (.int .i64 (V j).a.2) (.slice y (V j).n cy)
                      refine hK.out _ _ ⟨keepn t5 (by omega) HK2.out.1, keepn t5 (by omega) HK2.out.2.1, keepn t5 (by omega) HK2.out.2.2.1, keepn t5 (by omega) HK2.out.2.2.2.1, keepn t5 (by omega) HK2.out.2.2.2.2.1, keepn t5 (by omega) HK2.out.2.2.2.2.2.1, keepn t5 (by omega) HK2.out.2.2.2.2.2.2⟩ (fun hHeld => ?_)
                      clear hK K
                      refine wpAnyH_take (i := 11) (v := ?_) rfl (by kernel_rfl) (by kernel_rfl) (by kernel_rfl) (fun _ _ _ h => h) (Or.inl ⟨by rfl, ?_⟩) (by assumption) ?_
                      case refine_2 => (intro w hSw; (try dsimp only at hSw); go_simp; (try with_reducible rfl))
                      (try simp only [Act.put, List.getElem_toArray, List.getElem_cons_succ, List.getElem_cons_zero, List.setIfInBounds_toArray, List.set_cons_zero, List.set_cons_succ])
                      refine wpAnyH_done (by kernel_rfl) ?_ _
                      clear bz t5
                      have BE : Below wD.heap.size wD (((((w2.setCell ⟨wD.heap.size, 0, none⟩ (.int .i64 b1)).setCell ⟨wD.heap.size, 1, none⟩ (.int .i64 b2)).setCell ⟨wD.heap.size, 2, none⟩ (.int .i64 (V j).a.1)).setCell ⟨wD.heap.size, 3, none⟩ (.int .i64 (V j).a.2)).setCell ⟨wD.heap.size, 4, none⟩ (.slice y (V j).n cy)) := below5 (on (al _ _) H2.out.1) wD.heap.size (Nat.le_refl _) _ _ _ _ _
                      have HV3 : Hid (Sv (((((w2.setCell ⟨wD.heap.size, 0, none⟩ (.int .i64 b1)).setCell ⟨wD.heap.size, 1, none⟩ (.int .i64 b2)).setCell ⟨wD.heap.size, 2, none⟩ (.int .i64 (V j).a.1)).setCell ⟨wD.heap.size, 3, none⟩ (.int .i64 (V j).a.2)).setCell ⟨wD.heap.size, 4, none⟩ (.slice y (V j).n cy)) y (V j).n cy (V j).d) := (Vl.turns (al wD (.cells #[.int .i64 0, .int .i64 0, .int .i64 0, .int .i64 0, .slice none 0 0] 26)) H2.out ((Turns.refl (fun k => wD.heap.size ≤ k ∧ k < (wD.alloc (.cells #[.int .i64 0, .int .i64 0, .int .i64 0, .int .i64 0, .slice none 0 0] 26)).heap.size) w2).set5 wD.heap.size ⟨Nat.le_refl _, by simp⟩ _ _ _ _ _)).sv HV.out.sm
                      have lg : wD.heap.size ≤ wD.heap.size := Nat.le_refl _
                      have HP3 : Hid (P2 w (((((w2.setCell ⟨wD.heap.size, 0, none⟩ (.int .i64 b1)).setCell ⟨wD.heap.size, 1, none⟩ (.int .i64 b2)).setCell ⟨wD.heap.size, 2, none⟩ (.int .i64 (V j).a.1)).setCell ⟨wD.heap.size, 3, none⟩ (.int .i64 (V j).a.2)).setCell ⟨wD.heap.size, 4, none⟩ (.slice y (V j).n cy)) n m (bs + 1) rs bs (b1, b2) at_ fx fn fc sb j V Q) := HPD.out.below BE
                      have z0 : (((((w2.setCell ⟨wD.heap.size, 0, none⟩ (.int .i64 b1)).setCell ⟨wD.heap.size, 1, none⟩ (.int .i64 b2)).setCell ⟨wD.heap.size, 2, none⟩ (.int .i64 (V j).a.1)).setCell ⟨wD.heap.size, 3, none⟩ (.int .i64 (V j).a.2)).setCell ⟨wD.heap.size, 4, none⟩ (.slice y (V j).n cy)).cell? ⟨wD.heap.size, 0, none⟩ = some (.int .i64 b1) := by go_simp
                      have z1 : (((((w2.setCell ⟨wD.heap.size, 0, none⟩ (.int .i64 b1)).setCell ⟨wD.heap.size, 1, none⟩ (.int .i64 b2)).setCell ⟨wD.heap.size, 2, none⟩ (.int .i64 (V j).a.1)).setCell ⟨wD.heap.size, 3, none⟩ (.int .i64 (V j).a.2)).setCell ⟨wD.heap.size, 4, none⟩ (.slice y (V j).n cy)).cell? ⟨wD.heap.size, 1, none⟩ = some (.int .i64 b2) := by go_simp
                      have z2 : (((((w2.setCell ⟨wD.heap.size, 0, none⟩ (.int .i64 b1)).setCell ⟨wD.heap.size, 1, none⟩ (.int .i64 b2)).setCell ⟨wD.heap.size, 2, none⟩ (.int .i64 (V j).a.1)).setCell ⟨wD.heap.size, 3, none⟩ (.int .i64 (V j).a.2)).setCell ⟨wD.heap.size, 4, none⟩ (.slice y (V j).n cy)).cell? ⟨wD.heap.size, 2, none⟩ = some (.int .i64 (V j).a.1) := by go_simp
                      have z3 : (((((w2.setCell ⟨wD.heap.size, 0, none⟩ (.int .i64 b1)).setCell ⟨wD.heap.size, 1, none⟩ (.int .i64 b2)).setCell ⟨wD.heap.size, 2, none⟩ (.int .i64 (V j).a.1)).setCell ⟨wD.heap.size, 3, none⟩ (.int .i64 (V j).a.2)).setCell ⟨wD.heap.size, 4, none⟩ (.slice y (V j).n cy)).cell? ⟨wD.heap.size, 3, none⟩ = some (.int .i64 (V j).a.2) := by go_simp
                      have z4 : (((((w2.setCell ⟨wD.heap.size, 0, none⟩ (.int .i64 b1)).setCell ⟨wD.heap.size, 1, none⟩ (.int .i64 b2)).setCell ⟨wD.heap.size, 2, none⟩ (.int .i64 (V j).a.1)).setCell ⟨wD.heap.size, 3, none⟩ (.int .i64 (V j).a.2)).setCell ⟨wD.heap.size, 4, none⟩ (.slice y (V j).n cy)).cell? ⟨wD.heap.size, 4, none⟩ = some (.slice y (V j).n cy) := by go_simp
                      have lg2 : Hid (wr.heap.size ≤ wD.heap.size) := Nat.le_trans (Nat.le_of_eq eD) lg
                      go_wp2_with fail
                      go_meet
                      case rel => exact ⟨wD.heap.size, y, cy, true, rfl, rfl, lg2.out, HP3.out, HV3.out, fun _ => ⟨z0, z1, z2, z3, z4⟩⟩
                  | false => as_aux_lemma =>
                    have hPr := fun W h => prepare_no (V j).p (V j).a (V j).x (V j).n (V j).c (V j).d (b1, b2) W h (HP.out.1.val j hjn).1.sm hf
                    dsimp only [bt, ac] at hPr
                    clear hf HP
                    have eD : wr.heap.size = wr.drew.heap.size := rfl
                    refine wp_region_held_drew (S := fun v => v.cell? ⟨w.heap.size, j * 5, none⟩ = some (.int .i64 (V j).p.1) ∧ v.cell? ⟨w.heap.size, j * 5 + 1, none⟩ = some (.int .i64 (V j).p.2) ∧ v.cell? ⟨w.heap.size, j * 5 + 2, none⟩ = some (.int .i64 (V j).a.1) ∧ v.cell? ⟨w.heap.size, j * 5 + 3, none⟩ = some (.int .i64 (V j).a.2) ∧ v.cell? ⟨w.heap.size, j * 5 + 4, none⟩ = some (.slice (V j).x (V j).n (V j).c) ∧ v.cell? ⟨bs, 0, none⟩ = some (.int .i64 b1) ∧ v.cell? ⟨bs, 1, none⟩ = some (.int .i64 b2)) (by kernel_rfl) HK.out (fun hHeld => ?_)
                    generalize wr.drew = wD at *
                    refine wpAnyH_take (i := 0) (v := ?_) rfl (by kernel_rfl) (by kernel_rfl) (by kernel_rfl) (fun _ _ _ h => h) (Or.inl ⟨by rfl, ?_⟩) (by assumption) ?_
                    case refine_2 => (intro w hSw; (try dsimp only at hSw); go_simp; (try with_reducible rfl))
                    (try simp only [Act.put, List.getElem_toArray, List.getElem_cons_succ, List.getElem_cons_zero, List.setIfInBounds_toArray, List.set_cons_zero, List.set_cons_succ])
                    refine wpAnyH_take (i := 1) (v := ?_) rfl (by kernel_rfl) (by kernel_rfl) (by kernel_rfl) (fun _ _ _ h => h) (Or.inl ⟨by rfl, ?_⟩) (by assumption) ?_
                    case refine_2 => (intro w hSw; (try dsimp only at hSw); go_simp; (try with_reducible rfl))
                    (try simp only [Act.put, List.getElem_toArray, List.getElem_cons_succ, List.getElem_cons_zero, List.setIfInBounds_toArray, List.set_cons_zero, List.set_cons_succ])
                    refine wpAnyH_take (i := 2) (v := ?_) rfl (by kernel_rfl) (by kernel_rfl) (by kernel_rfl) (fun _ _ _ h => h) (Or.inl ⟨by rfl, ?_⟩) (by assumption) ?_
                    case refine_2 => (intro w hSw; (try dsimp only at hSw); go_simp; (try with_reducible rfl))
                    (try simp only [Act.put, List.getElem_toArray, List.getElem_cons_succ, List.getElem_cons_zero, List.setIfInBounds_toArray, List.set_cons_zero, List.set_cons_succ])
                    refine wpAnyH_take (i := 3) (v := ?_) rfl (by kernel_rfl) (by kernel_rfl) (by kernel_rfl) (fun _ _ _ h => h) (Or.inl ⟨by rfl, ?_⟩) (by assumption) ?_
                    case refine_2 => (intro w hSw; (try dsimp only at hSw); go_simp; (try with_reducible rfl))
                    (try simp only [Act.put, List.getElem_toArray, List.getElem_cons_succ, List.getElem_cons_zero, List.setIfInBounds_toArray, List.set_cons_zero, List.set_cons_succ])
                    refine wpAnyH_take (i := 4) (v := ?_) rfl (by kernel_rfl) (by kernel_rfl) (by kernel_rfl) (fun _ _ _ h => h) (Or.inl ⟨by rfl, ?_⟩) (by assumption) ?_
                    case refine_2 => (intro w hSw; (try dsimp only at hSw); go_simp; (try with_reducible rfl))
                    (try simp only [Act.put, List.getElem_toArray, List.getElem_cons_succ, List.getElem_cons_zero, List.setIfInBounds_toArray, List.set_cons_zero, List.set_cons_succ])
                    refine wpAnyH_ready (rs := [5, 9]) (by kernel_rfl) (by simp) ?_
                    refine AllReadyH.cons rfl (fun K hK => ?_) (AllReadyH.cons rfl (fun K hK => ?_) AllReadyH.nil)
                    · go_simp
                      refine (hPr _ HV.out.sl).mono ?_
                      rintro e w2 ⟨y, cy, rfl, H2⟩
                      have HK2 : Hid (w2.cell? ⟨w.heap.size, j * 5, none⟩ = some (.int .i64 (V j).p.1) ∧ w2.cell? ⟨w.heap.size, j * 5 + 1, none⟩ = some (.int .i64 (V j).p.2) ∧ w2.cell? ⟨w.heap.size, j * 5 + 2, none⟩ = some (.int .i64 (V j).a.1) ∧ w2.cell? ⟨w.heap.size, j * 5 + 3, none⟩ = some (.int .i64 (V j).a.2) ∧ w2.cell? ⟨w.heap.size, j * 5 + 4, none⟩ = some (.slice (V j).x (V j).n (V j).c) ∧ w2.cell? ⟨bs, 0, none⟩ = some (.int .i64 b1) ∧ w2.cell? ⟨bs, 1, none⟩ = some (.int .i64 b2)) := ⟨keep H2.out.1 HK.out.1, keep H2.out.1 HK.out.2.1, keep H2.out.1 HK.out.2.2.1, keep H2.out.1 HK.out.2.2.2.1, keep H2.out.1 HK.out.2.2.2.2.1, keep H2.out.1 HK.out.2.2.2.2.2.1, keep H2.out.1 HK.out.2.2.2.2.2.2⟩
                      refine hK.out _ _ HK2.out (fun hHeld => ?_)
                      clear hK K
                      refine wpAnyH_take (i := 6) (v := ?_) rfl (by kernel_rfl) (by kernel_rfl) (by kernel_rfl) (fun _ _ _ h => h) (Or.inl ⟨by rfl, ?_⟩) (by assumption) ?_
                      case refine_2 => (intro w hSw; (try dsimp only at hSw); go_simp; (try with_reducible rfl))
                      (try simp only [Act.put, List.getElem_toArray, List.getElem_cons_succ, List.getElem_cons_zero, List.setIfInBounds_toArray, List.set_cons_zero, List.set_cons_succ])
                      refine wpAnyH_take (i := 7) (v := ?_) rfl (by kernel_rfl) (by kernel_rfl) (by kernel_rfl) (fun _ _ _ h => h) (Or.inl ⟨by rfl, ?_⟩) (by assumption) ?_
                      case refine_2 => (intro w hSw; (try dsimp only at hSw); go_simp; (try with_reducible rfl))
                      (try simp only [Act.put, List.getElem_toArray, List.getElem_cons_succ, List.getElem_cons_zero, List.setIfInBounds_toArray, List.set_cons_zero, List.set_cons_succ])
                      refine wpAnyH_take (i := 8) (v := ?_) rfl (by kernel_rfl) (by kernel_rfl) (by kernel_rfl) (fun _ _ _ h => h) (Or.inl ⟨by rfl, ?_⟩) (by assumption) ?_
                      case refine_2 => (intro w hSw; (try dsimp only at hSw); go_simp; (try with_reducible rfl))
                      (try simp only [Act.put, List.getElem_toArray, List.getElem_cons_succ, List.getElem_cons_zero, List.setIfInBounds_toArray, List.set_cons_zero, List.set_cons_succ])
                      refine wpAnyH_ready (rs := [9]) (by kernel_rfl) (by simp) ?_
                      refine AllReadyH.cons rfl (fun K hK => ?_) AllReadyH.nil
                      go_simp
                      have bz := al w2 (.cells #[.int .i64 0, .int .i64 0, .int .i64 0, .int .i64 0, .slice none 0 0] 26)
                      refine hK.out _ _ ⟨keep bz HK2.out.1, keep bz HK2.out.2.1, keep bz HK2.out.2.2.1, keep bz HK2.out.2.2.2.1, keep bz HK2.out.2.2.2.2.1, keep bz HK2.out.2.2.2.2.2.1, keep bz HK2.out.2.2.2.2.2.2⟩ (fun hHeld => ?_)
                      clear hK K
                      refine wpAnyH_ready (rs := [10]) (by kernel_rfl) (by simp) ?_
                      refine AllReadyH.cons rfl (fun K hK => ?_) AllReadyH.nil
                      go_simp
                      have bz2 := al w2 (.cells #[.int .i64 (V j).p.1, .int .i64 (V j).p.2, .int .i64 (V j).a.1, .int .i64 (V j).a.2, .slice y (V j).n cy] 26)
                      refine hK.out _ _ ⟨keep bz2 HK2.out.1, keep bz2 HK2.out.2.1, keep bz2 HK2.out.2.2.1, keep bz2 HK2.out.2.2.2.1, keep bz2 HK2.out.2.2.2.2.1, keep bz2 HK2.out.2.2.2.2.2.1, keep bz2 HK2.out.2.2.2.2.2.2⟩ (fun hHeld => ?_)
                      clear hK K
                      refine wpAnyH_take (i := 11) (v := ?_) rfl (by kernel_rfl) (by kernel_rfl) (by kernel_rfl) (fun _ _ _ h => h) (Or.inl ⟨by rfl, ?_⟩) (by assumption) ?_
                      case refine_2 => (intro w hSw; (try dsimp only at hSw); go_simp; (try with_reducible rfl))
                      (try simp only [Act.put, List.getElem_toArray, List.getElem_cons_succ, List.getElem_cons_zero, List.setIfInBounds_toArray, List.set_cons_zero, List.set_cons_succ])
                      refine wpAnyH_done (by kernel_rfl) ?_ _
                      clear bz bz2
                      have BE : Below wD.heap.size wD (w2.alloc (.cells #[.int .i64 (V j).p.1, .int .i64 (V j).p.2, .int .i64 (V j).a.1, .int .i64 (V j).a.2, .slice y (V j).n cy] 26)) := on H2.out.1 (al _ _)
                      have HV3 : Hid (Sv (w2.alloc (.cells #[.int .i64 (V j).p.1, .int .i64 (V j).p.2, .int .i64 (V j).a.1, .int .i64 (V j).a.2, .slice y (V j).n cy] 26)) y (V j).n cy (V j).d) := (H2.out.sv HV.out.sm).below (al _ _)
                      have lg : wD.heap.size ≤ w2.heap.size := H2.out.1.size
                      have HP3 : Hid (P2 w (w2.alloc (.cells #[.int .i64 (V j).p.1, .int .i64 (V j).p.2, .int .i64 (V j).a.1, .int .i64 (V j).a.2, .slice y (V j).n cy] 26)) n m (bs + 1) rs bs (b1, b2) at_ fx fn fc sb j V Q) := HPD.out.below BE
                      have lg2 : Hid (wr.heap.size ≤ w2.heap.size) := Nat.le_trans (Nat.le_of_eq eD) lg
                      go_wp2_with fail
                      go_meet
                      case rel => exact ⟨w2.heap.size, y, cy, false, rfl, rfl, lg2.out, HP3.out, HV3.out, fun h => by cases h⟩
                    · go_simp
                      have bz := al wD (.cells #[.int .i64 0, .int .i64 0, .int .i64 0, .int .i64 0, .slice none 0 0] 26)
                      have HKz : Hid ((wD.alloc (.cells #[.int .i64 0, .int .i64 0, .int .i64 0, .int .i64 0, .slice none 0 0] 26)).cell? ⟨w.heap.size, j * 5, none⟩ = some (.int .i64 (V j).p.1) ∧ (wD.alloc (.cells #[.int .i64 0, .int .i64 0, .int .i64 0, .int .i64 0, .slice none 0 0] 26)).cell? ⟨w.heap.size, j * 5 + 1, none⟩ = some (.int .i64 (V j).p.2) ∧ (wD.alloc (.cells #[.int .i64 0, .int .i64 0, .int .i64 0, .int .i64 0, .slice none 0 0] 26)).cell? ⟨w.heap.size, j * 5 + 2, none⟩ = some (.int .i64 (V j).a.1) ∧ (wD.alloc (.cells #[.int .i64 0, .int .i64 0, .int .i64 0, .int .i64 0, .slice none 0 0] 26)).cell? ⟨w.heap.size, j * 5 + 3, none⟩ = some (.int .i64 (V j).a.2) ∧ (wD.alloc (.cells #[.int .i64 0, .int .i64 0, .int .i64 0, .int .i64 0, .slice none 0 0] 26)).cell? ⟨w.heap.size, j * 5 + 4, none⟩ = some (.slice (V j).x (V j).n (V j).c) ∧ (wD.alloc (.cells #[.int .i64 0, .int .i64 0, .int .i64 0, .int .i64 0, .slice none 0 0] 26)).cell? ⟨bs, 0, none⟩ = some (.int .i64 b1) ∧ (wD.alloc (.cells #[.int .i64 0, .int .i64 0, .int .i64 0, .int .i64 0, .slice none 0 0] 26)).cell? ⟨bs, 1, none⟩ = some (.int .i64 b2)) := ⟨keep bz HK.out.1, keep bz HK.out.2.1, keep bz HK.out.2.2.1, keep bz HK.out.2.2.2.1, keep bz HK.out.2.2.2.2.1, keep bz HK.out.2.2.2.2.2.1, keep bz HK.out.2.2.2.2.2.2⟩
                      refine hK.out _ _ HKz.out (fun hHeld => ?_)
                      clear hK K
                      refine wpAnyH_ready (rs := [5]) (by kernel_rfl) (by simp) ?_
                      refine AllReadyH.cons rfl (fun K hK => ?_) AllReadyH.nil
                      go_simp
                      refine (hPr _ (HV.out.sl.below bz)).mono ?_
                      rintro e w2 ⟨y, cy, rfl, H2⟩
                      have HK2 : Hid (w2.cell? ⟨w.heap.size, j * 5, none⟩ = some (.int .i64 (V j).p.1) ∧ w2.cell? ⟨w.heap.size, j * 5 + 1, none⟩ = some (.int .i64 (V j).p.2) ∧ w2.cell? ⟨w.heap.size, j * 5 + 2, none⟩ = some (.int .i64 (V j).a.1) ∧ w2.cell? ⟨w.heap.size, j * 5 + 3, none⟩ = some (.int .i64 (V j).a.2) ∧ w2.cell? ⟨w.heap.size, j * 5 + 4, none⟩ = some (.slice (V j).x (V j).n (V j).c) ∧ w2.cell? ⟨bs, 0, none⟩ = some (.int .i64 b1) ∧ w2.cell? ⟨bs, 1, none⟩ = some (.int .i64 b2)) := ⟨keep H2.out.1 HKz.out.1, keep H2.out.1 HKz.out.2.1, keep H2.out.1 HKz.out.2.2.1, keep H2.out.1 HKz.out.2.2.2.1, keep H2.out.1 HKz.out.2.2.2.2.1, keep H2.out.1 HKz.out.2.2.2.2.2.1, keep H2.out.1 HKz.out.2.2.2.2.2.2⟩
                      have u0 := keep H2.out.1 (b := wD.heap.size) (o := 0) (x := .int .i64 0) (by first | assumption | go_simp)
                      have u1 := keep H2.out.1 (b := wD.heap.size) (o := 1) (x := .int .i64 0) (by first | assumption | go_simp)
                      have u2 := keep H2.out.1 (b := wD.heap.size) (o := 2) (x := .int .i64 0) (by first | assumption | go_simp)
                      have u3 := keep H2.out.1 (b := wD.heap.size) (o := 3) (x := .int .i64 0) (by first | assumption | go_simp)
                      have u4 := keep H2.out.1 (b := wD.heap.size) (o := 4) (x := .slice none 0 0) (by first | assumption | go_simp)
                      have v0 := keepf H2.out.1 (b := wD.heap.size) (o := 0) (by first | (simp <;> omega) | exact cell_lt' (a := ⟨wD.heap.size, 0, none⟩) (by assumption) | (simp; exact cell_lt' (a := ⟨wD.heap.size, 0, none⟩) (by assumption))) (by first | assumption | go_simp)
                      have v1 := keepf H2.out.1 (b := wD.heap.size) (o := 1) (by first | (simp <;> omega) | exact cell_lt' (a := ⟨wD.heap.size, 1, none⟩) (by assumption) | (simp; exact cell_lt' (a := ⟨wD.heap.size, 1, none⟩) (by assumption))) (by first | assumption | go_simp)
                      have v2 := keepf H2.out.1 (b := wD.heap.size) (o := 2) (by first | (simp <;> omega) | exact cell_lt' (a := ⟨wD.heap.size, 2, none⟩) (by assumption) | (simp; exact cell_lt' (a := ⟨wD.heap.size, 2, none⟩) (by assumption))) (by first | assumption | go_simp)
                      have v3 := keepf H2.out.1 (b := wD.heap.size) (o := 3) (by first | (simp <;> omega) | exact cell_lt' (a := ⟨wD.heap.size, 3, none⟩) (by assumption) | (simp; exact cell_lt' (a := ⟨wD.heap.size, 3, none⟩) (by assumption))) (by first | assumption | go_simp)
                      have v4 := keepf H2.out.1 (b := wD.heap.size) (o := 4) (by first | (simp <;> omega) | exact cell_lt' (a := ⟨wD.heap.size, 4, none⟩) (by assumption) | (simp; exact cell_lt' (a := ⟨wD.heap.size, 4, none⟩) (by assumption))) (by first | assumption | go_simp)
                      have l9 : w.heap.size < wD.heap.size := cell_lt' HK.out.1
                      have l10 : bs < wD.heap.size := cell_lt' HK.out.2.2.2.2.2.1
                      refine hK.out _ _ HK2.out (fun hHeld => ?_)
                      clear hK K
                      refine wpAnyH_take (i := 6) (v := ?_) rfl (by kernel_rfl) (by kernel_rfl) (by kernel_rfl) (fun _ _ _ h => h) (Or.inl ⟨by rfl, ?_⟩) (by assumption) ?_
                      case refine_2 => (intro w hSw; (try dsimp only at hSw); go_simp; (try with_reducible rfl))
                      (try simp only [Act.put, List.getElem_toArray, List.getElem_cons_succ, List.getElem_cons_zero, List.setIfInBounds_toArray, List.set_cons_zero, List.set_cons_succ])
                      refine wpAnyH_take (i := 7) (v := ?_) rfl (by kernel_rfl) (by kernel_rfl) (by kernel_rfl) (fun _ _ _ h => h) (Or.inl ⟨by rfl, ?_⟩) (by assumption) ?_
                      case refine_2 => (intro w hSw; (try dsimp only at hSw); go_simp; (try with_reducible rfl))
                      (try simp only [Act.put, List.getElem_toArray, List.getElem_cons_succ, List.getElem_cons_zero, List.setIfInBounds_toArray, List.set_cons_zero, List.set_cons_succ])
                      refine wpAnyH_take (i := 8) (v := ?_) rfl (by kernel_rfl) (by kernel_rfl) (by kernel_rfl) (fun _ _ _ h => h) (Or.inl ⟨by rfl, ?_⟩) (by assumption) ?_
                      case refine_2 => (intro w hSw; (try dsimp only at hSw); go_simp; (try with_reducible rfl))
                      (try simp only [Act.put, List.getElem_toArray, List.getElem_cons_succ, List.getElem_cons_zero, List.setIfInBounds_toArray, List.set_cons_zero, List.set_cons_succ])
                      refine wpAnyH_ready (rs := [10]) (by kernel_rfl) (by simp) ?_
                      refine AllReadyH.cons rfl (fun K hK => ?_) AllReadyH.nil
                      go_simp
                      have t5 := (Turns.refl (atB wD.heap.size) w2).set5 wD.heap.size rfl (.int .i64 (V j).p.1) (.int .i64 (V j).p.2) (.int .i64 (V j).a.1) (.int .i64 (V j).a.2) (.slice y (V j).n cy)
                      refine hK.out _ _ ⟨keepn t5 (by omega) HK2.out.1, keepn t5 (by omega) HK2.out.2.1, keepn t5 (by omega) HK2.out.2.2.1, keepn t5 (by omega) HK2.out.2.2.2.1, keepn t5 (by omega) HK2.out.2.2.2.2.1, keepn t5 (by omega) HK2.out.2.2.2.2.2.1, keepn t5 (by omega) HK2.out.2.2.2.2.2.2⟩ (fun hHeld => ?_)
                      clear hK K
                      refine wpAnyH_take (i := 11) (v := ?_) rfl (by kernel_rfl) (by kernel_rfl) (by kernel_rfl) (fun _ _ _ h => h) (Or.inl ⟨by rfl, ?_⟩) (by assumption) ?_
                      case refine_2 => (intro w hSw; (try dsimp only at hSw); go_simp; (try with_reducible rfl))
                      (try simp only [Act.put, List.getElem_toArray, List.getElem_cons_succ, List.getElem_cons_zero, List.setIfInBounds_toArray, List.set_cons_zero, List.set_cons_succ])
                      refine wpAnyH_done (by kernel_rfl) ?_ _
                      clear bz t5
                      have BE : Below wD.heap.size wD (((((w2.setCell ⟨wD.heap.size, 0, none⟩ (.int .i64 (V j).p.1)).setCell ⟨wD.heap.size, 1, none⟩ (.int .i64 (V j).p.2)).setCell ⟨wD.heap.size, 2, none⟩ (.int .i64 (V j).a.1)).setCell ⟨wD.heap.size, 3, none⟩ (.int .i64 (V j).a.2)).setCell ⟨wD.heap.size, 4, none⟩ (.slice y (V j).n cy)) := below5 (on (al _ _) H2.out.1) wD.heap.size (Nat.le_refl _) _ _ _ _ _
                      have HV3 : Hid (Sv (((((w2.setCell ⟨wD.heap.size, 0, none⟩ (.int .i64 (V j).p.1)).setCell ⟨wD.heap.size, 1, none⟩ (.int .i64 (V j).p.2)).setCell ⟨wD.heap.size, 2, none⟩ (.int .i64 (V j).a.1)).setCell ⟨wD.heap.size, 3, none⟩ (.int .i64 (V j).a.2)).setCell ⟨wD.heap.size, 4, none⟩ (.slice y (V j).n cy)) y (V j).n cy (V j).d) := (Vl.turns (al wD (.cells #[.int .i64 0, .int .i64 0, .int .i64 0, .int .i64 0, .slice none 0 0] 26)) H2.out ((Turns.refl (fun k => wD.heap.size ≤ k ∧ k < (wD.alloc (.cells #[.int .i64 0, .int .i64 0, .int .i64 0, .int .i64 0, .slice none 0 0] 26)).heap.size) w2).set5 wD.heap.size ⟨Nat.le_refl _, by simp⟩ _ _ _ _ _)).sv HV.out.sm
                      have lg : wD.heap.size ≤ wD.heap.size := Nat.le_refl _
                      have HP3 : Hid (P2 w (((((w2.setCell ⟨wD.heap.size, 0, none⟩ (.int .i64 (V j).p.1)).setCell ⟨wD.heap.size, 1, none⟩ (.int .i64 (V j).p.2)).setCell ⟨wD.heap.size, 2, none⟩ (.int .i64 (V j).a.1)).setCell ⟨wD.heap.size, 3, none⟩ (.int .i64 (V j).a.2)).setCell ⟨wD.heap.size, 4, none⟩ (.slice y (V j).n cy)) n m (bs + 1) rs bs (b1, b2) at_ fx fn fc sb j V Q) := HPD.out.below BE
                      have lg2 : Hid (wr.heap.size ≤ wD.heap.size) := Nat.le_trans (Nat.le_of_eq eD) lg
                      go_wp2_with fail
                      go_meet
                      case rel => exact ⟨wD.heap.size, y, cy, false, rfl, rfl, lg2.out, HP3.out, HV3.out, fun h => by cases h⟩
                case rest =>
                  obtain ⟨ga, y, cy, t, rfl, rfl, HCt⟩ := hcut
                  have HP3 : Hid (P2 w wc n m (bs + 1) rs bs (b1, b2) at_ fx fn fc sb j V Q) := HCt.out.2.1
                  have HV3 : Hid (Sv wc y (V j).n cy (V j).d) := HCt.out.2.2.1
                  have lg := HCt.out.1
                  cases t with
                  | false =>
                    clear HCt HPD HV HK HP
                    go_wp2_with fail
                    go_roundw
                    case rel => exact ⟨j + 1, V, Q, by omega, by go_num, HP3.out.next⟩
                    case measure => simp [intOf]; omega
                  | true =>
                    obtain ⟨z0, z1, z2, z3, z4⟩ := HCt.out.2.2.2 rfl
                    clear HCt HPD HV HK HP
                    go_wp2_with fail
                    have HP4 : Hid (P2 w wc.drew n m (bs + 1) rs bs (b1, b2) at_ fx fn fc sb j V Q) := HP3.out.below (Below.refl _ _).drew
                    have HV4 : Hid (Sv wc.drew y (V j).n cy (V j).d) := HV3.out.below (Below.refl _ _).drew
                    have y0 : wc.drew.cell? ⟨ga, 0, none⟩ = some (.int .i64 b1) := z0
                    have y1 : wc.drew.cell? ⟨ga, 1, none⟩ = some (.int .i64 b2) := z1
                    have y2 : wc.drew.cell? ⟨ga, 2, none⟩ = some (.int .i64 (V j).a.1) := z2
                    have y3 : wc.drew.cell? ⟨ga, 3, none⟩ = some (.int .i64 (V j).a.2) := z3
                    have y4 : wc.drew.cell? ⟨ga, 4, none⟩ = some (.slice y (V j).n cy) := z4
                    have HK4 : Hid (wc.drew.cell? ⟨w.heap.size, j * 5, none⟩ = some (.int .i64 (V j).p.1) ∧ wc.drew.cell? ⟨w.heap.size, j * 5 + 1, none⟩ = some (.int .i64 (V j).p.2) ∧ wc.drew.cell? ⟨w.heap.size, j * 5 + 2, none⟩ = some (.int .i64 (V j).a.1) ∧ wc.drew.cell? ⟨w.heap.size, j * 5 + 3, none⟩ = some (.int .i64 (V j).a.2) ∧ wc.drew.cell? ⟨w.heap.size, j * 5 + 4, none⟩ = some (.slice (V j).x (V j).n (V j).c) ∧ wc.drew.cell? ⟨w.heap.size + 1, m * 5 + 2, none⟩ = some (.map (some (bs + 1)))) := ⟨HP4.out.1.all.cell j 0 hjn (by omega), HP4.out.1.all.cell j 1 hjn (by omega), HP4.out.1.all.cell j 2 hjn (by omega), HP4.out.1.all.cell j 3 hjn (by omega), HP4.out.1.all.cell j 4 hjn (by omega), by
                      have q := HP4.out.1.prs.cell m 2 hm (by omega)
                      have e : prC (Q m) 2 = .map (some (bs + 1)) := congrArg Value.map HP4.out.2.2.2.2.1
                      exact q.trans (congrArg some e)⟩
                    clear HP3 HV3 z0 z1 z2 z3 z4
                    refine wp_region_held_drew (S := fun v => v.cell? ⟨w.heap.size, j * 5, none⟩ = some (.int .i64 (V j).p.1) ∧ v.cell? ⟨w.heap.size, j * 5 + 1, none⟩ = some (.int .i64 (V j).p.2) ∧ v.cell? ⟨w.heap.size, j * 5 + 2, none⟩ = some (.int .i64 (V j).a.1) ∧ v.cell? ⟨w.heap.size, j * 5 + 3, none⟩ = some (.int .i64 (V j).a.2) ∧ v.cell? ⟨w.heap.size, j * 5 + 4, none⟩ = some (.slice (V j).x (V j).n (V j).c) ∧ v.cell? ⟨w.heap.size + 1, m * 5 + 2, none⟩ = some (.map (some (bs + 1)))) (by kernel_rfl) HK4.out (fun hHeld => ?_)
                    generalize wc.drew = w4 at *
                    obtain ⟨wm, hupd, tm, harr, V', Q', HP5⟩ := HP4.out.put hm HB.out.2.1 hjn ⟨by omega, by omega⟩ ⟨by omega, by omega⟩ y cy HV4.out
                    dsimp only [av, ac] at hupd
                    refine wpAnyH_take (i := 0) (v := ?_) rfl (by kernel_rfl) (by kernel_rfl) (by kernel_rfl) (fun _ _ _ h => h) (Or.inl ⟨by rfl, ?_⟩) (by assumption) ?_
                    case refine_2 => (intro w hSw; (try dsimp only at hSw); go_simp; (try with_reducible rfl))
                    (try simp only [Act.put, List.getElem_toArray, List.getElem_cons_succ, List.getElem_cons_zero, List.setIfInBounds_toArray, List.set_cons_zero, List.set_cons_succ])
                    refine wpAnyH_take (i := 1) (v := ?_) rfl (by kernel_rfl) (by kernel_rfl) (by kernel_rfl) (fun _ _ _ h => h) (Or.inl ⟨by rfl, ?_⟩) (by assumption) ?_
                    case refine_2 => (intro w hSw; (try dsimp only at hSw); go_simp; (try with_reducible rfl))
                    (try simp only [Act.put, List.getElem_toArray, List.getElem_cons_succ, List.getElem_cons_zero, List.setIfInBounds_toArray, List.set_cons_zero, List.set_cons_succ])
                    refine wpAnyH_take (i := 2) (v := ?_) rfl (by kernel_rfl) (by kernel_rfl) (by kernel_rfl) (fun _ _ _ h => h) (Or.inl ⟨by rfl, ?_⟩) (by assumption) ?_
                    case refine_2 => (intro w hSw; (try dsimp only at hSw); go_simp; (try with_reducible rfl))
                    (try simp only [Act.put, List.getElem_toArray, List.getElem_cons_succ, List.getElem_cons_zero, List.setIfInBounds_toArray, List.set_cons_zero, List.set_cons_succ])
                    refine wpAnyH_take (i := 3) (v := ?_) rfl (by kernel_rfl) (by kernel_rfl) (by kernel_rfl) (fun _ _ _ h => h) (Or.inl ⟨by rfl, ?_⟩) (by assumption) ?_
                    case refine_2 => (intro w hSw; (try dsimp only at hSw); go_simp; (try with_reducible rfl))
                    (try simp only [Act.put, List.getElem_toArray, List.getElem_cons_succ, List.getElem_cons_zero, List.setIfInBounds_toArray, List.set_cons_zero, List.set_cons_succ])
                    refine wpAnyH_take (i := 4) (v := ?_) rfl (by kernel_rfl) (by kernel_rfl) (by kernel_rfl) (fun _ _ _ h => h) (Or.inl ⟨by rfl, ?_⟩) (by assumption) ?_
                    case refine_2 => (intro w hSw; (try dsimp only at hSw); go_simp; (try with_reducible rfl))
                    (try simp only [Act.put, List.getElem_toArray, List.getElem_cons_succ, List.getElem_cons_zero, List.setIfInBounds_toArray, List.set_cons_zero, List.set_cons_succ])
                    refine wpAnyH_take (i := 5) (v := ?_) rfl (by kernel_rfl) (by kernel_rfl) (by kernel_rfl) (fun _ _ _ h => h) (Or.inl ⟨by rfl, ?_⟩) (by assumption) ?_
                    case refine_2 => (intro w hSw; (try dsimp only at hSw); go_simp; (try with_reducible rfl))
                    (try simp only [Act.put, List.getElem_toArray, List.getElem_cons_succ, List.getElem_cons_zero, List.setIfInBounds_toArray, List.set_cons_zero, List.set_cons_succ])
                    refine wpAnyH_take (i := 6) (v := ?_) rfl (by kernel_rfl) (by kernel_rfl) (by kernel_rfl) (fun _ _ _ h => h) (Or.inl ⟨by rfl, ?_⟩) (by assumption) ?_
                    case refine_2 => (intro w hSw; (try dsimp only at hSw); go_simp; (try with_reducible rfl))
                    (try simp only [Act.put, List.getElem_toArray, List.getElem_cons_succ, List.getElem_cons_zero, List.setIfInBounds_toArray, List.set_cons_zero, List.set_cons_succ])
                    refine wpAnyH_take (i := 7) (v := ?_) rfl (by kernel_rfl) (by kernel_rfl) (by kernel_rfl) (fun _ _ _ h => h) (Or.inl ⟨by rfl, ?_⟩) (by assumption) ?_
                    case refine_2 => (intro w hSw; (try dsimp only at hSw); go_simp; (try with_reducible rfl))
                    (try simp only [Act.put, List.getElem_toArray, List.getElem_cons_succ, List.getElem_cons_zero, List.setIfInBounds_toArray, List.set_cons_zero, List.set_cons_succ])
                    refine wpAnyH_take (i := 8) (v := ?_) rfl (by kernel_rfl) (by kernel_rfl) (by kernel_rfl) (fun _ _ _ h => h) (Or.inl ⟨by rfl, ?_⟩) (by assumption) ?_
                    case refine_2 => (intro w hSw; (try dsimp only at hSw); go_simp; (try with_reducible rfl))
                    (try simp only [Act.put, List.getElem_toArray, List.getElem_cons_succ, List.getElem_cons_zero, List.setIfInBounds_toArray, List.set_cons_zero, List.set_cons_succ])
                    refine wpAnyH_ready (rs := [9]) (by kernel_rfl) (by simp) ?_
                    refine AllReadyH.cons rfl (fun K hK => ?_) AllReadyH.nil
                    refine st_mapset rfl _ _ _ 44 rfl _ _ _ rfl rfl rfl hupd ?_
                    (try simp only [Act.put, List.getElem_toArray, List.getElem_cons_succ, List.getElem_cons_zero, List.setIfInBounds_toArray, List.set_cons_zero, List.set_cons_succ])
                    refine hK.out _ _ ⟨harr.cell j 0 hjn (by omega), harr.cell j 1 hjn (by omega), harr.cell j 2 hjn (by omega), harr.cell j 3 hjn (by omega), harr.cell j 4 hjn (by omega), keepn tm (by omega) HK4.out.2.2.2.2.2⟩ (fun hHeld => ?_)
                    clear hK K
                    refine wpAnyH_done (by kernel_rfl) ?_ _
                    have x0 := keepn tm (by omega) y0
                    have x1 := keepn tm (by omega) y1
                    have x2 := keepn tm (by omega) y2
                    have x3 := keepn tm (by omega) y3
                    have x4 := keepn tm (by omega) y4
                    have r0 : wm.cell? ⟨w.heap.size, j * 5, none⟩ = some (accC (V j) 0) := harr.cell j 0 hjn (by omega)
                    have r1 := harr.cell j 1 hjn (by omega)
                    have r2 := harr.cell j 2 hjn (by omega)
                    have r3 := harr.cell j 3 hjn (by omega)
                    have r4 := harr.cell j 4 hjn (by omega)
                    have i0 := harr.frz (j * 5)
                    have i1 := harr.frz (j * 5 + 1)
                    have i2 := harr.frz (j * 5 + 2)
                    have i3 := harr.frz (j * 5 + 3)
                    have i4 := harr.frz (j * 5 + 4)
                    have HP6 : Hid _ := HP5
                    clear HP4 HV4 HK4 hupd tm harr HP5 y0 y1 y2 y3 y4
                    go_wp2_with fail
                    go_roundw
                    case rel => exact ⟨j + 1, V', Q', by omega, by go_num, HP6.out⟩
                    case measure => simp [intOf]; omega
              · refine ⟨⟨j + 1, V, Q, by omega, by go_num, HP.out.next⟩, ?_⟩
                simp [intOf]
                omega
            · obtain rfl : j = n := by omega
              have HR : Hid (St w wr j w.heap.size (w.heap.size + 1) (w.heap.size + 1 + 1) (k + 1) fx fn fc sb) := by
                obtain ⟨fd, q1, q2⟩ := HP.out.2.1
                exact ⟨V, Q, _, fd, HP.out.1, q1, q2, HB.out.2.2.2.1⟩
              clear HP
              go_wp2_with fail
              go_roundw
              case rel => exact ⟨k + 1, fx, fn, fc, sb, by omega, by omega, rfl, rfl, by go_num, HR.out⟩
              case measure => simp [intOf]; omega
        | true =>
          rw [hac] at d1
          clear hac
          have p2 : wr.cell? ⟨w.heap.size + 1, m * 5 + 2, none⟩ = some (.map (Q m).mp) := HM.out.prs.cell m 2 hm (by omega)
          have p4 : wr.cell? ⟨w.heap.size + 1, m * 5 + 4, none⟩ = some (.bool (Q m).ask) := HM.out.prs.cell m 4 hm (by omega)
          have HN1 : Hid (SeenOk seen (k + 1)) := by
            rcases HN.out with e | ⟨e1, e2, e3, e4⟩
            · exact .inl e
            · exact .inr ⟨e1, by omega, e3, e4⟩
          have HW : Hid (∀ W, Below wr.heap.size wr W → St w W n w.heap.size (w.heap.size + 1) (w.heap.size + 1 + 1) (k + 1) fx fn fc sb) := fun W hW => ⟨V, Q, seen, fd, HM.out.below hW, HG.out, HF.out.below hW, HN1.out⟩
          clear HN
          cases hmp : (Q m).mp with
          | none =>
            rw [hmp] at p2
            clear hmp HM HG HF p4
            go_wp2_with fail
            go_roundw
            case rel => exact ⟨k + 1, fx, fn, fc, sb, by omega, by omega, rfl, rfl, by go_num, HW.out _ (al _ _)⟩
            case measure => simp [intOf]; omega
          | some mb =>
            rw [hmp] at p2
            obtain ⟨cb, D, hmap⟩ : ∃ cb D, MpAt wr mb cb D (Q m).M := by
              rcases HM.out.map m hm with ⟨q, _⟩ | ⟨mb', nb, D, q1, _, q3⟩
              · rw [hmp] at q
                cases q
              · rw [hmp] at q1
                injection q1 with q1
                subst q1
                exact ⟨nb, D, q3⟩
            obtain ⟨c, ec⟩ : ∃ c, c = cnt (fun k => ((Q m).M k).isSome) 7 := ⟨_, rfl⟩
            have hc7 : (c : Int) ≤ 7 := by
              have := cnt_le (fun k => ((Q m).M k).isSome) 7
              omega
            have hlen := fun ty => (hmap.turns (w' := wr.alloc (.cells #[.int .i64 mon, .bool true, .int .u8 (at_ : Int), .int .u8 (val : Int)] 42)) (Turns.of_below (F := fun _ => False) (al _ _)) (fun h => h) (fun _ h => h.elim)).len ty
            rw [← ec] at hlen
            have HC : Hid (c = cnt (fun k => ((Q m).M k).isSome) 7) := ec
            have HMp : Hid (MpAt wr mb cb D (Q m).M) := hmap
            clear ec hmap
            by_cases h2 : 2 * c ≤ n
            · have h2z : 2 * (c : Int) ≤ (n : Int) := by omega
              clear HM HG HF p4 hmp HMp HC h2
              go_wp2_with fail
              go_roundw
              case rel => exact ⟨k + 1, fx, fn, fc, sb, by omega, by omega, rfl, rfl, by go_num, HW.out _ (al _ _)⟩
              case measure => simp [intOf]; omega
            · have h2z : ¬ 2 * (c : Int) ≤ (n : Int) := by omega
              clear HW
              go_upto_if 123 with fail
              go_cut [19, 20, 21, 22] (fun _ _ _ _ wc => Hid (∃ Q', P4 w wc n m wr.heap.size seen at_ fx fn fc sb V Q'))
              case first =>
                cases hask : (Q m).ask with
                | true =>
                  have HP0 : Hid (P4 w (wr.alloc (.cells #[.int .i64 mon, .bool true, .int .u8 (at_ : Int), .int .u8 (val : Int)] 42)) n m wr.heap.size seen at_ fx fn fc sb V Q) := ⟨HM.out.below (al _ _), ⟨fd, HG.out, HF.out.below (al _ _)⟩, hask, by go_simp⟩
                  clear HM HG HF hmp HMp HC h2 hask
                  go_wp2_with fail
                  go_meet
                  case rel => exact ⟨Q, HP0.out⟩
                | false =>
                  have HT0 : Hid (Own ((wr.alloc (.cells #[.int .i64 mon, .bool true, .int .u8 (at_ : Int), .int .u8 (val : Int)] 42)).alloc (.cells #[] 26)) (wr.alloc (.cells #[.int .i64 mon, .bool true, .int .u8 (at_ : Int), .int .u8 (val : Int)] 42)).heap.size 26 5 encA (.slice (some ⟨wr.heap.size + 1, 0, none⟩) 0 0) (told (Q m).M 0)) := by
                    have := Own.empty (wr.alloc (.cells #[.int .i64 mon, .bool true, .int .u8 (at_ : Int), .int .u8 (val : Int)] 42)) (Nat.le_refl _) 26 5 encA
                    have e : (wr.alloc (.cells #[.int .i64 mon, .bool true, .int .u8 (at_ : Int), .int .u8 (val : Int)] 42)).heap.size = wr.heap.size + 1 := by simp
                    rw [e] at this ⊢
                    exact this
                  have HM0 : Hid (MemA w (wr.alloc (.cells #[.int .i64 mon, .bool true, .int .u8 (at_ : Int), .int .u8 (val : Int)] 42)) n V Q seen) := HM.out.below (al _ _)
                  have HF0 : Hid (Sv (wr.alloc (.cells #[.int .i64 mon, .bool true, .int .u8 (at_ : Int), .int .u8 (val : Int)] 42)) fx fn fc fd) := HF.out.below (al _ _)
                  have HMp0 : Hid (MpAt (wr.alloc (.cells #[.int .i64 mon, .bool true, .int .u8 (at_ : Int), .int .u8 (val : Int)] 42)) mb cb D (Q m).M) := HMp.out.turns (Turns.of_below (F := fun _ => False) (al _ _)) (fun h => h) (fun _ h => h.elim)
                  have t2 : (wr.alloc (.cells #[.int .i64 mon, .bool true, .int .u8 (at_ : Int), .int .u8 (val : Int)] 42)).cell? ⟨wr.heap.size, 2, none⟩ = some (.int .u8 (at_ : Int)) := by go_simp
                  have t3 : (wr.alloc (.cells #[.int .i64 mon, .bool true, .int .u8 (at_ : Int), .int .u8 (val : Int)] 42)).cell? ⟨wr.heap.size, 3, none⟩ = some (.int .u8 (val : Int)) := by go_simp
                  have HA : Hid ((Q m).ask = false ∧ n < 2 * cnt (fun k => ((Q m).M k).isSome) 7) := ⟨hask, by have := HC.out; omega⟩
                  have lW : (wr.alloc (.cells #[.int .i64 mon, .bool true, .int .u8 (at_ : Int), .int .u8 (val : Int)] 42)).heap.size = wr.heap.size + 1 := by simp
                  have HQm : Hid ((Q m).mp = some mb) := hmp
                  clear HM HF hmp HMp HC h2 hask
                  go_wp2_with fail
                  clear p2 p4 hlen em d0 d1 d2 d3 h2z hc7
                  generalize wr.alloc (.cells #[.int .i64 mon, .bool true, .int .u8 (at_ : Int), .int .u8 (val : Int)] 42) = W0 at *
                  generalize wr.heap.size = rs at *
                  go_loopw [19, 20] (fun tl i wv => ∃ (j : Nat) (x : Option Addr) (tn tc : Nat), j ≤ n ∧ tl = .slice x tn tc ∧ i = .int .i64 j ∧ Hid (Below W0.heap.size W0 wv ∧ Own wv W0.heap.size 26 5 encA (.slice x tn tc) (told (Q m).M j))) (fun _ i _ => n - (intOf i).toNat)
                  case atStart => exact ⟨0, _, 0, 0, by omega, rfl, rfl, al _ _, HT0.out⟩
                  case round =>
                    clear HT0
                    obtain ⟨j, tx, tn, tc, hj, rfl, rfl, HR⟩ := hrel
                    have B0 := HR.out.1
                    have HMv : Hid (MemA w wr n V Q seen) := HM0.out.below B0
                    have HMpv : Hid (MpAt wr mb cb D (Q m).M) := HMp0.out.turns (Turns.of_below (F := fun _ => False) B0) (fun h => h) (fun _ h => h.elim)
                    have lAv : w.heap.size + 1 < wr.heap.size := HMv.out.prs.tb.lt
                    have lrv : rs < wr.heap.size := by have := B0.size; omega
                    by_cases hjn : j < n
                    · have hjz : (j : Int) < (n : Int) := by omega
                      have p2 : wr.cell? ⟨w.heap.size + 1, m * 5 + 2, none⟩ = some (.map (some mb)) := by
                        have q := HMv.out.prs.cell m 2 hm (by omega)
                        have e : prC (Q m) 2 = .map (some mb) := congrArg Value.map HQm.out
                        exact q.trans (congrArg some e)
                      obtain ⟨v, hlk, hno, hyes⟩ := HMpv.out.look j (by omega)
                      cases hMj : (Q m).M j with
                      | none =>
                        have ev := hno hMj
                        rw [hMj] at hlk
                        subst ev
                        dsimp only [ac, z0, Option.isSome] at hlk
                        have HT1 : Hid (∀ o, Below W0.heap.size W0 (wr.alloc o) ∧ Own (wr.alloc o) W0.heap.size 26 5 encA (.slice tx tn tc) (told (Q m).M (j + 1))) := fun o => ⟨on B0 (al _ _), by
                          rw [told_succ, hMj]
                          simp only [List.append_nil]
                          exact HR.out.2.below (al _ _)⟩
                        clear hno hyes hMj HMv HMpv HR B0
                        go_wp2_with fail
                        go_roundw
                        case rel => exact ⟨j + 1, tx, tn, tc, by omega, rfl, by go_num, HT1.out _⟩
                        case measure => simp [intOf]; omega
                      | some a =>
                        have ev := hyes a hMj
                        rw [hMj] at hlk
                        subst ev
                        dsimp only [av, ac, Option.isSome] at hlk
                        obtain ⟨x', c', wn, hrun, HT1⟩ := told_push HR.out.2 B0.size (by omega) a hMj (.cells #[.int .i64 a.p.1, .int .i64 a.p.2, .int .i64 a.a.1, .int .i64 a.a.2, .slice a.x a.n a.c] 26)
                        have BN : Hid (Below W0.heap.size W0 wn) := B0.trans HT1.out.2
                        clear hno hyes hMj HMv HMpv HR B0
                        go_wp2_with (first
                          | (
                             at_builtin
                             refine wpList_append_run rfl _ _ 39 rfl _ _ rfl rfl hrun ?_))
                        go_roundw
                        case rel => exact ⟨j + 1, x', tn + 1, c', by omega, rfl, by go_num, BN.out, HT1.out.1⟩
                        case measure => simp [intOf]; omega
                    · obtain rfl : j = n := by omega
                      have t3v := keep B0 t3
                      have hsl : Sl (wr.alloc (.cells #[.int .u8 (val : Int)] 5)) (some ⟨wr.heap.size, 0, none⟩) 1 1 [val] := one_sl wr val hval
                      obtain ⟨etn, hacc⟩ := told_accs HMpv.out hn7 HR.out.2
                      have hPk := pick_any tx (told (Q m).M j).length tc (nth (told (Q m).M j)) (some ⟨wr.heap.size, 0, none⟩) 1 1 [val] (wr.alloc (.cells #[.int .u8 (val : Int)] 5)) (hacc.below (al _ _)) hsl (by omega)
                      rw [← etn] at hPk
                      have HEt : Hid (tn = (told (Q m).M j).length) := etn
                      clear etn
                      have HFv : Hid (Sv wr fx fn fc fd) := HF0.out.below B0
                      have t2v := keep B0 t2
                      clear HR hsl hacc HMpv
                      go_wp2_with (first
                        | (
                           go_at_call 18; refine hPk.mono ?_; rintro e w2 ⟨y, mm, cy, d, rfl, H2⟩; clear hPk
                           have B2 : Below wr.heap.size wr w2 := on (al _ _) H2.out.1.1
                           have HM2 : Hid (MemA w w2 j V Q seen) := HMv.out.below B2
                           have p3 := HM2.out.prs.cell m 3 hm (by omega)
                           have p4 := HM2.out.prs.cell m 4 hm (by omega)
                           have g3 := HM2.out.prs.frz (m * 5 + 3)
                           have g4 := HM2.out.prs.frz (m * 5 + 4)
                           have HV2 : Hid (Sv w2 y mm cy d) := H2.out.1.sv H2.out.2.1
                           have HPp : Hid (Picked j (PMof Q m) d) := told_picked (by rw [← HEt.out]; exact H2.out.2.2)
                           have HF2 : Hid (Sv w2 fx fn fc fd) := HFv.out.below B2
                           have HT2 : Hid (w2.cell? ⟨rs, 2, none⟩ = some (.int .u8 (at_ : Int))) := keep B2 t2v
                           clear H2 HMv HFv t2v t3v B2))
                      have HP0 : Hid (P4 w ((w2.setCell ⟨w.heap.size + 1, m * 5 + 3, none⟩ (.slice y mm cy)).setCell ⟨w.heap.size + 1, m * 5 + 4, none⟩ (.bool true)) j m rs seen at_ fx fn fc sb V (up Q m { Q m with x := y, n := mm, c := cy, d := d, ask := true })) := by
                        have t : Turns (atB (w.heap.size + 1)) w2 ((w2.setCell ⟨w.heap.size + 1, m * 5 + 3, none⟩ (.slice y mm cy)).setCell ⟨w.heap.size + 1, m * 5 + 4, none⟩ (.bool true)) :=
                          ((Turns.refl (atB (w.heap.size + 1)) w2).setCell (p := ⟨w.heap.size + 1, m * 5 + 3, none⟩) (.inl rfl) _).setCell (p := ⟨w.heap.size + 1, m * 5 + 4, none⟩) (.inl rfl) _
                        exact ⟨mem_ask HM2.out hm y mm cy d HV2.out, ⟨fd, HG.out.ask hn7 m hm HA.out.1 HA.out.2 d HPp.out _ rfl rfl rfl rfl, HF2.out.turns t (fun i hi => (HM2.out.own4 (.inr (.inl hi))).2)⟩, by rw [up_same], keepn t (by omega) HT2.out⟩
                      clear HM2 HV2 HPp HF2 HT2 p3 p4 g3 g4 HA HG HM0 HF0 HMp0 t2 t3 B0 HEt HQm
                      go_meet
                      case rel => exact ⟨_, HP0.out⟩
              case rest =>
                obtain ⟨Q', hP9⟩ := hcut.out
                have HP0 : Hid (P4 w wc n m wr.heap.size seen at_ fx fn fc sb V Q') := hP9
                clear HM HG HF hmp HMp HC h2 p2 p4 hlen em d0 d1 d2 d3 hcut hP9
                generalize wr.heap.size = rs at *
                go_wp2_with fail
                go_loopw [23] (fun i wv => ∃ (j : Nat) (V : Nat → AccV), j ≤ n ∧ i = .int .i64 j ∧ Hid (P4 w wv n m rs seen at_ fx fn fc sb V Q')) (fun i _ => n - (intOf i).toNat)
                case atStart => exact ⟨0, _, by omega, rfl, HP0.out⟩
                case round =>
                  clear HP0
                  obtain ⟨j, V, hj, rfl, HP⟩ := hrel
                  by_cases hjn : j < n
                  · have hjz : (j : Int) < (n : Int) := by omega
                    have q2 := HP.out.2.2.2
                    go_wp2_with fail
                    · have HV : Hid (Sv wr.drew (V j).x (V j).n (V j).c (V j).d) := (HP.out.1.val j hjn).1.below (Below.refl _ _).drew
                      have HVQ : Hid (Sv wr.drew (Q' m).x (Q' m).n (Q' m).c (Q' m).d) := (HP.out.1.pval m hm).1.below (Below.refl _ _).drew
                      have HPD : Hid (P4 w wr.drew n m rs seen at_ fx fn fc sb V Q') := HP.out.below (Below.refl _ _).drew
                      have HK : Hid (wr.drew.cell? ⟨w.heap.size + 1, m * 5, none⟩ = some (.int .i64 (Q' m).b.1) ∧ wr.drew.cell? ⟨w.heap.size + 1, m * 5 + 1, none⟩ = some (.int .i64 (Q' m).b.2) ∧ wr.drew.cell? ⟨w.heap.size + 1, m * 5 + 3, none⟩ = some (.slice (Q' m).x (Q' m).n (Q' m).c)) := ⟨HP.out.1.prs.cell m 0 hm (by omega), HP.out.1.prs.cell m 1 hm (by omega), HP.out.1.prs.cell m 3 hm (by omega)⟩
                      have c0 : wr.drew.cell? ⟨w.heap.size, j * 5, none⟩ = some (.int .i64 (V j).p.1) := HP.out.1.all.cell j 0 hjn (by omega)
                      have c1 : wr.drew.cell? ⟨w.heap.size, j * 5 + 1, none⟩ = some (.int .i64 (V j).p.2) := HP.out.1.all.cell j 1 hjn (by omega)
                      have c2 : wr.drew.cell? ⟨w.heap.size, j * 5 + 2, none⟩ = some (.int .i64 (V j).a.1) := HP.out.1.all.cell j 2 hjn (by omega)
                      have c3 : wr.drew.cell? ⟨w.heap.size, j * 5 + 3, none⟩ = some (.int .i64 (V j).a.2) := HP.out.1.all.cell j 3 hjn (by omega)
                      have c4 : wr.drew.cell? ⟨w.heap.size, j * 5 + 4, none⟩ = some (.slice (V j).x (V j).n (V j).c) := HP.out.1.all.cell j 4 hjn (by omega)
                      clear q2 HP
                      refine wp_region_held_drew (S := fun v => v.cell? ⟨w.heap.size + 1, m * 5, none⟩ = some (.int .i64 (Q' m).b.1) ∧ v.cell? ⟨w.heap.size + 1, m * 5 + 1, none⟩ = some (.int .i64 (Q' m).b.2) ∧ v.cell? ⟨w.heap.size + 1, m * 5 + 3, none⟩ = some (.slice (Q' m).x (Q' m).n (Q' m).c)) (by kernel_rfl) HK.out (fun hHeld => ?_)
                      generalize wr.drew = wD at *
                      refine wpAnyH_take (i := 0) (v := ?_) rfl (by kernel_rfl) (by kernel_rfl) (by kernel_rfl) (fun _ _ _ h => h) (Or.inl ⟨by rfl, ?_⟩) (by assumption) ?_
                      case refine_2 => (intro w hSw; (try dsimp only at hSw); go_simp; (try with_reducible rfl))
                      (try simp only [Act.put, List.getElem_toArray, List.getElem_cons_succ, List.getElem_cons_zero, List.setIfInBounds_toArray, List.set_cons_zero, List.set_cons_succ])
                      refine wpAnyH_take (i := 1) (v := ?_) rfl (by kernel_rfl) (by kernel_rfl) (by kernel_rfl) (fun _ _ _ h => h) (Or.inl ⟨by rfl, ?_⟩) (by assumption) ?_
                      case refine_2 => (intro w hSw; (try dsimp only at hSw); go_simp; (try with_reducible rfl))
                      (try simp only [Act.put, List.getElem_toArray, List.getElem_cons_succ, List.getElem_cons_zero, List.setIfInBounds_toArray, List.set_cons_zero, List.set_cons_succ])
                      refine wpAnyH_take (i := 2) (v := ?_) rfl (by kernel_rfl) (by kernel_rfl) (by kernel_rfl) (fun _ _ _ h => h) (Or.inl ⟨by rfl, ?_⟩) (by assumption) ?_
                      case refine_2 => (intro w hSw; (try dsimp only at hSw); go_simp; (try with_reducible rfl))
                      (try simp only [Act.put, List.getElem_toArray, List.getElem_cons_succ, List.getElem_cons_zero, List.setIfInBounds_toArray, List.set_cons_zero, List.set_cons_succ])
                      refine wpAnyH_take (i := 3) (v := ?_) rfl (by kernel_rfl) (by kernel_rfl) (by kernel_rfl) (fun _ _ _ h => h) (Or.inl ⟨by rfl, ?_⟩) (by assumption) ?_
                      case refine_2 => (intro w hSw; (try dsimp only at hSw); go_simp; (try with_reducible rfl))
                      (try simp only [Act.put, List.getElem_toArray, List.getElem_cons_succ, List.getElem_cons_zero, List.setIfInBounds_toArray, List.set_cons_zero, List.set_cons_succ])
                      refine wpAnyH_take (i := 4) (v := ?_) rfl (by kernel_rfl) (by kernel_rfl) (by kernel_rfl) (fun _ _ _ h => h) (Or.inl ⟨by rfl, ?_⟩) (by assumption) ?_
                      case refine_2 => (intro w hSw; (try dsimp only at hSw); go_simp; (try with_reducible rfl))
                      (try simp only [Act.put, List.getElem_toArray, List.getElem_cons_succ, List.getElem_cons_zero, List.setIfInBounds_toArray, List.set_cons_zero, List.set_cons_succ])
                      refine wpAnyH_take (i := 6) (v := ?_) rfl (by kernel_rfl) (by kernel_rfl) (by kernel_rfl) (fun _ _ _ h => h) (Or.inl ⟨by rfl, ?_⟩) (by assumption) ?_
                      case refine_2 => (intro w hSw; (try dsimp only at hSw); go_simp; (try with_reducible rfl))
                      (try simp only [Act.put, List.getElem_toArray, List.getElem_cons_succ, List.getElem_cons_zero, List.setIfInBounds_toArray, List.set_cons_zero, List.set_cons_succ])
                      refine wpAnyH_take (i := 7) (v := ?_) rfl (by kernel_rfl) (by kernel_rfl) (by kernel_rfl) (fun _ _ _ h => h) (Or.inl ⟨by rfl, ?_⟩) (by assumption) ?_
                      case refine_2 => (intro w hSw; (try dsimp only at hSw); go_simp; (try with_reducible rfl))
                      (try simp only [Act.put, List.getElem_toArray, List.getElem_cons_succ, List.getElem_cons_zero, List.setIfInBounds_toArray, List.set_cons_zero, List.set_cons_succ])
                      refine wpAnyH_take (i := 8) (v := ?_) rfl (by kernel_rfl) (by kernel_rfl) (by kernel_rfl) (fun _ _ _ h => h) (Or.inl ⟨by rfl, ?_⟩) (by assumption) ?_
                      case refine_2 => (intro w hSw; (try dsimp only at hSw); go_simp; (try with_reducible rfl))
                      (try simp only [Act.put, List.getElem_toArray, List.getElem_cons_succ, List.getElem_cons_zero, List.setIfInBounds_toArray, List.set_cons_zero, List.set_cons_succ])
                      refine wpAnyH_take (i := 9) (v := ?_) rfl (by kernel_rfl) (by kernel_rfl) (by kernel_rfl) (fun _ _ _ h => h) (Or.inl ⟨by rfl, ?_⟩) (by assumption) ?_
                      case refine_2 => (intro w hSw; (try dsimp only at hSw); go_simp; (try with_reducible rfl))
                      (try simp only [Act.put, List.getElem_toArray, List.getElem_cons_succ, List.getElem_cons_zero, List.setIfInBounds_toArray, List.set_cons_zero, List.set_cons_succ])
                      refine wpAnyH_take (i := 10) (v := ?_) rfl (by kernel_rfl) (by kernel_rfl) (by kernel_rfl) (fun _ _ _ h => h) (Or.inl ⟨by rfl, ?_⟩) (by assumption) ?_
                      case refine_2 => (intro w hSw; (try dsimp only at hSw); go_simp; (try with_reducible rfl))
                      (try simp only [Act.put, List.getElem_toArray, List.getElem_cons_succ, List.getElem_cons_zero, List.setIfInBounds_toArray, List.set_cons_zero, List.set_cons_succ])
                      refine wpAnyH_take (i := 11) (v := ?_) rfl (by kernel_rfl) (by kernel_rfl) (by kernel_rfl) (fun _ _ _ h => h) (Or.inl ⟨by rfl, ?_⟩) (by assumption) ?_
                      case refine_2 => (intro w hSw; (try dsimp only at hSw); go_simp; (try with_reducible rfl))
                      (try simp only [Act.put, List.getElem_toArray, List.getElem_cons_succ, List.getElem_cons_zero, List.setIfInBounds_toArray, List.set_cons_zero, List.set_cons_succ])
                      refine wpAnyH_take (i := 12) (v := ?_) rfl (by kernel_rfl) (by kernel_rfl) (by kernel_rfl) (fun _ _ _ h => h) (Or.inl ⟨by rfl, ?_⟩) (by assumption) ?_
                      case refine_2 => (intro w hSw; (try dsimp only at hSw); go_simp; (try with_reducible rfl))
                      (try simp only [Act.put, List.getElem_toArray, List.getElem_cons_succ, List.getElem_cons_zero, List.setIfInBounds_toArray, List.set_cons_zero, List.set_cons_succ])
                      refine wpAnyH_take (i := 13) (v := ?_) rfl (by kernel_rfl) (by kernel_rfl) (by kernel_rfl) (fun _ _ _ h => h) (Or.inl ⟨by rfl, ?_⟩) (by assumption) ?_
                      case refine_2 => (intro w hSw; (try dsimp only at hSw); go_simp; (try with_reducible rfl))
                      (try simp only [Act.put, List.getElem_toArray, List.getElem_cons_succ, List.getElem_cons_zero, List.setIfInBounds_toArray, List.set_cons_zero, List.set_cons_succ])
                      refine wpAnyH_ready (rs := [5]) (by kernel_rfl) (by simp) ?_
                      refine AllReadyH.cons rfl (fun K hK => ?_) AllReadyH.nil
                      go_simp
                      refine hK.out _ _ HK.out (fun hHeld => ?_)
                      clear hK K
                      clear c0 c1 c2 c3 c4
                      cases hf : freeb (V j).p (V j).a (V j).n (Q' m).b with
                      | true => as_aux_lemma =>
                        have hAc := accept_yes (V j).p (V j).a (V j).x (V j).n (V j).c (Q' m).b (Q' m).x (Q' m).n (Q' m).c (Q' m).d wD HVQ.out.sl HVQ.out.sm hf
                        dsimp only [bt, ac] at hAc
                        refine wpAnyH_ready (rs := [14]) (by kernel_rfl) (by simp) ?_
                        refine AllReadyH.cons rfl (fun K hK => ?_) AllReadyH.nil
                        go_simp
                        refine hAc.mono ?_
                        rintro e w2 ⟨y, cy, rfl, H2⟩
                        have HK2 : Hid (w2.cell? ⟨w.heap.size + 1, m * 5, none⟩ = some (.int .i64 (Q' m).b.1) ∧ w2.cell? ⟨w.heap.size + 1, m * 5 + 1, none⟩ = some (.int .i64 (Q' m).b.2) ∧ w2.cell? ⟨w.heap.size + 1, m * 5 + 3, none⟩ = some (.slice (Q' m).x (Q' m).n (Q' m).c)) := ⟨keep H2.out.1 HK.out.1, keep H2.out.1 HK.out.2.1, keep H2.out.1 HK.out.2.2⟩
                        have HP2 : Hid (P4 w w2 n m rs seen at_ fx fn fc sb V Q') := HPD.out.below H2.out.1
                        have r0 : w2.cell? ⟨w.heap.size, j * 5, none⟩ = some (accC (V j) 0) := HP2.out.1.all.cell j 0 hjn (by omega)
                        have r1 := HP2.out.1.all.cell j 1 hjn (by omega)
                        have r2 := HP2.out.1.all.cell j 2 hjn (by omega)
                        have r3 := HP2.out.1.all.cell j 3 hjn (by omega)
                        have r4 := HP2.out.1.all.cell j 4 hjn (by omega)
                        have i0 := HP2.out.1.all.frz (j * 5)
                        have i1 := HP2.out.1.all.frz (j * 5 + 1)
                        have i2 := HP2.out.1.all.frz (j * 5 + 2)
                        have i3 := HP2.out.1.all.frz (j * 5 + 3)
                        have i4 := HP2.out.1.all.frz (j * 5 + 4)
                        refine hK.out _ _ HK2.out (fun hHeld => ?_)
                        clear hK K
                        refine wpAnyH_take (i := 15) (v := ?_) rfl (by kernel_rfl) (by kernel_rfl) (by kernel_rfl) (fun _ _ _ h => h) (Or.inl ⟨by rfl, ?_⟩) (by assumption) ?_
                        case refine_2 => (intro w hSw; (try dsimp only at hSw); go_simp; (try with_reducible rfl))
                        (try simp only [Act.put, List.getElem_toArray, List.getElem_cons_succ, List.getElem_cons_zero, List.setIfInBounds_toArray, List.set_cons_zero, List.set_cons_succ])
                        refine wpAnyH_take (i := 16) (v := ?_) rfl (by kernel_rfl) (by kernel_rfl) (by kernel_rfl) (fun _ _ _ h => h) (Or.inl ⟨by rfl, ?_⟩) (by assumption) ?_
                        case refine_2 => (intro w hSw; (try dsimp only at hSw); go_simp; (try with_reducible rfl))
                        (try simp only [Act.put, List.getElem_toArray, List.getElem_cons_succ, List.getElem_cons_zero, List.setIfInBounds_toArray, List.set_cons_zero, List.set_cons_succ])
                        refine wpAnyH_take (i := 17) (v := ?_) rfl (by kernel_rfl) (by kernel_rfl) (by kernel_rfl) (fun _ _ _ h => h) (Or.inl ⟨by rfl, ?_⟩) (by assumption) ?_
                        case refine_2 => (intro w hSw; (try dsimp only at hSw); go_simp; (try with_reducible rfl))
                        (try simp only [Act.put, List.getElem_toArray, List.getElem_cons_succ, List.getElem_cons_zero, List.setIfInBounds_toArray, List.set_cons_zero, List.set_cons_succ])
                        refine wpAnyH_take (i := 18) (v := ?_) rfl (by kernel_rfl) (by kernel_rfl) (by kernel_rfl) (fun _ _ _ h => h) (Or.inl ⟨by rfl, ?_⟩) (by assumption) ?_
                        case refine_2 => (intro w hSw; (try dsimp only at hSw); go_simp; (try with_reducible rfl))
                        (try simp only [Act.put, List.getElem_toArray, List.getElem_cons_succ, List.getElem_cons_zero, List.setIfInBounds_toArray, List.set_cons_zero, List.set_cons_succ])
                        refine wpAnyH_ready (rs := [19]) (by kernel_rfl) (by simp) ?_
                        refine AllReadyH.cons rfl (fun K hK => ?_) AllReadyH.nil
                        go_simp
                        have t5 := w5_turns w2 w.heap.size (j * 5) (.int .i64 (Q' m).b.1) (.int .i64 (Q' m).b.2) (.int .i64 (Q' m).b.1) (.int .i64 (Q' m).b.2) (.slice y (Q' m).n cy)
                        refine hK.out _ _ ⟨keepn t5 (by omega) HK2.out.1, keepn t5 (by omega) HK2.out.2.1, keepn t5 (by omega) HK2.out.2.2⟩ (fun hHeld => ?_)
                        clear hK K
                        refine wpAnyH_done (by kernel_rfl) ?_ _
                        obtain ⟨V', HP5⟩ := HP2.out.yes hm hjn (by omega) hf y cy (H2.out.sv HVQ.out.sm)
                        have HP6 : Hid _ := HP5
                        clear HP5 HP2 HK2 HK HPD H2 t5 r0 r1 r2 r3 r4 i0 i1 i2 i3 i4 HV HVQ
                        go_wp2_with fail
                        go_roundw
                        case rel => exact ⟨j + 1, V', by omega, by go_num, HP6.out⟩
                        case measure => simp [intOf]; omega
                      | false => as_aux_lemma =>
                        have hAc := accept_no (V j).p (V j).a (V j).x (V j).n (V j).c (V j).d (Q' m).b (Q' m).x (Q' m).n (Q' m).c wD HV.out.sl HV.out.sm hf
                        dsimp only [bt, ac] at hAc
                        refine wpAnyH_ready (rs := [14]) (by kernel_rfl) (by simp) ?_
                        refine AllReadyH.cons rfl (fun K hK => ?_) AllReadyH.nil
                        go_simp
                        refine hAc.mono ?_
                        rintro e w2 ⟨y, cy, rfl, H2⟩
                        have HK2 : Hid (w2.cell? ⟨w.heap.size + 1, m * 5, none⟩ = some (.int .i64 (Q' m).b.1) ∧ w2.cell? ⟨w.heap.size + 1, m * 5 + 1, none⟩ = some (.int .i64 (Q' m).b.2) ∧ w2.cell? ⟨w.heap.size + 1, m * 5 + 3, none⟩ = some (.slice (Q' m).x (Q' m).n (Q' m).c)) := ⟨keep H2.out.1 HK.out.1, keep H2.out.1 HK.out.2.1, keep H2.out.1 HK.out.2.2⟩
                        have HP2 : Hid (P4 w w2 n m rs seen at_ fx fn fc sb V Q') := HPD.out.below H2.out.1
                        have r0 : w2.cell? ⟨w.heap.size, j * 5, none⟩ = some (accC (V j) 0) := HP2.out.1.all.cell j 0 hjn (by omega)
                        have r1 := HP2.out.1.all.cell j 1 hjn (by omega)
                        have r2 := HP2.out.1.all.cell j 2 hjn (by omega)
                        have r3 := HP2.out.1.all.cell j 3 hjn (by omega)
                        have r4 := HP2.out.1.all.cell j 4 hjn (by omega)
                        have i0 := HP2.out.1.all.frz (j * 5)
                        have i1 := HP2.out.1.all.frz (j * 5 + 1)
                        have i2 := HP2.out.1.all.frz (j * 5 + 2)
                        have i3 := HP2.out.1.all.frz (j * 5 + 3)
                        have i4 := HP2.out.1.all.frz (j * 5 + 4)
                        refine hK.out _ _ HK2.out (fun hHeld => ?_)
                        clear hK K
                        refine wpAnyH_take (i := 15) (v := ?_) rfl (by kernel_rfl) (by kernel_rfl) (by kernel_rfl) (fun _ _ _ h => h) (Or.inl ⟨by rfl, ?_⟩) (by assumption) ?_
                        case refine_2 => (intro w hSw; (try dsimp only at hSw); go_simp; (try with_reducible rfl))
                        (try simp only [Act.put, List.getElem_toArray, List.getElem_cons_succ, List.getElem_cons_zero, List.setIfInBounds_toArray, List.set_cons_zero, List.set_cons_succ])
                        refine wpAnyH_take (i := 16) (v := ?_) rfl (by kernel_rfl) (by kernel_rfl) (by kernel_rfl) (fun _ _ _ h => h) (Or.inl ⟨by rfl, ?_⟩) (by assumption) ?_
                        case refine_2 => (intro w hSw; (try dsimp only at hSw); go_simp; (try with_reducible rfl))
                        (try simp only [Act.put, List.getElem_toArray, List.getElem_cons_succ, List.getElem_cons_zero, List.setIfInBounds_toArray, List.set_cons_zero, List.set_cons_succ])
                        refine wpAnyH_take (i := 17) (v := ?_) rfl (by kernel_rfl) (by kernel_rfl) (by kernel_rfl) (fun _ _ _ h => h) (Or.inl ⟨by rfl, ?_⟩) (by assumption) ?_
                        case refine_2 => (intro w hSw; (try dsimp only at hSw); go_simp; (try with_reducible rfl))
                        (try simp only [Act.put, List.getElem_toArray, List.getElem_cons_succ, List.getElem_cons_zero, List.setIfInBounds_toArray, List.set_cons_zero, List.set_cons_succ])
                        refine wpAnyH_take (i := 18) (v := ?_) rfl (by kernel_rfl) (by kernel_rfl) (by kernel_rfl) (fun _ _ _ h => h) (Or.inl ⟨by rfl, ?_⟩) (by assumption) ?_
                        case refine_2 => (intro w hSw; (try dsimp only at hSw); go_simp; (try with_reducible rfl))
                        (try simp only [Act.put, List.getElem_toArray, List.getElem_cons_succ, List.getElem_cons_zero, List.setIfInBounds_toArray, List.set_cons_zero, List.set_cons_succ])
                        refine wpAnyH_ready (rs := [19]) (by kernel_rfl) (by simp) ?_
                        refine AllReadyH.cons rfl (fun K hK => ?_) AllReadyH.nil
                        go_simp
                        have t5 := w5_turns w2 w.heap.size (j * 5) (.int .i64 (V j).p.1) (.int .i64 (V j).p.2) (.int .i64 (V j).a.1) (.int .i64 (V j).a.2) (.slice y (V j).n cy)
                        refine hK.out _ _ ⟨keepn t5 (by omega) HK2.out.1, keepn t5 (by omega) HK2.out.2.1, keepn t5 (by omega) HK2.out.2.2⟩ (fun hHeld => ?_)
                        clear hK K
                        refine wpAnyH_done (by kernel_rfl) ?_ _
                        obtain ⟨V', HP5⟩ := HP2.out.no hjn (by omega) y cy (H2.out.sv HV.out.sm)
                        have HP6 : Hid _ := HP5
                        clear HP5 HP2 HK2 HK HPD H2 t5 r0 r1 r2 r3 r4 i0 i1 i2 i3 i4 HV HVQ
                        go_wp2_with fail
                        go_roundw
                        case rel => exact ⟨j + 1, V', by omega, by go_num, HP6.out⟩
                        case measure => simp [intOf]; omega
                    · refine ⟨⟨j + 1, V, by omega, by go_num, HP.out⟩, ?_⟩
                      simp [intOf]
                      omega
                  · obtain rfl : j = n := by omega
                    cases sb with
                    | true => as_aux_lemma =>
                      have HPE := HP
                      have hCh := chosen_any (some ⟨w.heap.size, 0, none⟩) j j V wr HP.out.1.accs
                      obtain ⟨fd, hgd, hfd⟩ := HP.out.2.1
                      have HGD : Hid (Gd j seen V Q' (some fd)) := hid (by simpa using hgd)
                      have HFD : Hid (Sv wr fx fn fc fd) := hfd
                      clear hgd hfd
                      go_wp2_with (first
                        | (
                           go_at_call 19; refine hCh.mono ?_; rintro e w2 h2; clear hCh
                           rcases h2 with ⟨rfl, hb2⟩ | ⟨bb, kk, y, cy, rfl, H2⟩
                           (have HR : Hid (∀ o, St w (w2.alloc o) j w.heap.size (w.heap.size + 1) (w.heap.size + 1 + 1) (k + 1) fx fn fc true) := fun o => ⟨V, Q', seen, fd, HP.out.1.below (on hb2 (al _ _)), HGD.out, HFD.out.below (on hb2 (al _ _)), HN1.out⟩
                            clear HP HPE HGD HFD hb2
                            dsimp only [bt, z0])
                           rotate_left 1
                           (obtain ⟨e1, e2⟩ := HGD.out.chosen H2.out.1
                            have HR : Hid (∀ o, St w (w2.alloc o) j w.heap.size (w.heap.size + 1) (w.heap.size + 1 + 1) (k + 1) y (V kk).n cy true) := fun o => ⟨V, Q', seen, (V kk).d, HP.out.1.below (on H2.out.2.1 (al _ _)), e2, (H2.out.2.sv (HP.out.1.val kk H2.out.1.2.2.1).1.sm).below (al _ _), HN1.out⟩
                            have ed : fd = (V kk).d := e1 fd rfl
                            have cv := fun o => conv_sl (H2.out.2.2.1.below (al w2 o))
                            have cf := fun o => conv_sl ((HFD.out.sl.below H2.out.2.1).below (al w2 o))
                            rw [ed] at cf
                            clear HP HPE HGD HFD H2 e1 e2
                            obtain ⟨bb1, bb2⟩ := bb
                            dsimp only [bt])
                           rotate_right 1))
                      all_goals first
                        | (go_roundw
                           case rel => exact ⟨k + 1, _, _, _, _, by omega, by omega, rfl, rfl, by go_num, HR.out _⟩
                           case measure => simp [intOf]; omega)
                        | (refine ⟨⟨k + 1, _, _, _, _, by omega, by omega, rfl, rfl, by go_num, HR.out _⟩, ?_⟩
                           simp [intOf]
                           omega)
                    | false => as_aux_lemma =>
                      have HPE := HP
                      have hCh := chosen_any (some ⟨w.heap.size, 0, none⟩) j j V wr HP.out.1.accs
                      obtain ⟨fd, hgd, hfd⟩ := HP.out.2.1
                      have HGD : Hid (Gd j seen V Q' none) := hid (by simpa using hgd)
                      have HFD : Hid (Sv wr fx fn fc fd) := hfd
                      clear hgd hfd
                      go_wp2_with (first
                        | (
                           go_at_call 19; refine hCh.mono ?_; rintro e w2 h2; clear hCh
                           rcases h2 with ⟨rfl, hb2⟩ | ⟨bb, kk, y, cy, rfl, H2⟩
                           (have HR : Hid (∀ o, St w (w2.alloc o) j w.heap.size (w.heap.size + 1) (w.heap.size + 1 + 1) (k + 1) fx fn fc false) := fun o => ⟨V, Q', seen, fd, HP.out.1.below (on hb2 (al _ _)), HGD.out, HFD.out.below (on hb2 (al _ _)), HN1.out⟩
                            clear HP HPE HGD HFD hb2
                            dsimp only [bt, z0])
                           rotate_left 1
                           (obtain ⟨e1, e2⟩ := HGD.out.chosen H2.out.1
                            have HR : Hid (∀ o, St w (w2.alloc o) j w.heap.size (w.heap.size + 1) (w.heap.size + 1 + 1) (k + 1) y (V kk).n cy true) := fun o => ⟨V, Q', seen, (V kk).d, HP.out.1.below (on H2.out.2.1 (al _ _)), e2, (H2.out.2.sv (HP.out.1.val kk H2.out.1.2.2.1).1.sm).below (al _ _), HN1.out⟩
                            clear HP HPE HGD HFD H2 e1 e2
                            obtain ⟨bb1, bb2⟩ := bb
                            dsimp only [bt])
                           rotate_right 1))
                      all_goals first
                        | (go_roundw
                           case rel => exact ⟨k + 1, _, _, _, _, by omega, by omega, rfl, rfl, by go_num, HR.out _⟩
                           case measure => simp [intOf]; omega)
                        | (refine ⟨⟨k + 1, _, _, _, _, by omega, by omega, rfl, rfl, by go_num, HR.out _⟩, ?_⟩
                           simp [intOf]
                           omega)
      · have hkl : (k : Int) < (ln : Int) := by omega
        have hk300 : ¬ (k : Int) < 300 := by omega
        have HB : Hid (Below w.heap.size w wr) := by
          obtain ⟨V, Q, seen, fd, hM0, _⟩ := HS.out
          exact hM0.bel
        have hW := awake_any wr
        clear HS
        go_wp2_with (first
          | (
             go_at_call 12; refine hW.mono ?_; rintro e w2 ⟨rfl, hb2⟩; clear hW))
        go_ret
        exact ⟨rfl, on HB.out hb2⟩
    · have hkl : ¬ (k : Int) < (ln : Int) := by omega
      have HB : Hid (Below w.heap.size w wr) := by
        obtain ⟨V, Q, seen, fd, hM0, _⟩ := HS.out
        exact hM0.bel
      have hW := awake_any wr
      clear HS
      go_wp2_with (first
        | (
           go_at_call 12; refine hW.mono ?_; rintro e w2 ⟨rfl, hb2⟩; clear hW))
      go_ret
      exact ⟨rfl, on HB.out hb2⟩

set_option maxRecDepth 100000 in
theorem lifted (os : Os) (started : os.Started) (H : Type) (enc : TypeId × Value → H) :
    ReturnsInHanded {} Try.checked os 5 .any (Rows.ballotAgreesSpec.pre6 enc Try.prog Try.f5 Rows.ballotAgreesRow.domain false) (Rows.ballotAgreesSpec.post enc Try.prog Try.f5 false true false false) := by
  refine returnsInHanded_of_change_sized (C := Try.checked) own started (by kernel_rfl) Try.func5
    (ChangeSpec.witness6 (enc := enc) (C := Try.checked) false ⟨#[], #[.int .i64 0, .slice none 0 0], []⟩ 8 (by kernel_rfl) (by kernel_rfl) (by kernel_rfl) (by kernel_rfl)) ?_
  intro W base args ds gs before hval0 hW hcnd hsz0 _
  have hsz : (DataW.weightsEach Try.prog (Try.f5.params.toList ++ Rows.ballotAgreesSpec.plain.varTypes Try.prog) (ds ++ gs)).all (· ≤ reachBytes) = true := hsz0
  have hval : ∀ (j : Nat) t v, Try.f5.params[j]? = some t → args[j]? = some v → Value.okWide Try.prog W .any base t v := hval0
  have hW' := hW
  obtain ⟨p, q, hA0, hV, rfl, hfz, hnd⟩ := hW
  have hA : DataW.TrodAll enc Try.prog W 0 (fun _ => true) true Try.f5.params.toList args.toList ds p := hA0
  rw [Try.params5] at hA hval hsz
  obtain ⟨v0, vs0, d0, ds0, p0, q0, hargs, rfl, rfl, h0, r0⟩ := trodAll_cons hA
  obtain ⟨v1, vs1, d1, ds1, p1, q1, rfl, rfl, rfl, h1, r1⟩ := trodAll_cons r0
  obtain ⟨rfl, rfl, rfl⟩ := trodAll_nil r1
  obtain rfl : args = #[v0, v1] := by cases args; simp_all
  obtain ⟨rfl, rfl⟩ := trodVars_none hV
  obtain ⟨a0, rfl, rfl, rfl, w0⟩ := open_int Try.underlying3 (hval 0 3 v0 rfl rfl) h0
  have k1 := h1
  have lt1 : ∀ x ∈ p1, x.block < W.heap.size := by obtain ⟨m, hm⟩ := k1; exact DataW.trod_lt m _ _ _ hm
  have s1 : ∀ x ∈ d1.weights Try.prog 38, x ≤ reachBytes := fun x hx => by
    have := List.all_eq_true.1 hsz x (DataW.weights_mem_each (j := 1) rfl rfl x hx)
    simpa using this
  obtain ⟨b1, nn1, cc1, rfl⟩ := okWide_slice Try.underlying38 (hval 1 38 v1 rfl rfl)
  obtain ⟨fu1, hf1⟩ := h1
  obtain ⟨a1, len1, cap1, V1, e1, w1⟩ := Ba.sts_in hf1 s1
  simp [Value.cells] at e1
  obtain ⟨rfl, rfl, rfl⟩ := e1
  clear hA0 hval0
  refine (walk a0 b1 nn1 cc1 V1 W w0 w1).mono fun e W' ⟨he, bel⟩ => ?_
  subst he
  exact ⟨_, rfl, _, _, _, [], _, [], hW', trodAll_mk1 (shut_bool Try.underlying4 _), (trodAll_cons_mk (shut_int Try.underlying3 w0) (trodAll_cons_mk (Below.trod laidOut (by kernel_rfl) (of_decide_eq_true (by kernel_rfl)) k1 bel lt1) trodAll_mk0)), rfl, bel.frame _, fun h => by cases h⟩

theorem over : Rows.ballotAgreesRow.holds Try.pinned (OpenSpec.ofChange Rows.ballotAgreesSpec) :=
  OpenClaim.holds_of_wide 5 Try.f5 rfl rfl rfl rfl rfl rfl rfl ⟨rfl, rfl, rfl, rfl, rfl⟩ rfl rfl rfl rfl rfl (by kernel_rfl) Try.func5 (by kernel_rfl)
    (of_decide_eq_true (by kernel_rfl)) (by unfold Func.isWrapper; first | (rw [if_pos (by decide +kernel)]; kernel_rfl) | (rw [if_neg (by decide +kernel)]; exact ⟨rfl, rfl⟩))
    (fun os started H enc _ => lifted os started H enc)

theorem proved : Rows.BallotAgreesSaid := over
#print axioms proved
end Go.Proofs.Ytlfeafbpknbbfaa.ballotAgrees
