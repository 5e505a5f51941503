/-
  Package crush: find.
  Conditions: the tree and the list lie in memory; numbers of 32 bits.
-/
import Derived.Test.YthlfmbijagpggaaCrInts
namespace Go.Proofs.Ythlfmbijagpggaa.Cr
open Go.RowKit By Fl At
open Sr (Wd Ws enW cho DL choose_any)
set_option linter.unusedVariables false
set_option linter.unusedSimpArgs false
set_option maxRecDepth 100000

set_option maxHeartbeats 3200000 in
theorem find_0 {w : World} {F : Nat → Prop} {v : Bv} {S : List Osd} {y : Nat} {xt : Option Addr} {nt ct : Nat} {T : List Int} (h : BrAt w F 3 v S) (hT : Nu w xt nt ct T) (hn : nt ≤ 1000) (hy : y < 4294967296) (want k : Nat) (hw : want ≤ 32) (hk : k ≤ 32) :
    Calls Try.prog 43 #[vB v, .agg #[.int .i64 0, .int .i64 (want : Nat)], .int .u32 (y : Nat), .int .i64 (k : Nat), .slice xt nt ct] w fun e w' => e = .returned (outPa (fnd (fT S want y k) 1 T 50)) ∧ Below w.heap.size w w' := by
  have H0 := hid (Fs.start w v 0 want)
  have HT := hid hT
  have HB := hid h
  clear h hT
  unfold vB
  go_enter Try.func43, Try.ntmps43
  go_wp2_with fail
  go_loopw [15] (fun i wr => ∃ t : Nat, t ≤ 50 ∧ i = .int .i64 t ∧ Hid (Fs w wr v 0 want ∧ fnd (fT S want y k) 1 T t = none)) (fun i _ => 50 - (intOf i).toNat)
  case atStart => exact ⟨0, by omega, rfl, H0.out, rfl⟩
  case round =>
    clear H0
    obtain ⟨t, ht, rfl, HR⟩ := hrel
    have D := HR.out.1
    by_cases hlt : t < 50
    · have hlt2 : (t : Int) < 50 := by omega
      obtain ⟨q, hq⟩ : ∃ q, q = t * want := ⟨_, rfl⟩
      have hqb : q ≤ 1568 := by rw [hq]; exact Nat.le_trans (Nat.mul_le_mul (show t ≤ 49 by omega) hw) (by omega)
      have hmul : IntKind.i64.wrap ((t : Int) * (want : Int)) = (q : Int) := by rw [hq, IntKind.wrap_i64, ← Int.natCast_mul, ← hq]; omega
      have hadd : IntKind.i64.wrap ((k : Int) + (q : Int)) = ((k + q : Nat) : Int) := by rw [IntKind.wrap_i64]; omega
      have hkq : k + q ≤ 4000 := by omega
      have hft : fT S want y k t = dsc S y (k + q) := by unfold fT; rw [hq]
      have cD := descend_any (BrAt.below D.bel 3 v S HB.out) y (k + q) hy (by omega)
      have n0 := cell_heap (j := 0) D.bx rfl
      have n1 := cell_heap (j := 1) D.bx rfl
      have n2 : wr.cell? ⟨w.heap.size + 1, 0, none⟩ = some (.int .i64 0) := cell_heap (j := 0) D.ru rfl
      have n3 : wr.cell? ⟨w.heap.size + 1, 1, none⟩ = some (.int .i64 (want : Nat)) := cell_heap (j := 1) D.ru rfl
      have HD := hid D
      have HF := hid (And.intro HR.out.2 hft)
      generalize k + q = kq at *
      clear D HR hq hft
      unfold vB at cD
      cases hc : dsc S y kq with
      | none =>
        rw [hc] at cD
        unfold outPa at cD
        rw [noPa_eq] at cD
        dsimp only at cD
        have HE := hid hc
        clear hc
        go_wp2_with (go_at_call 56; refine cD.mono ?_; rintro e w1 ⟨rfl, hb1⟩; clear cD)
        go_roundw
        case rel => exact ⟨t + 1, by omega, by go_num, HD.out.below (on hb1 (al _ _)), fnd_step_no HF.out.1 (HF.out.2.trans HE.out)⟩
        case measure => simp [intOf]; omega
      | some p =>
        rw [hc] at cD
        have HE := hid hc
        clear hc
        obtain ⟨rk, ho, id⟩ := p
        unfold outPa vPa at cD
        dsimp only at cD
        have cK := fun W (hb : Below w.heap.size w W) => containsI_any (HT.out.below hb) hn (kP 1 ⟨rk, ho, id⟩)
        have HK : Hid (∀ W, Below w.heap.size w W → Calls Try.prog 57 #[.slice xt nt ct, .int .i64 id] W fun e w' => e = .returned (.bool (decide (id ∈ T))) ∧ w' = W) := cK
        clear cK
        by_cases hm : id ∈ T
        · rw [decide_eq_true hm] at HK
          have HM := hid hm
          clear hm
          go_wp2_with (first
            | (go_at_call 56; refine cD.mono ?_; rintro e w1 ⟨rfl, hb1⟩; clear cD; have m2 := keep hb1 n2; have hlt1 := cell_lt' m2; have cK := HK.out _ (on HD.out.bel (on hb1 (al w1 (.cells #[.int .i64 id, .int .i64 ho, .int .i64 rk] 83)))))
            | (go_at_call 57; refine cK.mono ?_; rintro e w2 ⟨rfl, hw2⟩; subst hw2; clear cK))
          go_roundw
          case rel => exact ⟨t + 1, by omega, by go_num, HD.out.below (on hb1 (al _ _)), fnd_step_in HF.out.1 (HF.out.2.trans HE.out) HM.out⟩
          case measure => simp [intOf]; omega
        · rw [decide_eq_false hm] at HK
          have HM := hid hm
          clear hm
          go_wp2_with (first
            | (go_at_call 56; refine cD.mono ?_; rintro e w1 ⟨rfl, hb1⟩; clear cD; have m2 := keep hb1 n2; have hlt1 := cell_lt' m2; have cK := HK.out _ (on HD.out.bel (on hb1 (al w1 (.cells #[.int .i64 id, .int .i64 ho, .int .i64 rk] 83))))
               have D1 := HD.out.below hb1
               have r0 := cell_heap (j := 0) D1.res rfl
               have r1 := cell_heap (j := 1) D1.res rfl
               have r2 := cell_heap (j := 2) D1.res rfl
               have f0 := fr_heap D1.res 0
               have f1 := fr_heap D1.res 1
               have f2 := fr_heap D1.res 2
               have hlt2 := (Array.getElem?_eq_some_iff.1 D1.res).1
               clear D1)
            | (go_at_call 57; refine cK.mono ?_; rintro e w2 ⟨rfl, hw2⟩; subst hw2; clear cK))
          refine bodyPost_ret (v := outPa (some ⟨rk, ho, id⟩)) ?_ rfl ?_
          · rw [results_cell2 rfl]
            unfold outPa vPa
            go_simp
          · have e1 := fnd_keep (fnd_step_yes HF.out.1 (HF.out.2.trans HE.out) HM.out) (50 - (t + 1))
            rw [show t + 1 + (50 - (t + 1)) = 50 by omega] at e1
            rw [e1]
            refine ⟨rfl, ?_⟩
            have B1 := on HD.out.bel hb1
            repeat (first | with_reducible exact B1 | (with_reducible refine Below.setCell ?_ (by first | (simp; done) | (simp; omega) | omega) _) | (with_reducible refine Below.alloc ?_ (by first | (simp; done) | (simp; omega) | omega) _))
    · have ht2 : t = 50 := by omega
      subst ht2
      have r0 := cell_heap (j := 0) D.res rfl
      have r1 := cell_heap (j := 1) D.res rfl
      have r2 := cell_heap (j := 2) D.res rfl
      have f0 := fr_heap D.res 0
      have f1 := fr_heap D.res 1
      have f2 := fr_heap D.res 2
      have hlt2 := (Array.getElem?_eq_some_iff.1 D.res).1
      have HD := hid D
      clear D
      go_wp2_with fail
      refine bodyPost_ret (v := outPa none) ?_ rfl ?_
      · rw [results_cell2 rfl]
        unfold outPa
        rw [noPa_eq]
        go_simp
      · rw [HR.out.2]
        refine ⟨rfl, ?_⟩
        have B1 := HD.out.bel
        repeat (first | with_reducible exact B1 | (with_reducible refine Below.setCell ?_ (by first | (simp; done) | (simp; omega) | omega) _) | (with_reducible refine Below.alloc ?_ (by first | (simp; done) | (simp; omega) | omega) _))

set_option maxHeartbeats 3200000 in
theorem find_1 {w : World} {F : Nat → Prop} {v : Bv} {S : List Osd} {y : Nat} {xt : Option Addr} {nt ct : Nat} {T : List Int} (h : BrAt w F 3 v S) (hT : Nu w xt nt ct T) (hn : nt ≤ 1000) (hy : y < 4294967296) (want k : Nat) (hw : want ≤ 32) (hk : k ≤ 32) :
    Calls Try.prog 43 #[vB v, .agg #[.int .i64 1, .int .i64 (want : Nat)], .int .u32 (y : Nat), .int .i64 (k : Nat), .slice xt nt ct] w fun e w' => e = .returned (outPa (fnd (fT S want y k) 2 T 50)) ∧ Below w.heap.size w w' := by
  have H0 := hid (Fs.start w v 1 want)
  have HT := hid hT
  have HB := hid h
  clear h hT
  unfold vB
  go_enter Try.func43, Try.ntmps43
  go_wp2_with fail
  go_loopw [15] (fun i wr => ∃ t : Nat, t ≤ 50 ∧ i = .int .i64 t ∧ Hid (Fs w wr v 1 want ∧ fnd (fT S want y k) 2 T t = none)) (fun i _ => 50 - (intOf i).toNat)
  case atStart => exact ⟨0, by omega, rfl, H0.out, rfl⟩
  case round =>
    clear H0
    obtain ⟨t, ht, rfl, HR⟩ := hrel
    have D := HR.out.1
    by_cases hlt : t < 50
    · have hlt2 : (t : Int) < 50 := by omega
      obtain ⟨q, hq⟩ : ∃ q, q = t * want := ⟨_, rfl⟩
      have hqb : q ≤ 1568 := by rw [hq]; exact Nat.le_trans (Nat.mul_le_mul (show t ≤ 49 by omega) hw) (by omega)
      have hmul : IntKind.i64.wrap ((t : Int) * (want : Int)) = (q : Int) := by rw [hq, IntKind.wrap_i64, ← Int.natCast_mul, ← hq]; omega
      have hadd : IntKind.i64.wrap ((k : Int) + (q : Int)) = ((k + q : Nat) : Int) := by rw [IntKind.wrap_i64]; omega
      have hkq : k + q ≤ 4000 := by omega
      have hft : fT S want y k t = dsc S y (k + q) := by unfold fT; rw [hq]
      have cD := descend_any (BrAt.below D.bel 3 v S HB.out) y (k + q) hy (by omega)
      have n0 := cell_heap (j := 0) D.bx rfl
      have n1 := cell_heap (j := 1) D.bx rfl
      have n2 : wr.cell? ⟨w.heap.size + 1, 0, none⟩ = some (.int .i64 1) := cell_heap (j := 0) D.ru rfl
      have n3 : wr.cell? ⟨w.heap.size + 1, 1, none⟩ = some (.int .i64 (want : Nat)) := cell_heap (j := 1) D.ru rfl
      have HD := hid D
      have HF := hid (And.intro HR.out.2 hft)
      generalize k + q = kq at *
      clear D HR hq hft
      unfold vB at cD
      cases hc : dsc S y kq with
      | none =>
        rw [hc] at cD
        unfold outPa at cD
        rw [noPa_eq] at cD
        dsimp only at cD
        have HE := hid hc
        clear hc
        go_wp2_with (go_at_call 56; refine cD.mono ?_; rintro e w1 ⟨rfl, hb1⟩; clear cD)
        go_roundw
        case rel => exact ⟨t + 1, by omega, by go_num, HD.out.below (on hb1 (al _ _)), fnd_step_no HF.out.1 (HF.out.2.trans HE.out)⟩
        case measure => simp [intOf]; omega
      | some p =>
        rw [hc] at cD
        have HE := hid hc
        clear hc
        obtain ⟨rk, ho, id⟩ := p
        unfold outPa vPa at cD
        dsimp only at cD
        have cK := fun W (hb : Below w.heap.size w W) => containsI_any (HT.out.below hb) hn (kP 2 ⟨rk, ho, id⟩)
        have HK : Hid (∀ W, Below w.heap.size w W → Calls Try.prog 57 #[.slice xt nt ct, .int .i64 ho] W fun e w' => e = .returned (.bool (decide (ho ∈ T))) ∧ w' = W) := cK
        clear cK
        by_cases hm : ho ∈ T
        · rw [decide_eq_true hm] at HK
          have HM := hid hm
          clear hm
          go_wp2_with (first
            | (go_at_call 56; refine cD.mono ?_; rintro e w1 ⟨rfl, hb1⟩; clear cD; have m2 := keep hb1 n2; have hlt1 := cell_lt' m2; have cK := HK.out _ (on HD.out.bel (on hb1 (al w1 (.cells #[.int .i64 id, .int .i64 ho, .int .i64 rk] 83)))))
            | (go_at_call 57; refine cK.mono ?_; rintro e w2 ⟨rfl, hw2⟩; subst hw2; clear cK))
          go_roundw
          case rel => exact ⟨t + 1, by omega, by go_num, HD.out.below (on hb1 (al _ _)), fnd_step_in HF.out.1 (HF.out.2.trans HE.out) HM.out⟩
          case measure => simp [intOf]; omega
        · rw [decide_eq_false hm] at HK
          have HM := hid hm
          clear hm
          go_wp2_with (first
            | (go_at_call 56; refine cD.mono ?_; rintro e w1 ⟨rfl, hb1⟩; clear cD; have m2 := keep hb1 n2; have hlt1 := cell_lt' m2; have cK := HK.out _ (on HD.out.bel (on hb1 (al w1 (.cells #[.int .i64 id, .int .i64 ho, .int .i64 rk] 83))))
               have D1 := HD.out.below hb1
               have r0 := cell_heap (j := 0) D1.res rfl
               have r1 := cell_heap (j := 1) D1.res rfl
               have r2 := cell_heap (j := 2) D1.res rfl
               have f0 := fr_heap D1.res 0
               have f1 := fr_heap D1.res 1
               have f2 := fr_heap D1.res 2
               have hlt2 := (Array.getElem?_eq_some_iff.1 D1.res).1
               clear D1)
            | (go_at_call 57; refine cK.mono ?_; rintro e w2 ⟨rfl, hw2⟩; subst hw2; clear cK))
          refine bodyPost_ret (v := outPa (some ⟨rk, ho, id⟩)) ?_ rfl ?_
          · rw [results_cell2 rfl]
            unfold outPa vPa
            go_simp
          · have e1 := fnd_keep (fnd_step_yes HF.out.1 (HF.out.2.trans HE.out) HM.out) (50 - (t + 1))
            rw [show t + 1 + (50 - (t + 1)) = 50 by omega] at e1
            rw [e1]
            refine ⟨rfl, ?_⟩
            have B1 := on HD.out.bel hb1
            repeat (first | with_reducible exact B1 | (with_reducible refine Below.setCell ?_ (by first | (simp; done) | (simp; omega) | omega) _) | (with_reducible refine Below.alloc ?_ (by first | (simp; done) | (simp; omega) | omega) _))
    · have ht2 : t = 50 := by omega
      subst ht2
      have r0 := cell_heap (j := 0) D.res rfl
      have r1 := cell_heap (j := 1) D.res rfl
      have r2 := cell_heap (j := 2) D.res rfl
      have f0 := fr_heap D.res 0
      have f1 := fr_heap D.res 1
      have f2 := fr_heap D.res 2
      have hlt2 := (Array.getElem?_eq_some_iff.1 D.res).1
      have HD := hid D
      clear D
      go_wp2_with fail
      refine bodyPost_ret (v := outPa none) ?_ rfl ?_
      · rw [results_cell2 rfl]
        unfold outPa
        rw [noPa_eq]
        go_simp
      · rw [HR.out.2]
        refine ⟨rfl, ?_⟩
        have B1 := HD.out.bel
        repeat (first | with_reducible exact B1 | (with_reducible refine Below.setCell ?_ (by first | (simp; done) | (simp; omega) | omega) _) | (with_reducible refine Below.alloc ?_ (by first | (simp; done) | (simp; omega) | omega) _))

set_option maxHeartbeats 3200000 in
theorem find_2 {w : World} {F : Nat → Prop} {v : Bv} {S : List Osd} {y : Nat} {xt : Option Addr} {nt ct : Nat} {T : List Int} (h : BrAt w F 3 v S) (hT : Nu w xt nt ct T) (hn : nt ≤ 1000) (hy : y < 4294967296) (want k : Nat) (hw : want ≤ 32) (hk : k ≤ 32) :
    Calls Try.prog 43 #[vB v, .agg #[.int .i64 2, .int .i64 (want : Nat)], .int .u32 (y : Nat), .int .i64 (k : Nat), .slice xt nt ct] w fun e w' => e = .returned (outPa (fnd (fT S want y k) 3 T 50)) ∧ Below w.heap.size w w' := by
  have H0 := hid (Fs.start w v 2 want)
  have HT := hid hT
  have HB := hid h
  clear h hT
  unfold vB
  go_enter Try.func43, Try.ntmps43
  go_wp2_with fail
  go_loopw [15] (fun i wr => ∃ t : Nat, t ≤ 50 ∧ i = .int .i64 t ∧ Hid (Fs w wr v 2 want ∧ fnd (fT S want y k) 3 T t = none)) (fun i _ => 50 - (intOf i).toNat)
  case atStart => exact ⟨0, by omega, rfl, H0.out, rfl⟩
  case round =>
    clear H0
    obtain ⟨t, ht, rfl, HR⟩ := hrel
    have D := HR.out.1
    by_cases hlt : t < 50
    · have hlt2 : (t : Int) < 50 := by omega
      obtain ⟨q, hq⟩ : ∃ q, q = t * want := ⟨_, rfl⟩
      have hqb : q ≤ 1568 := by rw [hq]; exact Nat.le_trans (Nat.mul_le_mul (show t ≤ 49 by omega) hw) (by omega)
      have hmul : IntKind.i64.wrap ((t : Int) * (want : Int)) = (q : Int) := by rw [hq, IntKind.wrap_i64, ← Int.natCast_mul, ← hq]; omega
      have hadd : IntKind.i64.wrap ((k : Int) + (q : Int)) = ((k + q : Nat) : Int) := by rw [IntKind.wrap_i64]; omega
      have hkq : k + q ≤ 4000 := by omega
      have hft : fT S want y k t = dsc S y (k + q) := by unfold fT; rw [hq]
      have cD := descend_any (BrAt.below D.bel 3 v S HB.out) y (k + q) hy (by omega)
      have n0 := cell_heap (j := 0) D.bx rfl
      have n1 := cell_heap (j := 1) D.bx rfl
      have n2 : wr.cell? ⟨w.heap.size + 1, 0, none⟩ = some (.int .i64 2) := cell_heap (j := 0) D.ru rfl
      have n3 : wr.cell? ⟨w.heap.size + 1, 1, none⟩ = some (.int .i64 (want : Nat)) := cell_heap (j := 1) D.ru rfl
      have HD := hid D
      have HF := hid (And.intro HR.out.2 hft)
      generalize k + q = kq at *
      clear D HR hq hft
      unfold vB at cD
      cases hc : dsc S y kq with
      | none =>
        rw [hc] at cD
        unfold outPa at cD
        rw [noPa_eq] at cD
        dsimp only at cD
        have HE := hid hc
        clear hc
        go_wp2_with (go_at_call 56; refine cD.mono ?_; rintro e w1 ⟨rfl, hb1⟩; clear cD)
        go_roundw
        case rel => exact ⟨t + 1, by omega, by go_num, HD.out.below (on hb1 (al _ _)), fnd_step_no HF.out.1 (HF.out.2.trans HE.out)⟩
        case measure => simp [intOf]; omega
      | some p =>
        rw [hc] at cD
        have HE := hid hc
        clear hc
        obtain ⟨rk, ho, id⟩ := p
        unfold outPa vPa at cD
        dsimp only at cD
        have cK := fun W (hb : Below w.heap.size w W) => containsI_any (HT.out.below hb) hn (kP 3 ⟨rk, ho, id⟩)
        have HK : Hid (∀ W, Below w.heap.size w W → Calls Try.prog 57 #[.slice xt nt ct, .int .i64 rk] W fun e w' => e = .returned (.bool (decide (rk ∈ T))) ∧ w' = W) := cK
        clear cK
        by_cases hm : rk ∈ T
        · rw [decide_eq_true hm] at HK
          have HM := hid hm
          clear hm
          go_wp2_with (first
            | (go_at_call 56; refine cD.mono ?_; rintro e w1 ⟨rfl, hb1⟩; clear cD; have m2 := keep hb1 n2; have hlt1 := cell_lt' m2; have cK := HK.out _ (on HD.out.bel (on hb1 (al w1 (.cells #[.int .i64 id, .int .i64 ho, .int .i64 rk] 83)))))
            | (go_at_call 57; refine cK.mono ?_; rintro e w2 ⟨rfl, hw2⟩; subst hw2; clear cK))
          go_roundw
          case rel => exact ⟨t + 1, by omega, by go_num, HD.out.below (on hb1 (al _ _)), fnd_step_in HF.out.1 (HF.out.2.trans HE.out) HM.out⟩
          case measure => simp [intOf]; omega
        · rw [decide_eq_false hm] at HK
          have HM := hid hm
          clear hm
          go_wp2_with (first
            | (go_at_call 56; refine cD.mono ?_; rintro e w1 ⟨rfl, hb1⟩; clear cD; have m2 := keep hb1 n2; have hlt1 := cell_lt' m2; have cK := HK.out _ (on HD.out.bel (on hb1 (al w1 (.cells #[.int .i64 id, .int .i64 ho, .int .i64 rk] 83))))
               have D1 := HD.out.below hb1
               have r0 := cell_heap (j := 0) D1.res rfl
               have r1 := cell_heap (j := 1) D1.res rfl
               have r2 := cell_heap (j := 2) D1.res rfl
               have f0 := fr_heap D1.res 0
               have f1 := fr_heap D1.res 1
               have f2 := fr_heap D1.res 2
               have hlt2 := (Array.getElem?_eq_some_iff.1 D1.res).1
               clear D1)
            | (go_at_call 57; refine cK.mono ?_; rintro e w2 ⟨rfl, hw2⟩; subst hw2; clear cK))
          refine bodyPost_ret (v := outPa (some ⟨rk, ho, id⟩)) ?_ rfl ?_
          · rw [results_cell2 rfl]
            unfold outPa vPa
            go_simp
          · have e1 := fnd_keep (fnd_step_yes HF.out.1 (HF.out.2.trans HE.out) HM.out) (50 - (t + 1))
            rw [show t + 1 + (50 - (t + 1)) = 50 by omega] at e1
            rw [e1]
            refine ⟨rfl, ?_⟩
            have B1 := on HD.out.bel hb1
            repeat (first | with_reducible exact B1 | (with_reducible refine Below.setCell ?_ (by first | (simp; done) | (simp; omega) | omega) _) | (with_reducible refine Below.alloc ?_ (by first | (simp; done) | (simp; omega) | omega) _))
    · have ht2 : t = 50 := by omega
      subst ht2
      have r0 := cell_heap (j := 0) D.res rfl
      have r1 := cell_heap (j := 1) D.res rfl
      have r2 := cell_heap (j := 2) D.res rfl
      have f0 := fr_heap D.res 0
      have f1 := fr_heap D.res 1
      have f2 := fr_heap D.res 2
      have hlt2 := (Array.getElem?_eq_some_iff.1 D.res).1
      have HD := hid D
      clear D
      go_wp2_with fail
      refine bodyPost_ret (v := outPa none) ?_ rfl ?_
      · rw [results_cell2 rfl]
        unfold outPa
        rw [noPa_eq]
        go_simp
      · rw [HR.out.2]
        refine ⟨rfl, ?_⟩
        have B1 := HD.out.bel
        repeat (first | with_reducible exact B1 | (with_reducible refine Below.setCell ?_ (by first | (simp; done) | (simp; omega) | omega) _) | (with_reducible refine Below.alloc ?_ (by first | (simp; done) | (simp; omega) | omega) _))

theorem find_any {w : World} {F : Nat → Prop} {v : Bv} {S : List Osd} {y : Nat} {xt : Option Addr} {nt ct : Nat} {T : List Int} (h : BrAt w F 3 v S) (hT : Nu w xt nt ct T) (hn : nt ≤ 1000) (hy : y < 4294967296) (d want k : Nat) (hd : d ≤ 2) (hw : want ≤ 32) (hk : k ≤ 32) :
    Calls Try.prog 43 #[vB v, vR (d : Int) want, .int .u32 (y : Nat), .int .i64 (k : Nat), .slice xt nt ct] w fun e w' => e = .returned (outPa (fnd (fT S want y k) (d + 1) T 50)) ∧ Below w.heap.size w w' := by
  have hdd : d = 0 ∨ d = 1 ∨ d = 2 := by omega
  rcases hdd with rfl | rfl | rfl
  · exact find_0 h hT hn hy want k hw hk
  · exact find_1 h hT hn hy want k hw hk
  · exact find_2 h hT hn hy want k hw hk

end Go.Proofs.Ythlfmbijagpggaa.Cr
