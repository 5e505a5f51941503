/-
  Which maps do not come one behind the other, and who has which place: 'mooringlaw19.IntervalRefuses' returns true and leaves its arguments as they were.
  Conditions: none.
-/
import Derived.Test.YthlfmbijagpggaaRows
import Derived.WalkKit
import Derived.ProofKit
import Derived.OpenShut
import Derived.SizedLaws
import Derived.ShutString
import Derived.ChangeOld
import Derived.Below
import Derived.Test.YthlfmbijagpggaaByRows
import Derived.Test.YthlfmbijagpggaaIvItem
import Derived.Test.YthlfmbijagpggaaJIvAll
import Derived.Test.YthlfmbijagpggaaAtRefMay
namespace Go.Proofs.Ythlfmbijagpggaa.intervalRefuses
open Go.ChangeShapes Go.WideShapes Go.ChangeAt Go.RowKit By
open Fl At Cr Pl Iv
set_option linter.unusedVariables false
set_option linter.unusedSimpArgs false
set_option maxRecDepth 100000

theorem own : ownKnob Try.prog.godebug = none := by kernel_rfl
theorem laidOut : laidOutB Try.prog = true := by kernel_rfl

/- The place, looked for from index i on. -/
def atP (ac lv : List Int) (osd life : Int) (i : Nat) : Int := if osd = -1 then -1 else plF osd life (ac.drop i) (lv.drop i) i

theorem atP_zero (ac lv : List Int) (osd life : Int) : atP ac lv osd life 0 = plc ac lv osd life := rfl
theorem atP_end {ac : List Int} (lv : List Int) (osd life : Int) {i : Nat} (h : ac.length ≤ i) : atP ac lv osd life i = -1 := by
  unfold atP
  split
  · rfl
  · exact plF_end (.inl (List.drop_of_length_le h))
theorem atP_none {ac lv : List Int} (osd life : Int) {i : Nat} {z : Int} (hz : ac[i]? = some z) (h : lv.length ≤ i) : atP ac lv osd life i = atP ac lv osd life (i + 1) := by
  unfold atP
  split
  · rfl
  · rw [plF_end (.inr (List.drop_of_length_le h)), plF_end (.inr (List.drop_of_length_le (by omega)))]
theorem atP_step {ac lv : List Int} (osd life : Int) {i : Nat} {z y : Int} (hz : ac[i]? = some z) (hy : lv[i]? = some y) : atP ac lv osd life i = if osd = -1 then -1 else if z = osd ∧ y = life then (i : Int) else atP ac lv osd life (i + 1) := by
  unfold atP
  by_cases h : osd = -1
  · rw [if_pos h, if_pos h]
  · rw [if_neg h, if_neg h, if_neg h, dropI hz, dropI hy, plF_cons]
theorem nh_drop {ac : List Int} {i : Nat} {z : Int} (hz : ac[i]? = some z) : nh (ac.drop i) = nh (ac.drop (i + 1)) + (if z = -1 then 0 else 1) := by
  rw [dropI hz]
  unfold nh
  by_cases e : z = -1
  · simp [e]
  · simp [e]
theorem nh_len (l : List Int) : nh l ≤ l.length := List.length_filter_le _ _

theorem pool_one {m : Mp} (h : mayM m = true) : 0 < m.pool.pgs ∧ 1 ≤ m.pool.k ∧ 1 ≤ m.pool.m ∧ m.pool.k + m.pool.m ≤ 32 ∧ 0 ≤ m.ep ∧ m.ep ≤ 1048576 := by
  unfold mayM at h
  simp only [Bool.and_eq_true, wi_iff] at h
  obtain ⟨⟨h1, h2⟩, _⟩ := h
  unfold poolB at h2
  simp only [Bool.and_eq_true, decide_eq_true_eq, wi_iff] at h2
  omega

theorem okR_take {p : Pool} {e : Int} {ms : List Mp} {k : Nat} {m : Mp} (h : okR p e (ms.take k) = true) (hm : ms[k]? = some m) (h1 : mayM m = true) (h2 : m.pool = p) (h3 : m.ep = e + k) : okR p e (ms.take (k + 1)) = true := by
  refine okR_of fun i q hq => ?_
  rw [List.getElem?_take] at hq
  split at hq
  · rename_i hi
    by_cases hik : i < k
    · refine okR_get h i q ?_
      rw [List.getElem?_take, if_pos hik]
      exact hq
    · have e1 : i = k := by omega
      subst e1
      rw [hm] at hq
      injection hq with hq
      subst hq
      exact ⟨h1, h2, h3⟩
  · cases hq

theorem okM_false {ms : List Mp} {m0 : Mp} (h0 : ms[0]? = some m0) {i : Nat} {m : Mp} (hm : ms[i]? = some m) (hno : ¬ (mayM m = true ∧ m.pool = m0.pool ∧ m.ep = m0.ep + i)) : okM ms 0 = false := by
  cases ms with
  | nil => simp at h0
  | cons a t =>
    have ha : a = m0 := by simpa using h0
    subst ha
    cases hk : okM (a :: t) 0 with
    | false => rfl
    | true =>
      simp only [okM, Bool.and_eq_true] at hk
      exact absurd (okR_get hk.2 i m hm) hno
theorem okM_true {ms : List Mp} {m0 : Mp} (h0 : ms[0]? = some m0) (hl : ms.length ≤ 4096) (h : okR m0.pool m0.ep ms = true) : okM ms 0 = true := by
  cases ms with
  | nil => simp at h0
  | cons a t =>
    have ha : a = m0 := by simpa using h0
    subst ha
    have hp := pool_one (okR_get h 0 a rfl).1
    rw [okM_cons a t 0 (by simpa using hl) (Int.le_refl 0) hp.1]
    exact h

/- Between two rounds of the first loop. -/
def Lo (ms : List Mp) (n k : Nat) (B : Bool) : Prop := (B = false ∧ okM ms 0 = false) ∨ (B = true ∧ 1 ≤ n ∧ n ≤ 4096 ∧ ∀ m0, ms[0]? = some m0 → okR m0.pool m0.ep (ms.take k) = true)

theorem lo_end {ms : List Mp} {n : Nat} {B : Bool} (hl : ms.length = n) {k : Nat} (h : Lo ms n k B) (hk : B = false ∨ k = n) : B = okM ms 0 := by
  rcases h with ⟨h1, h2⟩ | ⟨h1, h2, h3, h4⟩
  · rw [h1, h2]
  · rcases hk with e | e
    · rw [h1] at e
      cases e
    · subst e
      obtain ⟨m0, hm0⟩ : ∃ m0, ms[0]? = some m0 := ⟨ms[0]'(by omega), List.getElem?_eq_getElem (by omega)⟩
      have := h4 m0 hm0
      rw [List.take_of_length_le (by omega)] at this
      rw [h1, okM_true hm0 (by omega) this]
theorem lo_start {ms : List Mp} {n : Nat} (hl : ms.length = n) : Lo ms n 0 (decide (0 < n) && decide (n ≤ 4096)) := by
  by_cases h1 : 0 < n
  · by_cases h2 : n ≤ 4096
    · exact .inr ⟨by simp [h1, h2], h1, h2, fun _ _ => rfl⟩
    · refine .inl ⟨by simp [h2], ?_⟩
      cases ms with
      | nil => rfl
      | cons a t =>
        simp only [okM]
        rw [decide_eq_false (p := t.length + 1 ≤ 4096) (by simp at hl; omega)]
        rfl
  · refine .inl ⟨by simp [h1], ?_⟩
    have : ms = [] := List.eq_nil_of_length_eq_zero (by omega)
    rw [this]
    rfl

theorem atP_hole {ac lv : List Int} (osd life : Int) {i : Nat} (hz : ac[i]? = some (-1)) : atP ac lv osd life i = atP ac lv osd life (i + 1) := by
  by_cases ho : osd = -1
  · unfold atP
    rw [if_pos ho, if_pos ho]
  · cases hy : lv[i]? with
    | none => exact atP_none osd life hz (by simpa using hy)
    | some y => rw [atP_step osd life hz hy, if_neg ho, if_neg (fun e => ho e.1.symm)]
theorem atP_hit {ac lv : List Int} {osd life : Int} {i : Nat} {z y : Int} (hz : ac[i]? = some z) (hy : lv[i]? = some y) (h0 : z ≠ -1) (h1 : z = osd) (h2 : y = life) : atP ac lv osd life i = (i : Int) := by
  rw [atP_step osd life hz hy, if_neg (fun e => h0 (h1.trans e)), if_pos ⟨h1, h2⟩]
theorem atP_miss {ac lv : List Int} {osd life : Int} {i : Nat} {z y : Int} (hz : ac[i]? = some z) (hy : lv[i]? = some y) (h0 : ¬ (z = osd ∧ y = life)) : atP ac lv osd life i = atP ac lv osd life (i + 1) := by
  by_cases ho : osd = -1
  · unfold atP
    rw [if_pos ho, if_pos ho]
  · rw [atP_step osd life hz hy, if_neg ho, if_neg h0]

set_option maxHeartbeats 12800000 in
theorem walk_in {w : World} {x x1 x2 x3 : Option Addr} {n c n1 c1 n2 c2 n3 c3 : Nat} {L : List MV} {ac lv : List Int} (hM : Ms w x n c L) (h1 : Nu w x1 n1 c1 ac) (h2 : Nu w x2 n2 c2 lv) (hm1 : n1 ≤ 140737488351232) (hm2 : n2 ≤ 140737488351232) (f1 f2 p osd life need : Int) (g0 : (0 : Int) < (n : Int)) (g1 : (n : Int) ≤ 4096) :
    Calls Try.prog 3 #[.slice x n c, .agg #[.int .i64 f1, .int .i64 f2, .slice x1 n1 c1, .slice x2 n2 c2, .slice x3 n3 c3, .int .i64 p], .agg #[.int .i64 osd, .int .i64 life, .int .i64 need]] w fun e w' => e = .returned (.bool true) ∧ Below w.heap.size w w' := by
  obtain ⟨w0, hw0⟩ : ∃ w0, w0 = (w.alloc (.cells #[.int .i64 f1, .int .i64 f2, .slice x1 n1 c1, .slice x2 n2 c2, .slice x3 n3 c3, .int .i64 p] 25)).alloc (.cells #[.int .i64 osd, .int .i64 life, .int .i64 need] 26) := ⟨_, rfl⟩
  have b0 : Below w.heap.size w w0 := by rw [hw0]; exact on (al _ _) (al _ _)
  have k0 : w0.cell? ⟨w.heap.size, 0, none⟩ = some (.int .i64 f1) := by rw [hw0]; go_simp
  have k1 : w0.cell? ⟨w.heap.size, 1, none⟩ = some (.int .i64 f2) := by rw [hw0]; go_simp
  have k2 : w0.cell? ⟨w.heap.size, 2, none⟩ = some (.slice x1 n1 c1) := by rw [hw0]; go_simp
  have k3 : w0.cell? ⟨w.heap.size, 3, none⟩ = some (.slice x2 n2 c2) := by rw [hw0]; go_simp
  have k4 : w0.cell? ⟨w.heap.size, 4, none⟩ = some (.slice x3 n3 c3) := by rw [hw0]; go_simp
  have k5 : w0.cell? ⟨w.heap.size, 5, none⟩ = some (.int .i64 p) := by rw [hw0]; go_simp
  have a0 : w0.cell? ⟨w.heap.size + 1, 0, none⟩ = some (.int .i64 osd) := by rw [hw0]; go_simp
  have a1 : w0.cell? ⟨w.heap.size + 1, 1, none⟩ = some (.int .i64 life) := by rw [hw0]; go_simp
  have a2 : w0.cell? ⟨w.heap.size + 1, 2, none⟩ = some (.int .i64 need) := by rw [hw0]; go_simp
  have HM := hid (hM.below b0)
  have HL := hid hM.len
  have HN := hid (And.intro (h1.below b0) (h2.below b0))
  have HNL := hid (And.intro h1.len h2.len)
  have HK := hid (And.intro k0 (And.intro k1 (And.intro k2 (And.intro k3 (And.intro k4 k5)))))
  have HJ := hid (And.intro a0 (And.intro a1 a2))
  have HB := hid b0
  have HW := hid hw0
  have hAw := fun W => awake_any W
  have hS := lo_start (ms := L.map MV.m) (n := n) (by rw [List.length_map]; exact hM.len)
  rw [decide_eq_true (p := 0 < n) (by omega), decide_eq_true (p := n ≤ 4096) (by omega)] at hS
  have HS := hid hS
  clear hM h1 h2 b0 hw0 k0 k1 k2 k3 k4 k5 a0 a1 a2 hS
  go_enter Try.func3, Try.ntmps3
  go_wp2_with fail
  rw [← HW.out]
  go_loopw [8, 7] (fun i q wr => ∃ (k : Nat) (B : Bool), k ≤ n ∧ i = .int .i64 k ∧ q = .bool B ∧ Hid (Below w0.heap.size w0 wr ∧ Lo (L.map MV.m) n k B)) (fun i _ _ => n - (intOf i).toNat)
  case atStart => exact ⟨0, _, by omega, rfl, rfl, Below.refl _ _, HS.out⟩
  case round =>
    obtain ⟨k, B, hk, rfl, rfl, HR⟩ := hrel
    cases B with
    | false =>
      have HE : Hid (okM (L.map MV.m) 0 = false) := (lo_end (by rw [List.length_map]; exact HL.out) HR.out.2 (.inl rfl)).symm
      have hbr := HR.out.1
      have HBR := hid hbr
      have cA : Calls Try.prog 6 #[.slice x n c, .int .i64 0] wr fun e w' => e = .returned (.tuple #[.slice none 0 0, .int .i64 1]) ∧ Hid (Below w0.heap.size w0 w') := (all_any (HM.out.below hbr) 0).mono fun e w' hh => by
        rcases hh with ⟨_, q1, q2⟩ | ⟨q, _⟩
        · exact ⟨q1, on HBR.out q2⟩
        · rw [HE.out] at q
          cases q
      clear HR HE hbr
      by_cases hlt : k < n
      · have hkn : (k : Int) < (n : Int) := by omega
        go_wp2_with (go_at_call 6; refine cA.mono ?_; rintro e w2 ⟨rfl, H2⟩; clear cA; have kk2 := keep H2.out HK.out.2.2.1)
        clear kk2
        go_loopw [13, 11, 12] (fun i q t wr => ∃ j : Nat, j ≤ n1 ∧ i = .int .i64 ((j : Int) - 1) ∧ q = .int .i64 (nh (ac.drop j) : Nat) ∧ t = .int .i64 (atP ac lv osd life j) ∧ Hid (Below w0.heap.size w0 wr)) (fun i _ _ _ => (intOf i + 1).toNat)
        case atStart => exact ⟨n1, by omega, by go_num, by rw [List.drop_of_length_le (by have := HNL.out; omega)]; rfl, by rw [atP_end _ _ _ (by have := HNL.out; omega)], H2.out⟩
        case round =>
          obtain ⟨j, hj, rfl, rfl, rfl, HR2⟩ := hrel
          have bR := HR2.out
          cases j with
          | zero =>
            have hz0 : ¬ (0 : Int) ≤ ((0 : Nat) : Int) - 1 := by omega
            have s0 := After.cell (keep bR HK.out.1)
            have s1 := After.cell (keep bR HK.out.2.1)
            have s2 := After.cell (keep bR HK.out.2.2.1)
            have s3 := After.cell (keep bR HK.out.2.2.2.1)
            have s4 := After.cell (keep bR HK.out.2.2.2.2.1)
            have s5 := After.cell (keep bR HK.out.2.2.2.2.2)
            have t0 := After.cell (keep bR HJ.out.1)
            have t1 := After.cell (keep bR HJ.out.2.1)
            have t2 := After.cell (keep bR HJ.out.2.2)
            have hEn := fun q : After wr => enough_any (x2 := x2) (x3 := x3) (n2 := n2) (c2 := c2) (n3 := n3) (c3 := c3) (HN.out.1.below (on bR q.h)) hm1 f1 f2 p need
            have hPl := fun q : After wr => place_any (x3 := x3) (n3 := n3) (c3 := c3) (HN.out.1.below (on bR q.h)) (HN.out.2.below (on bR q.h)) hm1 hm2 f1 f2 p osd life
            rw [List.drop_zero, atP_zero] at *
            generalize plc ac lv osd life = P at *
            generalize nh ac = NH at *
            have HBR2 := hid bR
            clear bR HR2
            haveI := After.ne wr
            by_cases hne : need ≤ (NH : Int)
            · rw [decide_eq_true hne] at hEn
              go_wp2_with fail
              refine wp_region_after (by kernel_rfl) (by kernel_rfl) ?_
              repeat (go_big_quiet_step ((first | (go_at_call 7; refine Calls.after_of (hEn _)) | (go_at_call 8; refine Calls.after_of (hPl _)) | (go_at_call 5; refine Calls.after_of (hAw _)))))
              refine wpQuiet_nil ?_
              rintro _ ⟨q, rfl⟩
              go_wp2_with fail
              go_ret
              exact ⟨rfl, on HB.out (on HBR2.out q.h)⟩
            · rw [decide_eq_false hne] at hEn
              have hne2 : (NH : Int) < need := by omega
              have hnb : decide (need ≤ (NH : Int)) = false := decide_eq_false hne
              have hnc : (false == decide (need ≤ (NH : Int))) = true := by rw [hnb]; rfl
              go_wp2_with fail
              refine wp_region_after (by kernel_rfl) (by kernel_rfl) ?_
              repeat (go_big_quiet_step ((first | (go_at_call 7; refine Calls.after_of (hEn _)) | (go_at_call 8; refine Calls.after_of (hPl _)) | (go_at_call 5; refine Calls.after_of (hAw _)))))
              refine wpQuiet_nil ?_
              rintro _ ⟨q, rfl⟩
              go_wp2_with fail
              go_ret
              exact ⟨rfl, on HB.out (on HBR2.out q.h)⟩
          | succ j =>
            have ej : (((j + 1 : Nat) : Int) - 1) = (j : Int) := by omega
            rw [ej]
            clear ej
            have hz0 : (0 : Int) ≤ (j : Int) := by omega
            have hj1 : (j : Int) < (n1 : Int) := by omega
            obtain ⟨z, hz⟩ : ∃ z, ac[j]? = some z := ⟨ac[j]'(by have := HNL.out; omega), List.getElem?_eq_getElem (by have := HNL.out; omega)⟩
            obtain ⟨b1, o1, hx1, hc1⟩ : ∃ b o, x1 = some ⟨b, o, none⟩ ∧ ∀ (k : Nat) (z : Int), ac[k]? = some z → w0.cell? ⟨b, o + k, none⟩ = some (.int .i64 z) := by
              rcases HN.out.1.row with e | ⟨b, o, e1, e2, e3⟩
              · omega
              · exact ⟨b, o, e1, e3⟩
            subst hx1
            have d0 := keep bR (hc1 j z hz)
            have q2 := keep bR HK.out.2.2.1
            have q3 := keep bR HK.out.2.2.2.1
            have q6 := keep bR HJ.out.1
            have q7 := keep bR HJ.out.2.1
            have hle : nh (ac.drop (j + 1)) ≤ 140737488351232 := by
              have h1 := nh_len (ac.drop (j + 1))
              rw [List.length_drop] at h1
              have := HNL.out
              omega
            have hn := nh_drop hz
            have HBR2 := hid bR
            clear hc1 HR2
            by_cases hh : z = -1
            · have e1 : (z != -1) = false := by simpa using hh
              have hp : atP ac lv osd life j = atP ac lv osd life (j + 1) := atP_hole osd life (by rw [hz, hh])
              rw [if_pos hh] at hn
              have HP := hid (And.intro hp hn)
              clear hp hn hh hz bR
              generalize atP ac lv osd life (j + 1) = P at *
              generalize nh (ac.drop (j + 1)) = NH at *
              go_wp2_with fail
              go_roundw
              case rel => exact ⟨j, by omega, by go_num, by rw [HP.out.2]; rfl, by rw [HP.out.1], HBR2.out⟩
              case measure => first | (simp [intOf]; done) | (simp [intOf]; omega)
            · have e1 : (z != -1) = true := by simpa using hh
              rw [if_neg hh] at hn
              have s0 := After.cell d0
              have s2 := After.cell q2
              have s3 := After.cell q3
              have s6 := After.cell q6
              have s7 := After.cell q7
              haveI := After.ne wr
              by_cases hjl : j < n2
              · have hj2 : (j : Int) < (n2 : Int) := by omega
                obtain ⟨y, hy⟩ : ∃ y, lv[j]? = some y := ⟨lv[j]'(by have := HNL.out; omega), List.getElem?_eq_getElem (by have := HNL.out; omega)⟩
                obtain ⟨b2, o2, hx2, hc2⟩ : ∃ b o, x2 = some ⟨b, o, none⟩ ∧ ∀ (k : Nat) (z : Int), lv[k]? = some z → w0.cell? ⟨b, o + k, none⟩ = some (.int .i64 z) := by
                  rcases HN.out.2.row with e | ⟨b, o, e1, e2, e3⟩
                  · omega
                  · exact ⟨b, o, e1, e3⟩
                subst hx2
                have s1 := After.cell (keep bR (hc2 j y hy))
                by_cases h1 : z = osd
                · have e2 : (z == osd) = true := by simpa using h1
                  by_cases h2 : y = life
                  · have e3 : (y == life) = true := by simpa using h2
                    have hp := atP_hit hz hy hh h1 h2
                    have HP := hid (And.intro hp hn)
                    clear hp hn hh hz bR hc2 hy h1 h2
                    generalize atP ac lv osd life (j + 1) = P at *
                    generalize nh (ac.drop (j + 1)) = NH at *
                    go_wp2_with fail
                    clear d0 q2 q3 q6 q7
                    refine wp_region_after (by kernel_rfl) (by kernel_rfl) ?_
                    repeat (go_big_quiet_step (fail))
                    refine wpQuiet_nil ?_
                    rintro _ ⟨q, rfl⟩
                    go_wp2_with fail
                    go_roundw
                    case rel => exact ⟨j, by omega, by go_num, by rw [HP.out.2]; go_num, by rw [HP.out.1], on HBR2.out q.h⟩
                    case measure => first | (simp [intOf]; done) | (simp [intOf]; omega)
                  · have e3 : (y == life) = false := by simpa using h2
                    have hp := atP_miss (osd := osd) (life := life) hz hy (fun e => h2 e.2)
                    have HP := hid (And.intro hp hn)
                    clear hp hn hh hz bR hc2 hy h1 h2
                    generalize atP ac lv osd life (j + 1) = P at *
                    generalize nh (ac.drop (j + 1)) = NH at *
                    go_wp2_with fail
                    clear d0 q2 q3 q6 q7
                    refine wp_region_after (by kernel_rfl) (by kernel_rfl) ?_
                    repeat (go_big_quiet_step (fail))
                    refine wpQuiet_nil ?_
                    rintro _ ⟨q, rfl⟩
                    go_wp2_with fail
                    go_roundw
                    case rel => exact ⟨j, by omega, by go_num, by rw [HP.out.2]; go_num, by rw [HP.out.1], on HBR2.out q.h⟩
                    case measure => first | (simp [intOf]; done) | (simp [intOf]; omega)
                · have e2 : (z == osd) = false := by simpa using h1
                  have hp := atP_miss (osd := osd) (life := life) hz hy (fun e => h1 e.1)
                  have HP := hid (And.intro hp hn)
                  clear hp hn hh hz bR hc2 hy h1
                  generalize atP ac lv osd life (j + 1) = P at *
                  generalize nh (ac.drop (j + 1)) = NH at *
                  go_wp2_with fail
                  clear d0 q2 q3 q6 q7
                  refine wp_region_after (by kernel_rfl) (by kernel_rfl) ?_
                  repeat (go_big_quiet_step (fail))
                  refine wpQuiet_nil ?_
                  rintro _ ⟨q, rfl⟩
                  go_wp2_with fail
                  go_roundw
                  case rel => exact ⟨j, by omega, by go_num, by rw [HP.out.2]; go_num, by rw [HP.out.1], on HBR2.out q.h⟩
                  case measure => first | (simp [intOf]; done) | (simp [intOf]; omega)
              · have hj2 : ¬ (j : Int) < (n2 : Int) := by omega
                have hp := atP_none osd life hz (show lv.length ≤ j by have := HNL.out; omega)
                have HP := hid (And.intro hp hn)
                clear hp hn hh hz bR
                generalize atP ac lv osd life (j + 1) = P at *
                generalize nh (ac.drop (j + 1)) = NH at *
                go_wp2_with fail
                clear d0 q2 q3 q6 q7
                refine wp_region_after (by kernel_rfl) (by kernel_rfl) ?_
                repeat (go_big_quiet_step (fail))
                refine wpQuiet_nil ?_
                rintro _ ⟨q, rfl⟩
                go_wp2_with fail
                go_roundw
                case rel => exact ⟨j, by omega, by go_num, by rw [HP.out.2]; go_num, by rw [HP.out.1], on HBR2.out q.h⟩
                case measure => first | (simp [intOf]; done) | (simp [intOf]; omega)
      · have hkn : ¬ (k : Int) < (n : Int) := by omega
        go_wp2_with (go_at_call 6; refine cA.mono ?_; rintro e w2 ⟨rfl, H2⟩; clear cA; have kk2 := keep H2.out HK.out.2.2.1)
        clear kk2
        go_loopw [13, 11, 12] (fun i q t wr => ∃ j : Nat, j ≤ n1 ∧ i = .int .i64 ((j : Int) - 1) ∧ q = .int .i64 (nh (ac.drop j) : Nat) ∧ t = .int .i64 (atP ac lv osd life j) ∧ Hid (Below w0.heap.size w0 wr)) (fun i _ _ _ => (intOf i + 1).toNat)
        case atStart => exact ⟨n1, by omega, by go_num, by rw [List.drop_of_length_le (by have := HNL.out; omega)]; rfl, by rw [atP_end _ _ _ (by have := HNL.out; omega)], H2.out⟩
        case round =>
          obtain ⟨j, hj, rfl, rfl, rfl, HR2⟩ := hrel
          have bR := HR2.out
          cases j with
          | zero =>
            have hz0 : ¬ (0 : Int) ≤ ((0 : Nat) : Int) - 1 := by omega
            have s0 := After.cell (keep bR HK.out.1)
            have s1 := After.cell (keep bR HK.out.2.1)
            have s2 := After.cell (keep bR HK.out.2.2.1)
            have s3 := After.cell (keep bR HK.out.2.2.2.1)
            have s4 := After.cell (keep bR HK.out.2.2.2.2.1)
            have s5 := After.cell (keep bR HK.out.2.2.2.2.2)
            have t0 := After.cell (keep bR HJ.out.1)
            have t1 := After.cell (keep bR HJ.out.2.1)
            have t2 := After.cell (keep bR HJ.out.2.2)
            have hEn := fun q : After wr => enough_any (x2 := x2) (x3 := x3) (n2 := n2) (c2 := c2) (n3 := n3) (c3 := c3) (HN.out.1.below (on bR q.h)) hm1 f1 f2 p need
            have hPl := fun q : After wr => place_any (x3 := x3) (n3 := n3) (c3 := c3) (HN.out.1.below (on bR q.h)) (HN.out.2.below (on bR q.h)) hm1 hm2 f1 f2 p osd life
            rw [List.drop_zero, atP_zero] at *
            generalize plc ac lv osd life = P at *
            generalize nh ac = NH at *
            have HBR2 := hid bR
            clear bR HR2
            haveI := After.ne wr
            by_cases hne : need ≤ (NH : Int)
            · rw [decide_eq_true hne] at hEn
              go_wp2_with fail
              refine wp_region_after (by kernel_rfl) (by kernel_rfl) ?_
              repeat (go_big_quiet_step ((first | (go_at_call 7; refine Calls.after_of (hEn _)) | (go_at_call 8; refine Calls.after_of (hPl _)) | (go_at_call 5; refine Calls.after_of (hAw _)))))
              refine wpQuiet_nil ?_
              rintro _ ⟨q, rfl⟩
              go_wp2_with fail
              go_ret
              exact ⟨rfl, on HB.out (on HBR2.out q.h)⟩
            · rw [decide_eq_false hne] at hEn
              have hne2 : (NH : Int) < need := by omega
              have hnb : decide (need ≤ (NH : Int)) = false := decide_eq_false hne
              have hnc : (false == decide (need ≤ (NH : Int))) = true := by rw [hnb]; rfl
              go_wp2_with fail
              refine wp_region_after (by kernel_rfl) (by kernel_rfl) ?_
              repeat (go_big_quiet_step ((first | (go_at_call 7; refine Calls.after_of (hEn _)) | (go_at_call 8; refine Calls.after_of (hPl _)) | (go_at_call 5; refine Calls.after_of (hAw _)))))
              refine wpQuiet_nil ?_
              rintro _ ⟨q, rfl⟩
              go_wp2_with fail
              go_ret
              exact ⟨rfl, on HB.out (on HBR2.out q.h)⟩
          | succ j =>
            have ej : (((j + 1 : Nat) : Int) - 1) = (j : Int) := by omega
            rw [ej]
            clear ej
            have hz0 : (0 : Int) ≤ (j : Int) := by omega
            have hj1 : (j : Int) < (n1 : Int) := by omega
            obtain ⟨z, hz⟩ : ∃ z, ac[j]? = some z := ⟨ac[j]'(by have := HNL.out; omega), List.getElem?_eq_getElem (by have := HNL.out; omega)⟩
            obtain ⟨b1, o1, hx1, hc1⟩ : ∃ b o, x1 = some ⟨b, o, none⟩ ∧ ∀ (k : Nat) (z : Int), ac[k]? = some z → w0.cell? ⟨b, o + k, none⟩ = some (.int .i64 z) := by
              rcases HN.out.1.row with e | ⟨b, o, e1, e2, e3⟩
              · omega
              · exact ⟨b, o, e1, e3⟩
            subst hx1
            have d0 := keep bR (hc1 j z hz)
            have q2 := keep bR HK.out.2.2.1
            have q3 := keep bR HK.out.2.2.2.1
            have q6 := keep bR HJ.out.1
            have q7 := keep bR HJ.out.2.1
            have hle : nh (ac.drop (j + 1)) ≤ 140737488351232 := by
              have h1 := nh_len (ac.drop (j + 1))
              rw [List.length_drop] at h1
              have := HNL.out
              omega
            have hn := nh_drop hz
            have HBR2 := hid bR
            clear hc1 HR2
            by_cases hh : z = -1
            · have e1 : (z != -1) = false := by simpa using hh
              have hp : atP ac lv osd life j = atP ac lv osd life (j + 1) := atP_hole osd life (by rw [hz, hh])
              rw [if_pos hh] at hn
              have HP := hid (And.intro hp hn)
              clear hp hn hh hz bR
              generalize atP ac lv osd life (j + 1) = P at *
              generalize nh (ac.drop (j + 1)) = NH at *
              go_wp2_with fail
              go_roundw
              case rel => exact ⟨j, by omega, by go_num, by rw [HP.out.2]; rfl, by rw [HP.out.1], HBR2.out⟩
              case measure => first | (simp [intOf]; done) | (simp [intOf]; omega)
            · have e1 : (z != -1) = true := by simpa using hh
              rw [if_neg hh] at hn
              have s0 := After.cell d0
              have s2 := After.cell q2
              have s3 := After.cell q3
              have s6 := After.cell q6
              have s7 := After.cell q7
              haveI := After.ne wr
              by_cases hjl : j < n2
              · have hj2 : (j : Int) < (n2 : Int) := by omega
                obtain ⟨y, hy⟩ : ∃ y, lv[j]? = some y := ⟨lv[j]'(by have := HNL.out; omega), List.getElem?_eq_getElem (by have := HNL.out; omega)⟩
                obtain ⟨b2, o2, hx2, hc2⟩ : ∃ b o, x2 = some ⟨b, o, none⟩ ∧ ∀ (k : Nat) (z : Int), lv[k]? = some z → w0.cell? ⟨b, o + k, none⟩ = some (.int .i64 z) := by
                  rcases HN.out.2.row with e | ⟨b, o, e1, e2, e3⟩
                  · omega
                  · exact ⟨b, o, e1, e3⟩
                subst hx2
                have s1 := After.cell (keep bR (hc2 j y hy))
                by_cases h1 : z = osd
                · have e2 : (z == osd) = true := by simpa using h1
                  by_cases h2 : y = life
                  · have e3 : (y == life) = true := by simpa using h2
                    have hp := atP_hit hz hy hh h1 h2
                    have HP := hid (And.intro hp hn)
                    clear hp hn hh hz bR hc2 hy h1 h2
                    generalize atP ac lv osd life (j + 1) = P at *
                    generalize nh (ac.drop (j + 1)) = NH at *
                    go_wp2_with fail
                    clear d0 q2 q3 q6 q7
                    refine wp_region_after (by kernel_rfl) (by kernel_rfl) ?_
                    repeat (go_big_quiet_step (fail))
                    refine wpQuiet_nil ?_
                    rintro _ ⟨q, rfl⟩
                    go_wp2_with fail
                    go_roundw
                    case rel => exact ⟨j, by omega, by go_num, by rw [HP.out.2]; go_num, by rw [HP.out.1], on HBR2.out q.h⟩
                    case measure => first | (simp [intOf]; done) | (simp [intOf]; omega)
                  · have e3 : (y == life) = false := by simpa using h2
                    have hp := atP_miss (osd := osd) (life := life) hz hy (fun e => h2 e.2)
                    have HP := hid (And.intro hp hn)
                    clear hp hn hh hz bR hc2 hy h1 h2
                    generalize atP ac lv osd life (j + 1) = P at *
                    generalize nh (ac.drop (j + 1)) = NH at *
                    go_wp2_with fail
                    clear d0 q2 q3 q6 q7
                    refine wp_region_after (by kernel_rfl) (by kernel_rfl) ?_
                    repeat (go_big_quiet_step (fail))
                    refine wpQuiet_nil ?_
                    rintro _ ⟨q, rfl⟩
                    go_wp2_with fail
                    go_roundw
                    case rel => exact ⟨j, by omega, by go_num, by rw [HP.out.2]; go_num, by rw [HP.out.1], on HBR2.out q.h⟩
                    case measure => first | (simp [intOf]; done) | (simp [intOf]; omega)
                · have e2 : (z == osd) = false := by simpa using h1
                  have hp := atP_miss (osd := osd) (life := life) hz hy (fun e => h1 e.1)
                  have HP := hid (And.intro hp hn)
                  clear hp hn hh hz bR hc2 hy h1
                  generalize atP ac lv osd life (j + 1) = P at *
                  generalize nh (ac.drop (j + 1)) = NH at *
                  go_wp2_with fail
                  clear d0 q2 q3 q6 q7
                  refine wp_region_after (by kernel_rfl) (by kernel_rfl) ?_
                  repeat (go_big_quiet_step (fail))
                  refine wpQuiet_nil ?_
                  rintro _ ⟨q, rfl⟩
                  go_wp2_with fail
                  go_roundw
                  case rel => exact ⟨j, by omega, by go_num, by rw [HP.out.2]; go_num, by rw [HP.out.1], on HBR2.out q.h⟩
                  case measure => first | (simp [intOf]; done) | (simp [intOf]; omega)
              · have hj2 : ¬ (j : Int) < (n2 : Int) := by omega
                have hp := atP_none osd life hz (show lv.length ≤ j by have := HNL.out; omega)
                have HP := hid (And.intro hp hn)
                clear hp hn hh hz bR
                generalize atP ac lv osd life (j + 1) = P at *
                generalize nh (ac.drop (j + 1)) = NH at *
                go_wp2_with fail
                clear d0 q2 q3 q6 q7
                refine wp_region_after (by kernel_rfl) (by kernel_rfl) ?_
                repeat (go_big_quiet_step (fail))
                refine wpQuiet_nil ?_
                rintro _ ⟨q, rfl⟩
                go_wp2_with fail
                go_roundw
                case rel => exact ⟨j, by omega, by go_num, by rw [HP.out.2]; go_num, by rw [HP.out.1], on HBR2.out q.h⟩
                case measure => first | (simp [intOf]; done) | (simp [intOf]; omega)
    | true =>
      by_cases hlt : k < n
      · have hkn : (k : Int) < (n : Int) := by omega
        have hlo : 1 ≤ n ∧ n ≤ 4096 ∧ ∀ m0, (L.map MV.m)[0]? = some m0 → okR m0.pool m0.ep ((L.map MV.m).take k) = true := by
          rcases HR.out.2 with ⟨e, _⟩ | ⟨_, h⟩
          · cases e
          · exact h
        have hbr := HR.out.1
        have HBR := hid hbr
        obtain ⟨v, hv⟩ : ∃ v, L[k]? = some v := ⟨L[k]'(by have := HL.out; omega), List.getElem?_eq_getElem (by have := HL.out; omega)⟩
        obtain ⟨v0, hv0⟩ : ∃ v, L[0]? = some v := ⟨L[0]'(by have := HL.out; omega), List.getElem?_eq_getElem (by have := HL.out; omega)⟩
        obtain ⟨bm, om, hxm, hcm⟩ : ∃ b o, x = some ⟨b, o, none⟩ ∧ ∀ (k : Nat) (v : MV), L[k]? = some v → ∀ (j : Nat) (u : Value), (enM v)[j]? = some u → w0.cell? ⟨b, o + k * 6 + j, none⟩ = some u := by
          rcases HM.out.row with e | ⟨b, o, e1, e2, e3⟩
          · omega
          · exact ⟨b, o, e1, e3⟩
        subst hxm
        obtain ⟨hOs, hkk⟩ := HM.out.each k v hv
        obtain ⟨a0, a1, a2, a3, a4, a5⟩ := Ms.at hcm hv
        obtain ⟨b0, b1, b2, b3, b4, b5⟩ := Ms.at hcm hv0
        rw [Nat.zero_mul, Nat.add_zero] at b0 b1 b2 b3 b4 b5
        have hmm : (L.map MV.m)[k]? = some v.m := by rw [List.getElem?_map, hv]; rfl
        have hm0 : (L.map MV.m)[0]? = some v0.m := by rw [List.getElem?_map, hv0]; rfl
        have hok := hlo.2.2 v0.m hm0
        have HNO : Hid (¬ (mayM v.m = true ∧ v.m.pool = v0.m.pool ∧ v.m.ep = v0.m.ep + k) → okM (L.map MV.m) 0 = false) := fun h => okM_false hm0 hmm h
        have HYES : Hid (mayM v.m = true → v.m.pool = v0.m.pool → v.m.ep = v0.m.ep + k → okR v0.m.pool v0.m.ep ((L.map MV.m).take (k + 1)) = true) := fun h1 h2 h3 => okR_take hok hmm h1 h2 h3
        have HPO : Hid (mayM v.m = true → 1 ≤ v.m.pool.k ∧ 1 ≤ v.m.pool.m ∧ v.m.pool.k + v.m.pool.m ≤ 32) := fun h => by
          have := pool_one h
          omega
        have HE0 : Hid (k = 0 → v.m.ep = v0.m.ep) := fun h => by
          subst h
          rw [hv] at hv0
          injection hv0 with hv0
          rw [hv0]
        have HPR : Hid (k ≠ 0 → ∃ e1 : Int, w0.cell? ⟨bm, om + (k - 1) * 6, none⟩ = some (.int .i64 e1) ∧ e1 + 1 = v0.m.ep + k ∧ 0 ≤ e1 ∧ e1 ≤ 1048576) := fun h => by
          obtain ⟨vp, hvp⟩ : ∃ v, L[k - 1]? = some v := ⟨L[k - 1]'(by have := HL.out; omega), List.getElem?_eq_getElem (by have := HL.out; omega)⟩
          obtain ⟨g0, _⟩ := Ms.at hcm hvp
          have hp : ((L.map MV.m).take k)[k - 1]? = some vp.m := by
            rw [List.getElem?_take, if_pos (by omega), List.getElem?_map, hvp]
            rfl
          obtain ⟨h1, h2, h3⟩ := okR_get hok (k - 1) vp.m hp
          have h4 := pool_one h1
          exact ⟨vp.m.ep, g0, by omega, by omega, by omega⟩
        have HX := hid (And.intro hlo.1 (And.intro hlo.2.1 (And.intro hm0 hok)))
        have r0 := keep hbr a0
        have r1 := keep hbr a1
        have r2 := keep hbr a2
        have r3 := keep hbr a3
        have r4 := keep hbr a4
        have r5 := keep hbr a5
        have t1 := After.cell (keep hbr b1)
        have t2 := After.cell (keep hbr b2)
        have t3 := After.cell (keep hbr b3)
        have t4 := After.cell (keep hbr b4)
        have hnn : (0 : Int) < (n : Int) := by omega
        clear hlo hv hv0 hcm hmm hm0 hok HR a0 a1 a2 a3 a4 a5 b0 b1 b2 b3 b4 b5
        obtain ⟨⟨ep, ⟨pk, pm, pp, pd⟩, os⟩, xv, nv, cv⟩ := v
        obtain ⟨⟨e0, ⟨k0, q0, g0, z0⟩, os0⟩, x0, nz, cz⟩ := v0
        dsimp only at r0 r1 r2 r3 r4 r5 t1 t2 t3 t4 hOs hkk HNO HYES HPO HE0 HPR HX
        have s0 := After.cell r0
        have s1 := After.cell r1
        have s2 := After.cell r2
        have s3 := After.cell r3
        have s4 := After.cell r4
        have s5 := After.cell r5
        have hC := fun q : After wr => rmay_any ⟨ep, ⟨pk, pm, pp, pd⟩, os⟩ (hOs.below (on hbr q.h))
        have hE := fun W => eq_pool ⟨pk, pm, pp, pd⟩ ⟨k0, q0, g0, z0⟩ W
        unfold vM at hC
        unfold vP at hE
        dsimp only at hC hE
        clear hOs hkk
        generalize hmay : mayM ⟨ep, ⟨pk, pm, pp, pd⟩, os⟩ = tm at *
        generalize heq : eqP ⟨pk, pm, pp, pd⟩ ⟨k0, q0, g0, z0⟩ = tp at *
        clear hmay
        have HEQ := hid heq
        clear heq
        haveI := After.ne wr
        go_wp2_with fail
        cases tm with
        | false =>
          clear hbr HPR
          refine wp_region_after (by kernel_rfl) (by kernel_rfl) ?_
          repeat (go_big_quiet_step ((go_at_call 4; refine Calls.after_of (hC _))))
          refine wpQuiet_nil ?_
          rintro _ ⟨q, rfl⟩
          clear s0 s1 s2 s3 s4 s5 t1 t2 t3 t4 hC hE
          go_wp2_with fail
          haveI := After.ne q.W
          refine wp_region_after (by kernel_rfl) (by kernel_rfl) ?_
          repeat (go_big_quiet_step (fail))
          refine wpQuiet_nil ?_
          rintro _ ⟨q2, rfl⟩
          go_wp2_with fail
          go_roundw
          case rel => exact ⟨k + 1, false, by omega, by go_num, rfl, on HBR.out (on q.h q2.h), .inl ⟨rfl, HNO.out (fun e => by cases e.1)⟩⟩
          case measure => first | (simp [intOf]; done) | (simp [intOf]; omega)
        | true =>
          have hpo := HPO.out rfl
          have hsum : IntKind.i64.wrap (pk + pm) = pk + pm := by rw [IntKind.wrap_i64]; omega
          clear hpo HPO
          cases tp with
          | false =>
            clear hbr HPR
            refine wp_region_after (by kernel_rfl) (by kernel_rfl) ?_
            repeat (go_big_quiet_step ((go_at_call 4; refine Calls.after_of (hC _))))
            refine wpQuiet_nil ?_
            rintro _ ⟨q, rfl⟩
            clear s0 s1 s2 s3 s4 s5 t1 t2 t3 t4 hC hE
            go_wp2_with fail
            haveI := After.ne q.W
            refine wp_region_after (by kernel_rfl) (by kernel_rfl) ?_
            repeat (go_big_quiet_step (fail))
            refine wpQuiet_nil ?_
            rintro _ ⟨q2, rfl⟩
            go_wp2_with fail
            go_roundw
            case rel => exact ⟨k + 1, false, by omega, by go_num, rfl, on HBR.out (on q.h q2.h), .inl ⟨rfl, HNO.out (fun e => by have e2 := (eqP_iff _ _).2 e.2.1; rw [HEQ.out] at e2; cases e2)⟩⟩
            case measure => first | (simp [intOf]; done) | (simp [intOf]; omega)
          | true =>
            by_cases hk0 : k = 0
            · have ek : ((k : Int) == 0) = true := by simpa using hk0
              have HEP : Hid (ep = e0 + (k : Int)) := hid (by have := HE0.out hk0; omega)
              clear hk0 HE0 HPR hbr
              refine wp_region_after (by kernel_rfl) (by kernel_rfl) ?_
              repeat (go_big_quiet_step ((go_at_call 4; refine Calls.after_of (hC _))))
              refine wpQuiet_nil ?_
              rintro _ ⟨q, rfl⟩
              clear s0 s1 s2 s3 s4 s5 t1 t2 t3 t4 hC hE
              go_wp2_with fail
              haveI := After.ne q.W
              have y1 := After.cell (keep q.h r1)
              have y2 := After.cell (keep q.h r2)
              have y5 := After.cell (keep q.h r5)
              clear r0 r1 r2 r3 r4 r5
              by_cases h12 : (12 : Int) < (nv : Int)
              · refine wp_region_after (by kernel_rfl) (by kernel_rfl) ?_
                repeat (go_big_quiet_step (fail))
                refine wpQuiet_nil ?_
                rintro _ ⟨q2, rfl⟩
                go_wp2_with (go_at_call 5; refine (hAw _).mono ?_; rintro e w9 ⟨rfl, hb9⟩)
                go_ret
                exact ⟨rfl, on HB.out (on HBR.out (on q.h (on q2.h hb9)))⟩
              · by_cases h8 : (8 : Int) < pk + pm
                · refine wp_region_after (by kernel_rfl) (by kernel_rfl) ?_
                  repeat (go_big_quiet_step (fail))
                  refine wpQuiet_nil ?_
                  rintro _ ⟨q2, rfl⟩
                  go_wp2_with (go_at_call 5; refine (hAw _).mono ?_; rintro e w9 ⟨rfl, hb9⟩)
                  go_ret
                  exact ⟨rfl, on HB.out (on HBR.out (on q.h (on q2.h hb9)))⟩
                · by_cases h40 : (40 : Int) < (n : Int)
                  · refine wp_region_after (by kernel_rfl) (by kernel_rfl) ?_
                    repeat (go_big_quiet_step (fail))
                    refine wpQuiet_nil ?_
                    rintro _ ⟨q2, rfl⟩
                    go_wp2_with (go_at_call 5; refine (hAw _).mono ?_; rintro e w9 ⟨rfl, hb9⟩)
                    go_ret
                    exact ⟨rfl, on HB.out (on HBR.out (on q.h (on q2.h hb9)))⟩
                  · refine wp_region_after (by kernel_rfl) (by kernel_rfl) ?_
                    repeat (go_big_quiet_step (fail))
                    refine wpQuiet_nil ?_
                    rintro _ ⟨q2, rfl⟩
                    go_wp2_with fail
                    go_roundw
                    case rel => exact ⟨k + 1, true, by omega, by go_num, rfl, on HBR.out (on q.h q2.h), .inr ⟨rfl, HX.out.1, HX.out.2.1, fun m hm => by
                      rw [HX.out.2.2.1] at hm
                      injection hm with hm
                      subst hm
                      exact HYES.out (by first | trivial | rfl) ((eqP_iff _ _).1 HEQ.out) HEP.out⟩⟩
                    case measure => first | (simp [intOf]; done) | (simp [intOf]; omega)
            · have ek : ((k : Int) == 0) = false := by simpa using hk0
              obtain ⟨e1, g1, g2, g3, g4⟩ := HPR.out hk0
              obtain ⟨k1, hk1⟩ : ∃ k1, k1 = k - 1 := ⟨_, rfl⟩
              rw [← hk1] at g1
              have s6 := After.cell (keep hbr g1)
              have hw1 : IntKind.i64.wrap ((k : Int) - 1) = (k1 : Int) := by rw [IntKind.wrap_i64]; omega
              have hk1n : (k1 : Int) < (n : Int) := by omega
              have hw2 : IntKind.i64.wrap (e1 + 1) = e1 + 1 := by rw [IntKind.wrap_i64]; omega
              have G2 := hid g2
              clear hk0 HE0 HPR hbr g1 g2 g3 g4 hk1
              by_cases hep : ep = e1 + 1
              · have eq1 : (ep == e1 + 1) = true := by simpa using hep
                have HEP : Hid (ep = e0 + (k : Int)) := hep.trans G2.out
                clear hep
                refine wp_region_after (by kernel_rfl) (by kernel_rfl) ?_
                repeat (go_big_quiet_step ((go_at_call 4; refine Calls.after_of (hC _))))
                refine wpQuiet_nil ?_
                rintro _ ⟨q, rfl⟩
                clear s0 s1 s2 s3 s4 s5 t1 t2 t3 t4 hC hE
                go_wp2_with fail
                haveI := After.ne q.W
                have y1 := After.cell (keep q.h r1)
                have y2 := After.cell (keep q.h r2)
                have y5 := After.cell (keep q.h r5)
                clear r0 r1 r2 r3 r4 r5
                by_cases h12 : (12 : Int) < (nv : Int)
                · refine wp_region_after (by kernel_rfl) (by kernel_rfl) ?_
                  repeat (go_big_quiet_step (fail))
                  refine wpQuiet_nil ?_
                  rintro _ ⟨q2, rfl⟩
                  go_wp2_with (go_at_call 5; refine (hAw _).mono ?_; rintro e w9 ⟨rfl, hb9⟩)
                  go_ret
                  exact ⟨rfl, on HB.out (on HBR.out (on q.h (on q2.h hb9)))⟩
                · by_cases h8 : (8 : Int) < pk + pm
                  · refine wp_region_after (by kernel_rfl) (by kernel_rfl) ?_
                    repeat (go_big_quiet_step (fail))
                    refine wpQuiet_nil ?_
                    rintro _ ⟨q2, rfl⟩
                    go_wp2_with (go_at_call 5; refine (hAw _).mono ?_; rintro e w9 ⟨rfl, hb9⟩)
                    go_ret
                    exact ⟨rfl, on HB.out (on HBR.out (on q.h (on q2.h hb9)))⟩
                  · by_cases h40 : (40 : Int) < (n : Int)
                    · refine wp_region_after (by kernel_rfl) (by kernel_rfl) ?_
                      repeat (go_big_quiet_step (fail))
                      refine wpQuiet_nil ?_
                      rintro _ ⟨q2, rfl⟩
                      go_wp2_with (go_at_call 5; refine (hAw _).mono ?_; rintro e w9 ⟨rfl, hb9⟩)
                      go_ret
                      exact ⟨rfl, on HB.out (on HBR.out (on q.h (on q2.h hb9)))⟩
                    · refine wp_region_after (by kernel_rfl) (by kernel_rfl) ?_
                      repeat (go_big_quiet_step (fail))
                      refine wpQuiet_nil ?_
                      rintro _ ⟨q2, rfl⟩
                      go_wp2_with fail
                      go_roundw
                      case rel => exact ⟨k + 1, true, by omega, by go_num, rfl, on HBR.out (on q.h q2.h), .inr ⟨rfl, HX.out.1, HX.out.2.1, fun m hm => by
                        rw [HX.out.2.2.1] at hm
                        injection hm with hm
                        subst hm
                        exact HYES.out (by first | trivial | rfl) ((eqP_iff _ _).1 HEQ.out) HEP.out⟩⟩
                      case measure => first | (simp [intOf]; done) | (simp [intOf]; omega)
              · have eq1 : (ep == e1 + 1) = false := by simpa using hep
                have HEP := hid hep
                clear hep
                refine wp_region_after (by kernel_rfl) (by kernel_rfl) ?_
                repeat (go_big_quiet_step ((go_at_call 4; refine Calls.after_of (hC _))))
                refine wpQuiet_nil ?_
                rintro _ ⟨q, rfl⟩
                clear s0 s1 s2 s3 s4 s5 t1 t2 t3 t4 hC hE
                go_wp2_with fail
                haveI := After.ne q.W
                refine wp_region_after (by kernel_rfl) (by kernel_rfl) ?_
                repeat (go_big_quiet_step (fail))
                refine wpQuiet_nil ?_
                rintro _ ⟨q2, rfl⟩
                go_wp2_with fail
                go_roundw
                case rel => exact ⟨k + 1, false, by omega, by go_num, rfl, on HBR.out (on q.h q2.h), .inl ⟨rfl, HNO.out (fun e => HEP.out (e.2.2.trans G2.out.symm))⟩⟩
                case measure => first | (simp [intOf]; done) | (simp [intOf]; omega)
      · have HE : Hid (okM (L.map MV.m) 0 = true) := (lo_end (by rw [List.length_map]; exact HL.out) HR.out.2 (.inr (by omega))).symm
        have hkn : ¬ (k : Int) < (n : Int) := by omega
        have hbr := HR.out.1
        have HBR := hid hbr
        have cA : Calls Try.prog 6 #[.slice x n c, .int .i64 0] wr fun e w' => ∃ xa na ca, e = .returned (.tuple #[.slice xa na ca, .int .i64 0]) ∧ Hid (Below w0.heap.size w0 w') := (all_any (HM.out.below hbr) 0).mono fun e w' hh => by
          rcases hh with ⟨q, _⟩ | ⟨_, xa, na, ca, he, LS, q1, q2, q3, q4⟩
          · rw [HE.out] at q
            cases q
          · exact ⟨xa, na, ca, he, on HBR.out q1⟩
        clear HR HE hbr
        go_wp2_with (go_at_call 6; refine cA.mono ?_; rintro e w2 ⟨xa, na, ca, rfl, H2⟩; clear cA; have kk2 := keep H2.out HK.out.2.2.1)
        clear kk2
        go_loopw [13, 11, 12] (fun i q t wr => ∃ j : Nat, j ≤ n1 ∧ i = .int .i64 ((j : Int) - 1) ∧ q = .int .i64 (nh (ac.drop j) : Nat) ∧ t = .int .i64 (atP ac lv osd life j) ∧ Hid (Below w0.heap.size w0 wr)) (fun i _ _ _ => (intOf i + 1).toNat)
        case atStart => exact ⟨n1, by omega, by go_num, by rw [List.drop_of_length_le (by have := HNL.out; omega)]; rfl, by rw [atP_end _ _ _ (by have := HNL.out; omega)], H2.out⟩
        case round =>
          obtain ⟨j, hj, rfl, rfl, rfl, HR2⟩ := hrel
          have bR := HR2.out
          cases j with
          | zero =>
            have hz0 : ¬ (0 : Int) ≤ ((0 : Nat) : Int) - 1 := by omega
            have s0 := After.cell (keep bR HK.out.1)
            have s1 := After.cell (keep bR HK.out.2.1)
            have s2 := After.cell (keep bR HK.out.2.2.1)
            have s3 := After.cell (keep bR HK.out.2.2.2.1)
            have s4 := After.cell (keep bR HK.out.2.2.2.2.1)
            have s5 := After.cell (keep bR HK.out.2.2.2.2.2)
            have t0 := After.cell (keep bR HJ.out.1)
            have t1 := After.cell (keep bR HJ.out.2.1)
            have t2 := After.cell (keep bR HJ.out.2.2)
            have hEn := fun q : After wr => enough_any (x2 := x2) (x3 := x3) (n2 := n2) (c2 := c2) (n3 := n3) (c3 := c3) (HN.out.1.below (on bR q.h)) hm1 f1 f2 p need
            have hPl := fun q : After wr => place_any (x3 := x3) (n3 := n3) (c3 := c3) (HN.out.1.below (on bR q.h)) (HN.out.2.below (on bR q.h)) hm1 hm2 f1 f2 p osd life
            rw [List.drop_zero, atP_zero] at *
            generalize plc ac lv osd life = P at *
            generalize nh ac = NH at *
            have HBR2 := hid bR
            clear bR HR2
            haveI := After.ne wr
            by_cases hne : need ≤ (NH : Int)
            · rw [decide_eq_true hne] at hEn
              go_wp2_with fail
              refine wp_region_after (by kernel_rfl) (by kernel_rfl) ?_
              repeat (go_big_quiet_step ((first | (go_at_call 7; refine Calls.after_of (hEn _)) | (go_at_call 8; refine Calls.after_of (hPl _)) | (go_at_call 5; refine Calls.after_of (hAw _)))))
              refine wpQuiet_nil ?_
              rintro _ ⟨q, rfl⟩
              go_wp2_with fail
              go_ret
              exact ⟨rfl, on HB.out (on HBR2.out q.h)⟩
            · rw [decide_eq_false hne] at hEn
              have hne2 : (NH : Int) < need := by omega
              have hnb : decide (need ≤ (NH : Int)) = false := decide_eq_false hne
              have hnc : (false == decide (need ≤ (NH : Int))) = true := by rw [hnb]; rfl
              go_wp2_with fail
              refine wp_region_after (by kernel_rfl) (by kernel_rfl) ?_
              repeat (go_big_quiet_step ((first | (go_at_call 7; refine Calls.after_of (hEn _)) | (go_at_call 8; refine Calls.after_of (hPl _)) | (go_at_call 5; refine Calls.after_of (hAw _)))))
              refine wpQuiet_nil ?_
              rintro _ ⟨q, rfl⟩
              go_wp2_with fail
              go_ret
              exact ⟨rfl, on HB.out (on HBR2.out q.h)⟩
          | succ j =>
            have ej : (((j + 1 : Nat) : Int) - 1) = (j : Int) := by omega
            rw [ej]
            clear ej
            have hz0 : (0 : Int) ≤ (j : Int) := by omega
            have hj1 : (j : Int) < (n1 : Int) := by omega
            obtain ⟨z, hz⟩ : ∃ z, ac[j]? = some z := ⟨ac[j]'(by have := HNL.out; omega), List.getElem?_eq_getElem (by have := HNL.out; omega)⟩
            obtain ⟨b1, o1, hx1, hc1⟩ : ∃ b o, x1 = some ⟨b, o, none⟩ ∧ ∀ (k : Nat) (z : Int), ac[k]? = some z → w0.cell? ⟨b, o + k, none⟩ = some (.int .i64 z) := by
              rcases HN.out.1.row with e | ⟨b, o, e1, e2, e3⟩
              · omega
              · exact ⟨b, o, e1, e3⟩
            subst hx1
            have d0 := keep bR (hc1 j z hz)
            have q2 := keep bR HK.out.2.2.1
            have q3 := keep bR HK.out.2.2.2.1
            have q6 := keep bR HJ.out.1
            have q7 := keep bR HJ.out.2.1
            have hle : nh (ac.drop (j + 1)) ≤ 140737488351232 := by
              have h1 := nh_len (ac.drop (j + 1))
              rw [List.length_drop] at h1
              have := HNL.out
              omega
            have hn := nh_drop hz
            have HBR2 := hid bR
            clear hc1 HR2
            by_cases hh : z = -1
            · have e1 : (z != -1) = false := by simpa using hh
              have hp : atP ac lv osd life j = atP ac lv osd life (j + 1) := atP_hole osd life (by rw [hz, hh])
              rw [if_pos hh] at hn
              have HP := hid (And.intro hp hn)
              clear hp hn hh hz bR
              generalize atP ac lv osd life (j + 1) = P at *
              generalize nh (ac.drop (j + 1)) = NH at *
              go_wp2_with fail
              go_roundw
              case rel => exact ⟨j, by omega, by go_num, by rw [HP.out.2]; rfl, by rw [HP.out.1], HBR2.out⟩
              case measure => first | (simp [intOf]; done) | (simp [intOf]; omega)
            · have e1 : (z != -1) = true := by simpa using hh
              rw [if_neg hh] at hn
              have s0 := After.cell d0
              have s2 := After.cell q2
              have s3 := After.cell q3
              have s6 := After.cell q6
              have s7 := After.cell q7
              haveI := After.ne wr
              by_cases hjl : j < n2
              · have hj2 : (j : Int) < (n2 : Int) := by omega
                obtain ⟨y, hy⟩ : ∃ y, lv[j]? = some y := ⟨lv[j]'(by have := HNL.out; omega), List.getElem?_eq_getElem (by have := HNL.out; omega)⟩
                obtain ⟨b2, o2, hx2, hc2⟩ : ∃ b o, x2 = some ⟨b, o, none⟩ ∧ ∀ (k : Nat) (z : Int), lv[k]? = some z → w0.cell? ⟨b, o + k, none⟩ = some (.int .i64 z) := by
                  rcases HN.out.2.row with e | ⟨b, o, e1, e2, e3⟩
                  · omega
                  · exact ⟨b, o, e1, e3⟩
                subst hx2
                have s1 := After.cell (keep bR (hc2 j y hy))
                by_cases h1 : z = osd
                · have e2 : (z == osd) = true := by simpa using h1
                  by_cases h2 : y = life
                  · have e3 : (y == life) = true := by simpa using h2
                    have hp := atP_hit hz hy hh h1 h2
                    have HP := hid (And.intro hp hn)
                    clear hp hn hh hz bR hc2 hy h1 h2
                    generalize atP ac lv osd life (j + 1) = P at *
                    generalize nh (ac.drop (j + 1)) = NH at *
                    go_wp2_with fail
                    clear d0 q2 q3 q6 q7
                    refine wp_region_after (by kernel_rfl) (by kernel_rfl) ?_
                    repeat (go_big_quiet_step (fail))
                    refine wpQuiet_nil ?_
                    rintro _ ⟨q, rfl⟩
                    go_wp2_with fail
                    go_roundw
                    case rel => exact ⟨j, by omega, by go_num, by rw [HP.out.2]; go_num, by rw [HP.out.1], on HBR2.out q.h⟩
                    case measure => first | (simp [intOf]; done) | (simp [intOf]; omega)
                  · have e3 : (y == life) = false := by simpa using h2
                    have hp := atP_miss (osd := osd) (life := life) hz hy (fun e => h2 e.2)
                    have HP := hid (And.intro hp hn)
                    clear hp hn hh hz bR hc2 hy h1 h2
                    generalize atP ac lv osd life (j + 1) = P at *
                    generalize nh (ac.drop (j + 1)) = NH at *
                    go_wp2_with fail
                    clear d0 q2 q3 q6 q7
                    refine wp_region_after (by kernel_rfl) (by kernel_rfl) ?_
                    repeat (go_big_quiet_step (fail))
                    refine wpQuiet_nil ?_
                    rintro _ ⟨q, rfl⟩
                    go_wp2_with fail
                    go_roundw
                    case rel => exact ⟨j, by omega, by go_num, by rw [HP.out.2]; go_num, by rw [HP.out.1], on HBR2.out q.h⟩
                    case measure => first | (simp [intOf]; done) | (simp [intOf]; omega)
                · have e2 : (z == osd) = false := by simpa using h1
                  have hp := atP_miss (osd := osd) (life := life) hz hy (fun e => h1 e.1)
                  have HP := hid (And.intro hp hn)
                  clear hp hn hh hz bR hc2 hy h1
                  generalize atP ac lv osd life (j + 1) = P at *
                  generalize nh (ac.drop (j + 1)) = NH at *
                  go_wp2_with fail
                  clear d0 q2 q3 q6 q7
                  refine wp_region_after (by kernel_rfl) (by kernel_rfl) ?_
                  repeat (go_big_quiet_step (fail))
                  refine wpQuiet_nil ?_
                  rintro _ ⟨q, rfl⟩
                  go_wp2_with fail
                  go_roundw
                  case rel => exact ⟨j, by omega, by go_num, by rw [HP.out.2]; go_num, by rw [HP.out.1], on HBR2.out q.h⟩
                  case measure => first | (simp [intOf]; done) | (simp [intOf]; omega)
              · have hj2 : ¬ (j : Int) < (n2 : Int) := by omega
                have hp := atP_none osd life hz (show lv.length ≤ j by have := HNL.out; omega)
                have HP := hid (And.intro hp hn)
                clear hp hn hh hz bR
                generalize atP ac lv osd life (j + 1) = P at *
                generalize nh (ac.drop (j + 1)) = NH at *
                go_wp2_with fail
                clear d0 q2 q3 q6 q7
                refine wp_region_after (by kernel_rfl) (by kernel_rfl) ?_
                repeat (go_big_quiet_step (fail))
                refine wpQuiet_nil ?_
                rintro _ ⟨q, rfl⟩
                go_wp2_with fail
                go_roundw
                case rel => exact ⟨j, by omega, by go_num, by rw [HP.out.2]; go_num, by rw [HP.out.1], on HBR2.out q.h⟩
                case measure => first | (simp [intOf]; done) | (simp [intOf]; omega)

set_option maxHeartbeats 12800000 in
theorem walk_many {w : World} {x x1 x2 x3 : Option Addr} {n c n1 c1 n2 c2 n3 c3 : Nat} {L : List MV} {ac lv : List Int} (hM : Ms w x n c L) (h1 : Nu w x1 n1 c1 ac) (h2 : Nu w x2 n2 c2 lv) (hm1 : n1 ≤ 140737488351232) (hm2 : n2 ≤ 140737488351232) (f1 f2 p osd life need : Int) (g0 : (0 : Int) < (n : Int)) (g1 : ¬ (n : Int) ≤ 4096) :
    Calls Try.prog 3 #[.slice x n c, .agg #[.int .i64 f1, .int .i64 f2, .slice x1 n1 c1, .slice x2 n2 c2, .slice x3 n3 c3, .int .i64 p], .agg #[.int .i64 osd, .int .i64 life, .int .i64 need]] w fun e w' => e = .returned (.bool true) ∧ Below w.heap.size w w' := by
  obtain ⟨w0, hw0⟩ : ∃ w0, w0 = (w.alloc (.cells #[.int .i64 f1, .int .i64 f2, .slice x1 n1 c1, .slice x2 n2 c2, .slice x3 n3 c3, .int .i64 p] 25)).alloc (.cells #[.int .i64 osd, .int .i64 life, .int .i64 need] 26) := ⟨_, rfl⟩
  have b0 : Below w.heap.size w w0 := by rw [hw0]; exact on (al _ _) (al _ _)
  have k0 : w0.cell? ⟨w.heap.size, 0, none⟩ = some (.int .i64 f1) := by rw [hw0]; go_simp
  have k1 : w0.cell? ⟨w.heap.size, 1, none⟩ = some (.int .i64 f2) := by rw [hw0]; go_simp
  have k2 : w0.cell? ⟨w.heap.size, 2, none⟩ = some (.slice x1 n1 c1) := by rw [hw0]; go_simp
  have k3 : w0.cell? ⟨w.heap.size, 3, none⟩ = some (.slice x2 n2 c2) := by rw [hw0]; go_simp
  have k4 : w0.cell? ⟨w.heap.size, 4, none⟩ = some (.slice x3 n3 c3) := by rw [hw0]; go_simp
  have k5 : w0.cell? ⟨w.heap.size, 5, none⟩ = some (.int .i64 p) := by rw [hw0]; go_simp
  have a0 : w0.cell? ⟨w.heap.size + 1, 0, none⟩ = some (.int .i64 osd) := by rw [hw0]; go_simp
  have a1 : w0.cell? ⟨w.heap.size + 1, 1, none⟩ = some (.int .i64 life) := by rw [hw0]; go_simp
  have a2 : w0.cell? ⟨w.heap.size + 1, 2, none⟩ = some (.int .i64 need) := by rw [hw0]; go_simp
  have HM := hid (hM.below b0)
  have HL := hid hM.len
  have HN := hid (And.intro (h1.below b0) (h2.below b0))
  have HNL := hid (And.intro h1.len h2.len)
  have HK := hid (And.intro k0 (And.intro k1 (And.intro k2 (And.intro k3 (And.intro k4 k5)))))
  have HJ := hid (And.intro a0 (And.intro a1 a2))
  have HB := hid b0
  have HW := hid hw0
  have hAw := fun W => awake_any W
  have hS := lo_start (ms := L.map MV.m) (n := n) (by rw [List.length_map]; exact hM.len)
  rw [decide_eq_true (p := 0 < n) (by omega), decide_eq_false (p := n ≤ 4096) (by omega)] at hS
  have HS := hid hS
  clear hM h1 h2 b0 hw0 k0 k1 k2 k3 k4 k5 a0 a1 a2 hS
  go_enter Try.func3, Try.ntmps3
  go_wp2_with fail
  rw [← HW.out]
  go_loopw [8, 7] (fun i q wr => i = .int .i64 0 ∧ q = .bool false ∧ Hid (Below w0.heap.size w0 wr ∧ okM (L.map MV.m) 0 = false)) (fun i _ _ => 0)
  case atStart => exact ⟨rfl, rfl, Below.refl _ _, (lo_end (by rw [List.length_map]; exact HL.out) HS.out (.inl rfl)).symm⟩
  case round =>
    obtain ⟨rfl, rfl, HR⟩ := hrel
    have HE : Hid (okM (L.map MV.m) 0 = false) := HR.out.2
    have hkn : (0 : Int) < (n : Int) := by omega
    have hbr := HR.out.1
    have HBR := hid hbr
    have cA : Calls Try.prog 6 #[.slice x n c, .int .i64 0] wr fun e w' => e = .returned (.tuple #[.slice none 0 0, .int .i64 1]) ∧ Hid (Below w0.heap.size w0 w') := (all_any (HM.out.below hbr) 0).mono fun e w' hh => by
      rcases hh with ⟨_, q1, q2⟩ | ⟨q, _⟩
      · exact ⟨q1, on HBR.out q2⟩
      · rw [HE.out] at q
        cases q
    clear HR HE hbr
    go_wp2_with (go_at_call 6; refine cA.mono ?_; rintro e w2 ⟨rfl, H2⟩; clear cA; have kk2 := keep H2.out HK.out.2.2.1)
    clear kk2
    go_loopw [13, 11, 12] (fun i q t wr => ∃ j : Nat, j ≤ n1 ∧ i = .int .i64 ((j : Int) - 1) ∧ q = .int .i64 (nh (ac.drop j) : Nat) ∧ t = .int .i64 (atP ac lv osd life j) ∧ Hid (Below w0.heap.size w0 wr)) (fun i _ _ _ => (intOf i + 1).toNat)
    case atStart => exact ⟨n1, by omega, by go_num, by rw [List.drop_of_length_le (by have := HNL.out; omega)]; rfl, by rw [atP_end _ _ _ (by have := HNL.out; omega)], H2.out⟩
    case round =>
      obtain ⟨j, hj, rfl, rfl, rfl, HR2⟩ := hrel
      have bR := HR2.out
      cases j with
      | zero =>
        have hz0 : ¬ (0 : Int) ≤ ((0 : Nat) : Int) - 1 := by omega
        have s0 := After.cell (keep bR HK.out.1)
        have s1 := After.cell (keep bR HK.out.2.1)
        have s2 := After.cell (keep bR HK.out.2.2.1)
        have s3 := After.cell (keep bR HK.out.2.2.2.1)
        have s4 := After.cell (keep bR HK.out.2.2.2.2.1)
        have s5 := After.cell (keep bR HK.out.2.2.2.2.2)
        have t0 := After.cell (keep bR HJ.out.1)
        have t1 := After.cell (keep bR HJ.out.2.1)
        have t2 := After.cell (keep bR HJ.out.2.2)
        have hEn := fun q : After wr => enough_any (x2 := x2) (x3 := x3) (n2 := n2) (c2 := c2) (n3 := n3) (c3 := c3) (HN.out.1.below (on bR q.h)) hm1 f1 f2 p need
        have hPl := fun q : After wr => place_any (x3 := x3) (n3 := n3) (c3 := c3) (HN.out.1.below (on bR q.h)) (HN.out.2.below (on bR q.h)) hm1 hm2 f1 f2 p osd life
        rw [List.drop_zero, atP_zero] at *
        generalize plc ac lv osd life = P at *
        generalize nh ac = NH at *
        have HBR2 := hid bR
        clear bR HR2
        haveI := After.ne wr
        by_cases hne : need ≤ (NH : Int)
        · rw [decide_eq_true hne] at hEn
          go_wp2_with fail
          refine wp_region_after (by kernel_rfl) (by kernel_rfl) ?_
          repeat (go_big_quiet_step ((first | (go_at_call 7; refine Calls.after_of (hEn _)) | (go_at_call 8; refine Calls.after_of (hPl _)) | (go_at_call 5; refine Calls.after_of (hAw _)))))
          refine wpQuiet_nil ?_
          rintro _ ⟨q, rfl⟩
          go_wp2_with fail
          go_ret
          exact ⟨rfl, on HB.out (on HBR2.out q.h)⟩
        · rw [decide_eq_false hne] at hEn
          have hne2 : (NH : Int) < need := by omega
          have hnb : decide (need ≤ (NH : Int)) = false := decide_eq_false hne
          have hnc : (false == decide (need ≤ (NH : Int))) = true := by rw [hnb]; rfl
          go_wp2_with fail
          refine wp_region_after (by kernel_rfl) (by kernel_rfl) ?_
          repeat (go_big_quiet_step ((first | (go_at_call 7; refine Calls.after_of (hEn _)) | (go_at_call 8; refine Calls.after_of (hPl _)) | (go_at_call 5; refine Calls.after_of (hAw _)))))
          refine wpQuiet_nil ?_
          rintro _ ⟨q, rfl⟩
          go_wp2_with fail
          go_ret
          exact ⟨rfl, on HB.out (on HBR2.out q.h)⟩
      | succ j =>
        have ej : (((j + 1 : Nat) : Int) - 1) = (j : Int) := by omega
        rw [ej]
        clear ej
        have hz0 : (0 : Int) ≤ (j : Int) := by omega
        have hj1 : (j : Int) < (n1 : Int) := by omega
        obtain ⟨z, hz⟩ : ∃ z, ac[j]? = some z := ⟨ac[j]'(by have := HNL.out; omega), List.getElem?_eq_getElem (by have := HNL.out; omega)⟩
        obtain ⟨b1, o1, hx1, hc1⟩ : ∃ b o, x1 = some ⟨b, o, none⟩ ∧ ∀ (k : Nat) (z : Int), ac[k]? = some z → w0.cell? ⟨b, o + k, none⟩ = some (.int .i64 z) := by
          rcases HN.out.1.row with e | ⟨b, o, e1, e2, e3⟩
          · omega
          · exact ⟨b, o, e1, e3⟩
        subst hx1
        have d0 := keep bR (hc1 j z hz)
        have q2 := keep bR HK.out.2.2.1
        have q3 := keep bR HK.out.2.2.2.1
        have q6 := keep bR HJ.out.1
        have q7 := keep bR HJ.out.2.1
        have hle : nh (ac.drop (j + 1)) ≤ 140737488351232 := by
          have h1 := nh_len (ac.drop (j + 1))
          rw [List.length_drop] at h1
          have := HNL.out
          omega
        have hn := nh_drop hz
        have HBR2 := hid bR
        clear hc1 HR2
        by_cases hh : z = -1
        · have e1 : (z != -1) = false := by simpa using hh
          have hp : atP ac lv osd life j = atP ac lv osd life (j + 1) := atP_hole osd life (by rw [hz, hh])
          rw [if_pos hh] at hn
          have HP := hid (And.intro hp hn)
          clear hp hn hh hz bR
          generalize atP ac lv osd life (j + 1) = P at *
          generalize nh (ac.drop (j + 1)) = NH at *
          go_wp2_with fail
          go_roundw
          case rel => exact ⟨j, by omega, by go_num, by rw [HP.out.2]; rfl, by rw [HP.out.1], HBR2.out⟩
          case measure => first | (simp [intOf]; done) | (simp [intOf]; omega)
        · have e1 : (z != -1) = true := by simpa using hh
          rw [if_neg hh] at hn
          have s0 := After.cell d0
          have s2 := After.cell q2
          have s3 := After.cell q3
          have s6 := After.cell q6
          have s7 := After.cell q7
          haveI := After.ne wr
          by_cases hjl : j < n2
          · have hj2 : (j : Int) < (n2 : Int) := by omega
            obtain ⟨y, hy⟩ : ∃ y, lv[j]? = some y := ⟨lv[j]'(by have := HNL.out; omega), List.getElem?_eq_getElem (by have := HNL.out; omega)⟩
            obtain ⟨b2, o2, hx2, hc2⟩ : ∃ b o, x2 = some ⟨b, o, none⟩ ∧ ∀ (k : Nat) (z : Int), lv[k]? = some z → w0.cell? ⟨b, o + k, none⟩ = some (.int .i64 z) := by
              rcases HN.out.2.row with e | ⟨b, o, e1, e2, e3⟩
              · omega
              · exact ⟨b, o, e1, e3⟩
            subst hx2
            have s1 := After.cell (keep bR (hc2 j y hy))
            by_cases h1 : z = osd
            · have e2 : (z == osd) = true := by simpa using h1
              by_cases h2 : y = life
              · have e3 : (y == life) = true := by simpa using h2
                have hp := atP_hit hz hy hh h1 h2
                have HP := hid (And.intro hp hn)
                clear hp hn hh hz bR hc2 hy h1 h2
                generalize atP ac lv osd life (j + 1) = P at *
                generalize nh (ac.drop (j + 1)) = NH at *
                go_wp2_with fail
                clear d0 q2 q3 q6 q7
                refine wp_region_after (by kernel_rfl) (by kernel_rfl) ?_
                repeat (go_big_quiet_step (fail))
                refine wpQuiet_nil ?_
                rintro _ ⟨q, rfl⟩
                go_wp2_with fail
                go_roundw
                case rel => exact ⟨j, by omega, by go_num, by rw [HP.out.2]; go_num, by rw [HP.out.1], on HBR2.out q.h⟩
                case measure => first | (simp [intOf]; done) | (simp [intOf]; omega)
              · have e3 : (y == life) = false := by simpa using h2
                have hp := atP_miss (osd := osd) (life := life) hz hy (fun e => h2 e.2)
                have HP := hid (And.intro hp hn)
                clear hp hn hh hz bR hc2 hy h1 h2
                generalize atP ac lv osd life (j + 1) = P at *
                generalize nh (ac.drop (j + 1)) = NH at *
                go_wp2_with fail
                clear d0 q2 q3 q6 q7
                refine wp_region_after (by kernel_rfl) (by kernel_rfl) ?_
                repeat (go_big_quiet_step (fail))
                refine wpQuiet_nil ?_
                rintro _ ⟨q, rfl⟩
                go_wp2_with fail
                go_roundw
                case rel => exact ⟨j, by omega, by go_num, by rw [HP.out.2]; go_num, by rw [HP.out.1], on HBR2.out q.h⟩
                case measure => first | (simp [intOf]; done) | (simp [intOf]; omega)
            · have e2 : (z == osd) = false := by simpa using h1
              have hp := atP_miss (osd := osd) (life := life) hz hy (fun e => h1 e.1)
              have HP := hid (And.intro hp hn)
              clear hp hn hh hz bR hc2 hy h1
              generalize atP ac lv osd life (j + 1) = P at *
              generalize nh (ac.drop (j + 1)) = NH at *
              go_wp2_with fail
              clear d0 q2 q3 q6 q7
              refine wp_region_after (by kernel_rfl) (by kernel_rfl) ?_
              repeat (go_big_quiet_step (fail))
              refine wpQuiet_nil ?_
              rintro _ ⟨q, rfl⟩
              go_wp2_with fail
              go_roundw
              case rel => exact ⟨j, by omega, by go_num, by rw [HP.out.2]; go_num, by rw [HP.out.1], on HBR2.out q.h⟩
              case measure => first | (simp [intOf]; done) | (simp [intOf]; omega)
          · have hj2 : ¬ (j : Int) < (n2 : Int) := by omega
            have hp := atP_none osd life hz (show lv.length ≤ j by have := HNL.out; omega)
            have HP := hid (And.intro hp hn)
            clear hp hn hh hz bR
            generalize atP ac lv osd life (j + 1) = P at *
            generalize nh (ac.drop (j + 1)) = NH at *
            go_wp2_with fail
            clear d0 q2 q3 q6 q7
            refine wp_region_after (by kernel_rfl) (by kernel_rfl) ?_
            repeat (go_big_quiet_step (fail))
            refine wpQuiet_nil ?_
            rintro _ ⟨q, rfl⟩
            go_wp2_with fail
            go_roundw
            case rel => exact ⟨j, by omega, by go_num, by rw [HP.out.2]; go_num, by rw [HP.out.1], on HBR2.out q.h⟩
            case measure => first | (simp [intOf]; done) | (simp [intOf]; omega)

set_option maxHeartbeats 12800000 in
theorem walk_zero {w : World} {x x1 x2 x3 : Option Addr} {n c n1 c1 n2 c2 n3 c3 : Nat} {L : List MV} {ac lv : List Int} (hM : Ms w x n c L) (h1 : Nu w x1 n1 c1 ac) (h2 : Nu w x2 n2 c2 lv) (hm1 : n1 ≤ 140737488351232) (hm2 : n2 ≤ 140737488351232) (f1 f2 p osd life need : Int) (g0 : ¬ (0 : Int) < (n : Int)) :
    Calls Try.prog 3 #[.slice x n c, .agg #[.int .i64 f1, .int .i64 f2, .slice x1 n1 c1, .slice x2 n2 c2, .slice x3 n3 c3, .int .i64 p], .agg #[.int .i64 osd, .int .i64 life, .int .i64 need]] w fun e w' => e = .returned (.bool true) ∧ Below w.heap.size w w' := by
  obtain ⟨w0, hw0⟩ : ∃ w0, w0 = (w.alloc (.cells #[.int .i64 f1, .int .i64 f2, .slice x1 n1 c1, .slice x2 n2 c2, .slice x3 n3 c3, .int .i64 p] 25)).alloc (.cells #[.int .i64 osd, .int .i64 life, .int .i64 need] 26) := ⟨_, rfl⟩
  have b0 : Below w.heap.size w w0 := by rw [hw0]; exact on (al _ _) (al _ _)
  have k0 : w0.cell? ⟨w.heap.size, 0, none⟩ = some (.int .i64 f1) := by rw [hw0]; go_simp
  have k1 : w0.cell? ⟨w.heap.size, 1, none⟩ = some (.int .i64 f2) := by rw [hw0]; go_simp
  have k2 : w0.cell? ⟨w.heap.size, 2, none⟩ = some (.slice x1 n1 c1) := by rw [hw0]; go_simp
  have k3 : w0.cell? ⟨w.heap.size, 3, none⟩ = some (.slice x2 n2 c2) := by rw [hw0]; go_simp
  have k4 : w0.cell? ⟨w.heap.size, 4, none⟩ = some (.slice x3 n3 c3) := by rw [hw0]; go_simp
  have k5 : w0.cell? ⟨w.heap.size, 5, none⟩ = some (.int .i64 p) := by rw [hw0]; go_simp
  have a0 : w0.cell? ⟨w.heap.size + 1, 0, none⟩ = some (.int .i64 osd) := by rw [hw0]; go_simp
  have a1 : w0.cell? ⟨w.heap.size + 1, 1, none⟩ = some (.int .i64 life) := by rw [hw0]; go_simp
  have a2 : w0.cell? ⟨w.heap.size + 1, 2, none⟩ = some (.int .i64 need) := by rw [hw0]; go_simp
  have HM := hid (hM.below b0)
  have HL := hid hM.len
  have HN := hid (And.intro (h1.below b0) (h2.below b0))
  have HNL := hid (And.intro h1.len h2.len)
  have HK := hid (And.intro k0 (And.intro k1 (And.intro k2 (And.intro k3 (And.intro k4 k5)))))
  have HJ := hid (And.intro a0 (And.intro a1 a2))
  have HB := hid b0
  have HW := hid hw0
  have hAw := fun W => awake_any W
  have hS := lo_start (ms := L.map MV.m) (n := n) (by rw [List.length_map]; exact hM.len)
  rw [decide_eq_false (p := 0 < n) (by omega), Bool.false_and] at hS
  have HS := hid hS
  clear hM h1 h2 b0 hw0 k0 k1 k2 k3 k4 k5 a0 a1 a2 hS
  go_enter Try.func3, Try.ntmps3
  go_wp2_with fail
  rw [← HW.out]
  go_loopw [8, 7] (fun i q wr => i = .int .i64 0 ∧ q = .bool false ∧ Hid (Below w0.heap.size w0 wr ∧ okM (L.map MV.m) 0 = false)) (fun i _ _ => 0)
  case atStart => exact ⟨rfl, rfl, Below.refl _ _, (lo_end (by rw [List.length_map]; exact HL.out) HS.out (.inl rfl)).symm⟩
  case round =>
    obtain ⟨rfl, rfl, HR⟩ := hrel
    have HE : Hid (okM (L.map MV.m) 0 = false) := HR.out.2
    have hkn : ¬ (0 : Int) < (n : Int) := by omega
    have hbr := HR.out.1
    have HBR := hid hbr
    have cA : Calls Try.prog 6 #[.slice x n c, .int .i64 0] wr fun e w' => e = .returned (.tuple #[.slice none 0 0, .int .i64 1]) ∧ Hid (Below w0.heap.size w0 w') := (all_any (HM.out.below hbr) 0).mono fun e w' hh => by
      rcases hh with ⟨_, q1, q2⟩ | ⟨q, _⟩
      · exact ⟨q1, on HBR.out q2⟩
      · rw [HE.out] at q
        cases q
    clear HR HE hbr
    go_wp2_with (go_at_call 6; refine cA.mono ?_; rintro e w2 ⟨rfl, H2⟩; clear cA; have kk2 := keep H2.out HK.out.2.2.1)
    clear kk2
    go_loopw [13, 11, 12] (fun i q t wr => ∃ j : Nat, j ≤ n1 ∧ i = .int .i64 ((j : Int) - 1) ∧ q = .int .i64 (nh (ac.drop j) : Nat) ∧ t = .int .i64 (atP ac lv osd life j) ∧ Hid (Below w0.heap.size w0 wr)) (fun i _ _ _ => (intOf i + 1).toNat)
    case atStart => exact ⟨n1, by omega, by go_num, by rw [List.drop_of_length_le (by have := HNL.out; omega)]; rfl, by rw [atP_end _ _ _ (by have := HNL.out; omega)], H2.out⟩
    case round =>
      obtain ⟨j, hj, rfl, rfl, rfl, HR2⟩ := hrel
      have bR := HR2.out
      cases j with
      | zero =>
        have hz0 : ¬ (0 : Int) ≤ ((0 : Nat) : Int) - 1 := by omega
        have s0 := After.cell (keep bR HK.out.1)
        have s1 := After.cell (keep bR HK.out.2.1)
        have s2 := After.cell (keep bR HK.out.2.2.1)
        have s3 := After.cell (keep bR HK.out.2.2.2.1)
        have s4 := After.cell (keep bR HK.out.2.2.2.2.1)
        have s5 := After.cell (keep bR HK.out.2.2.2.2.2)
        have t0 := After.cell (keep bR HJ.out.1)
        have t1 := After.cell (keep bR HJ.out.2.1)
        have t2 := After.cell (keep bR HJ.out.2.2)
        have hEn := fun q : After wr => enough_any (x2 := x2) (x3 := x3) (n2 := n2) (c2 := c2) (n3 := n3) (c3 := c3) (HN.out.1.below (on bR q.h)) hm1 f1 f2 p need
        have hPl := fun q : After wr => place_any (x3 := x3) (n3 := n3) (c3 := c3) (HN.out.1.below (on bR q.h)) (HN.out.2.below (on bR q.h)) hm1 hm2 f1 f2 p osd life
        rw [List.drop_zero, atP_zero] at *
        generalize plc ac lv osd life = P at *
        generalize nh ac = NH at *
        have HBR2 := hid bR
        clear bR HR2
        haveI := After.ne wr
        by_cases hne : need ≤ (NH : Int)
        · rw [decide_eq_true hne] at hEn
          go_wp2_with fail
          refine wp_region_after (by kernel_rfl) (by kernel_rfl) ?_
          repeat (go_big_quiet_step ((first | (go_at_call 7; refine Calls.after_of (hEn _)) | (go_at_call 8; refine Calls.after_of (hPl _)) | (go_at_call 5; refine Calls.after_of (hAw _)))))
          refine wpQuiet_nil ?_
          rintro _ ⟨q, rfl⟩
          go_wp2_with fail
          go_ret
          exact ⟨rfl, on HB.out (on HBR2.out q.h)⟩
        · rw [decide_eq_false hne] at hEn
          have hne2 : (NH : Int) < need := by omega
          have hnb : decide (need ≤ (NH : Int)) = false := decide_eq_false hne
          have hnc : (false == decide (need ≤ (NH : Int))) = true := by rw [hnb]; rfl
          go_wp2_with fail
          refine wp_region_after (by kernel_rfl) (by kernel_rfl) ?_
          repeat (go_big_quiet_step ((first | (go_at_call 7; refine Calls.after_of (hEn _)) | (go_at_call 8; refine Calls.after_of (hPl _)) | (go_at_call 5; refine Calls.after_of (hAw _)))))
          refine wpQuiet_nil ?_
          rintro _ ⟨q, rfl⟩
          go_wp2_with fail
          go_ret
          exact ⟨rfl, on HB.out (on HBR2.out q.h)⟩
      | succ j =>
        have ej : (((j + 1 : Nat) : Int) - 1) = (j : Int) := by omega
        rw [ej]
        clear ej
        have hz0 : (0 : Int) ≤ (j : Int) := by omega
        have hj1 : (j : Int) < (n1 : Int) := by omega
        obtain ⟨z, hz⟩ : ∃ z, ac[j]? = some z := ⟨ac[j]'(by have := HNL.out; omega), List.getElem?_eq_getElem (by have := HNL.out; omega)⟩
        obtain ⟨b1, o1, hx1, hc1⟩ : ∃ b o, x1 = some ⟨b, o, none⟩ ∧ ∀ (k : Nat) (z : Int), ac[k]? = some z → w0.cell? ⟨b, o + k, none⟩ = some (.int .i64 z) := by
          rcases HN.out.1.row with e | ⟨b, o, e1, e2, e3⟩
          · omega
          · exact ⟨b, o, e1, e3⟩
        subst hx1
        have d0 := keep bR (hc1 j z hz)
        have q2 := keep bR HK.out.2.2.1
        have q3 := keep bR HK.out.2.2.2.1
        have q6 := keep bR HJ.out.1
        have q7 := keep bR HJ.out.2.1
        have hle : nh (ac.drop (j + 1)) ≤ 140737488351232 := by
          have h1 := nh_len (ac.drop (j + 1))
          rw [List.length_drop] at h1
          have := HNL.out
          omega
        have hn := nh_drop hz
        have HBR2 := hid bR
        clear hc1 HR2
        by_cases hh : z = -1
        · have e1 : (z != -1) = false := by simpa using hh
          have hp : atP ac lv osd life j = atP ac lv osd life (j + 1) := atP_hole osd life (by rw [hz, hh])
          rw [if_pos hh] at hn
          have HP := hid (And.intro hp hn)
          clear hp hn hh hz bR
          generalize atP ac lv osd life (j + 1) = P at *
          generalize nh (ac.drop (j + 1)) = NH at *
          go_wp2_with fail
          go_roundw
          case rel => exact ⟨j, by omega, by go_num, by rw [HP.out.2]; rfl, by rw [HP.out.1], HBR2.out⟩
          case measure => first | (simp [intOf]; done) | (simp [intOf]; omega)
        · have e1 : (z != -1) = true := by simpa using hh
          rw [if_neg hh] at hn
          have s0 := After.cell d0
          have s2 := After.cell q2
          have s3 := After.cell q3
          have s6 := After.cell q6
          have s7 := After.cell q7
          haveI := After.ne wr
          by_cases hjl : j < n2
          · have hj2 : (j : Int) < (n2 : Int) := by omega
            obtain ⟨y, hy⟩ : ∃ y, lv[j]? = some y := ⟨lv[j]'(by have := HNL.out; omega), List.getElem?_eq_getElem (by have := HNL.out; omega)⟩
            obtain ⟨b2, o2, hx2, hc2⟩ : ∃ b o, x2 = some ⟨b, o, none⟩ ∧ ∀ (k : Nat) (z : Int), lv[k]? = some z → w0.cell? ⟨b, o + k, none⟩ = some (.int .i64 z) := by
              rcases HN.out.2.row with e | ⟨b, o, e1, e2, e3⟩
              · omega
              · exact ⟨b, o, e1, e3⟩
            subst hx2
            have s1 := After.cell (keep bR (hc2 j y hy))
            by_cases h1 : z = osd
            · have e2 : (z == osd) = true := by simpa using h1
              by_cases h2 : y = life
              · have e3 : (y == life) = true := by simpa using h2
                have hp := atP_hit hz hy hh h1 h2
                have HP := hid (And.intro hp hn)
                clear hp hn hh hz bR hc2 hy h1 h2
                generalize atP ac lv osd life (j + 1) = P at *
                generalize nh (ac.drop (j + 1)) = NH at *
                go_wp2_with fail
                clear d0 q2 q3 q6 q7
                refine wp_region_after (by kernel_rfl) (by kernel_rfl) ?_
                repeat (go_big_quiet_step (fail))
                refine wpQuiet_nil ?_
                rintro _ ⟨q, rfl⟩
                go_wp2_with fail
                go_roundw
                case rel => exact ⟨j, by omega, by go_num, by rw [HP.out.2]; go_num, by rw [HP.out.1], on HBR2.out q.h⟩
                case measure => first | (simp [intOf]; done) | (simp [intOf]; omega)
              · have e3 : (y == life) = false := by simpa using h2
                have hp := atP_miss (osd := osd) (life := life) hz hy (fun e => h2 e.2)
                have HP := hid (And.intro hp hn)
                clear hp hn hh hz bR hc2 hy h1 h2
                generalize atP ac lv osd life (j + 1) = P at *
                generalize nh (ac.drop (j + 1)) = NH at *
                go_wp2_with fail
                clear d0 q2 q3 q6 q7
                refine wp_region_after (by kernel_rfl) (by kernel_rfl) ?_
                repeat (go_big_quiet_step (fail))
                refine wpQuiet_nil ?_
                rintro _ ⟨q, rfl⟩
                go_wp2_with fail
                go_roundw
                case rel => exact ⟨j, by omega, by go_num, by rw [HP.out.2]; go_num, by rw [HP.out.1], on HBR2.out q.h⟩
                case measure => first | (simp [intOf]; done) | (simp [intOf]; omega)
            · have e2 : (z == osd) = false := by simpa using h1
              have hp := atP_miss (osd := osd) (life := life) hz hy (fun e => h1 e.1)
              have HP := hid (And.intro hp hn)
              clear hp hn hh hz bR hc2 hy h1
              generalize atP ac lv osd life (j + 1) = P at *
              generalize nh (ac.drop (j + 1)) = NH at *
              go_wp2_with fail
              clear d0 q2 q3 q6 q7
              refine wp_region_after (by kernel_rfl) (by kernel_rfl) ?_
              repeat (go_big_quiet_step (fail))
              refine wpQuiet_nil ?_
              rintro _ ⟨q, rfl⟩
              go_wp2_with fail
              go_roundw
              case rel => exact ⟨j, by omega, by go_num, by rw [HP.out.2]; go_num, by rw [HP.out.1], on HBR2.out q.h⟩
              case measure => first | (simp [intOf]; done) | (simp [intOf]; omega)
          · have hj2 : ¬ (j : Int) < (n2 : Int) := by omega
            have hp := atP_none osd life hz (show lv.length ≤ j by have := HNL.out; omega)
            have HP := hid (And.intro hp hn)
            clear hp hn hh hz bR
            generalize atP ac lv osd life (j + 1) = P at *
            generalize nh (ac.drop (j + 1)) = NH at *
            go_wp2_with fail
            clear d0 q2 q3 q6 q7
            refine wp_region_after (by kernel_rfl) (by kernel_rfl) ?_
            repeat (go_big_quiet_step (fail))
            refine wpQuiet_nil ?_
            rintro _ ⟨q, rfl⟩
            go_wp2_with fail
            go_roundw
            case rel => exact ⟨j, by omega, by go_num, by rw [HP.out.2]; go_num, by rw [HP.out.1], on HBR2.out q.h⟩
            case measure => first | (simp [intOf]; done) | (simp [intOf]; omega)

theorem walk (x : Option Addr) (n c : Nat) (L : List MV) (V : IvV) (a b d : Int) (w : World) (hM : Ms w x n c L) (hV : IvIn w V) :
    Calls Try.prog 3 #[.slice x n c, vIv V, .agg #[.int .i64 a, .int .i64 b, .int .i64 d]] w fun e w' => e = .returned (.bool true) ∧ Below w.heap.size w w' := by
  by_cases h0 : (0 : Int) < (n : Int)
  · by_cases h1 : (n : Int) ≤ 4096
    · exact walk_in hM hV.a hV.l hV.sa hV.sl V.f V.t V.p a b d h0 h1
    · exact walk_many hM hV.a hV.l hV.sa hV.sl V.f V.t V.p a b d h0 h1
  · exact walk_zero hM hV.a hV.l hV.sa hV.sl V.f V.t V.p a b d h0

set_option maxRecDepth 100000 in
theorem lifted (os : Os) (started : os.Started) (H : Type) (enc : TypeId × Value → H) :
    ReturnsInHanded {} Try.checked os 3 .any (Rows.intervalRefusesSpec.pre6 enc Try.prog Try.f3 Rows.intervalRefusesRow.domain false) (Rows.intervalRefusesSpec.post enc Try.prog Try.f3 false true false false) := by
  refine returnsInHanded_of_change_sized (C := Try.checked) own started (by kernel_rfl) Try.func3
    (ChangeSpec.witness6 (enc := enc) (C := Try.checked) false ⟨#[], #[.slice none 0 0, .agg #[.int .i64 0, .int .i64 0, .slice none 0 0, .slice none 0 0, .slice none 0 0, .int .i64 0], .agg #[.int .i64 0, .int .i64 0, .int .i64 0]], []⟩ 8 (by kernel_rfl) (by kernel_rfl) (by kernel_rfl) (by kernel_rfl)) ?_
  intro W base args ds gs before hval0 hW hcnd hsz0 _
  have hsz : (DataW.weightsEach Try.prog (Try.f3.params.toList ++ Rows.intervalRefusesSpec.plain.varTypes Try.prog) (ds ++ gs)).all (· ≤ reachBytes) = true := hsz0
  have hval : ∀ (j : Nat) t v, Try.f3.params[j]? = some t → args[j]? = some v → Value.okWide Try.prog W .any base t v := hval0
  have hW' := hW
  obtain ⟨p, q, hA0, hV, rfl, hfz, hnd⟩ := hW
  have hA : DataW.TrodAll enc Try.prog W 0 (fun _ => true) true Try.f3.params.toList args.toList ds p := hA0
  rw [Try.params3] at hA hval hsz
  obtain ⟨v0, vs0, d0, ds0, p0, q0, hargs, rfl, rfl, h0, r0⟩ := trodAll_cons hA
  obtain ⟨v1, vs1, d1, ds1, p1, q1, rfl, rfl, rfl, h1, r1⟩ := trodAll_cons r0
  obtain ⟨v2, vs2, d2, ds2, p2, q2, rfl, rfl, rfl, h2, r2⟩ := trodAll_cons r1
  obtain ⟨rfl, rfl, rfl⟩ := trodAll_nil r2
  obtain rfl : args = #[v0, v1, v2] := by cases args; simp_all
  obtain ⟨rfl, rfl⟩ := trodVars_none hV
  have k0 := h0
  have lt0 : ∀ x ∈ p0, x.block < W.heap.size := by obtain ⟨m, hm⟩ := k0; exact DataW.trod_lt m _ _ _ hm
  have s0 : ∀ x ∈ d0.weights Try.prog 22, x ≤ reachBytes := fun x hx => by
    have := List.all_eq_true.1 hsz x (DataW.weights_mem_each (j := 0) rfl rfl x hx)
    simpa using this
  obtain ⟨b0, nn0, cc0, rfl⟩ := okWide_slice Try.underlying22 (hval 0 22 v0 rfl rfl)
  obtain ⟨fu0, hf0⟩ := h0
  obtain ⟨a0, len0, cap0, V0, e0, w0⟩ := Iv.maps_in hf0 s0
  simp [Value.cells] at e0
  obtain ⟨rfl, rfl, rfl⟩ := e0
  have k1 := h1
  have lt1 : ∀ x ∈ p1, x.block < W.heap.size := by obtain ⟨m, hm⟩ := k1; exact DataW.trod_lt m _ _ _ hm
  have s1 : ∀ x ∈ d1.weights Try.prog 25, x ≤ reachBytes := fun x hx => by
    have := List.all_eq_true.1 hsz x (DataW.weights_mem_each (j := 1) rfl rfl x hx)
    simpa using this
  obtain ⟨V1, rfl, w1⟩ := Iv.iv_in (okWide_struct Try.underlying25 (hval 1 25 v1 rfl rfl)) h1 s1
  have k2 := h2
  have lt2 : ∀ x ∈ p2, x.block < W.heap.size := by obtain ⟨m, hm⟩ := k2; exact DataW.trod_lt m _ _ _ hm
  have s2 : ∀ x ∈ d2.weights Try.prog 26, x ≤ reachBytes := fun x hx => by
    have := List.all_eq_true.1 hsz x (DataW.weights_mem_each (j := 2) rfl rfl x hx)
    simpa using this
  obtain ⟨V2, U2, Y2, rfl⟩ := Iv.three_in (Sr.okWide_array Try.underlying26 (hval 2 26 v2 rfl rfl)) h2
  clear hA0 hval0
  refine (walk b0 nn0 cc0 V0 V1 V2 U2 Y2 W w0 w1).mono fun e W' ⟨he, bel⟩ => ?_
  subst he
  exact ⟨_, rfl, _, _, _, [], _, [], hW', trodAll_mk1 (shut_bool Try.underlying4 _), (trodAll_cons_mk (Below.trod laidOut (by kernel_rfl) (of_decide_eq_true (by kernel_rfl)) k0 bel lt0) (trodAll_cons_mk (Below.trod laidOut (by kernel_rfl) (of_decide_eq_true (by kernel_rfl)) k1 bel lt1) (trodAll_cons_mk (Below.trod laidOut (by kernel_rfl) (of_decide_eq_true (by kernel_rfl)) k2 bel lt2) trodAll_mk0))), rfl, bel.frame _, fun h => by cases h⟩

theorem over : Rows.intervalRefusesRow.holds Try.pinned (OpenSpec.ofChange Rows.intervalRefusesSpec) :=
  OpenClaim.holds_of_wide 3 Try.f3 rfl rfl rfl rfl rfl rfl rfl ⟨rfl, rfl, rfl, rfl, rfl⟩ rfl rfl rfl rfl rfl (by kernel_rfl) Try.func3 (by kernel_rfl)
    (of_decide_eq_true (by kernel_rfl)) (by unfold Func.isWrapper; first | (rw [if_pos (by decide +kernel)]; kernel_rfl) | (rw [if_neg (by decide +kernel)]; exact ⟨rfl, rfl⟩))
    (fun os started H enc _ => lifted os started H enc)

theorem proved : Rows.IntervalRefusesSaid := over
#print axioms proved
end Go.Proofs.Ythlfmbijagpggaa.intervalRefuses
