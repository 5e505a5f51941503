/-
  The program's Place and Enough; which infos have a place.
  Conditions: intervals and infos lie in memory.
-/
import Derived.Test.YtgcjecmgjncclaaPeRef2
namespace Go.Proofs.Ytgcjecmgjncclaa.Pe
open Go.RowKit By Fl Pz
set_option linter.unusedVariables false
set_option linter.unusedSimpArgs false
set_option maxRecDepth 100000
attribute [local go_sem] Oper.semAt_some

def nh (l : List Int) : Nat := (l.filter fun z => z != -1).length
theorem nh_next {l : List Int} {k : Nat} {z : Int} (h : l[k]? = some z) : nh (l.take (k + 1)) = nh (l.take k) + (if z = -1 then 0 else 1) := by
  unfold nh
  rw [List.take_add_one, h, List.filter_append, List.length_append]
  by_cases e : z = -1
  · simp [e]
  · simp [e]
theorem nh_le (l : List Int) (k : Nat) : nh (l.take k) ≤ k := by
  unfold nh
  have h1 := List.length_filter_le (fun z => z != -1) (l.take k)
  rw [List.length_take] at h1
  omega

def plF (osd life : Int) : List Int → List Int → Nat → Int
  | a :: t, l :: r, i => if a = osd ∧ l = life then (i : Int) else plF osd life t r (i + 1)
  | _, _, _ => -1
def plP (ac lv : List Int) (osd life : Int) : Int := if osd = -1 then -1 else plF osd life ac lv 0
theorem plF_cons (osd life a l : Int) (t r : List Int) (i : Nat) : plF osd life (a :: t) (l :: r) i = if a = osd ∧ l = life then (i : Int) else plF osd life t r (i + 1) := rfl
theorem plF_end {osd life : Int} {a l : List Int} {i : Nat} (h : a = [] ∨ l = []) : plF osd life a l i = -1 := by
  rcases h with rfl | rfl
  · cases l <;> rfl
  · cases a <;> rfl

set_option maxHeartbeats 1600000 in
theorem enough_p {w : World} {x1 x2 x3 : Option Addr} {n1 c1 n2 c2 n3 c3 : Nat} {ac : List Int} {F : Nat → Prop} (h : Ns w F x1 n1 c1 ac) (hn : n1 ≤ 140737488351232) (f1 f2 p k : Int) :
    Calls Try.prog 22 #[.agg #[.int .i64 f1, .int .i64 f2, .slice x1 n1 c1, .slice x2 n2 c2, .slice x3 n3 c3, .int .i64 p], .int .i64 k] w fun e w' => e = .returned (.bool (decide (k ≤ (nh ac : Int)))) ∧ Below w.heap.size w w' := by
  obtain ⟨w0, hw0⟩ : ∃ w0, w0 = w.alloc (.cells #[.int .i64 f1, .int .i64 f2, .slice x1 n1 c1, .slice x2 n2 c2, .slice x3 n3 c3, .int .i64 p] 24) := ⟨_, rfl⟩
  have b0 : Below w.heap.size w w0 := by rw [hw0]; exact al _ _
  have HN := hid (Ns.below h b0)
  have HL := hid h.len
  have HB := hid b0
  have HW := hid hw0
  clear h b0 hw0
  go_enter Try.func22, Try.ntmps22
  go_wp2_with fail
  rw [← HW.out]
  go_loop [11, 5, 7] (fun i q _ => ∃ k : Nat, k ≤ n1 ∧ i = .int .i64 k ∧ q = .int .i64 (nh (ac.take k) : Int)) (fun i _ _ => n1 - (intOf i).toNat)
  case atStart => exact ⟨0, by omega, rfl, rfl⟩
  case round =>
    obtain ⟨j, hj, rfl, rfl⟩ := hrel
    by_cases hlt : j < n1
    · have hjn : (j : Int) < (n1 : Int) := by omega
      obtain ⟨z, hz⟩ : ∃ z, ac[j]? = some z := ⟨ac[j]'(by have := HL.out; omega), List.getElem?_eq_getElem (by have := HL.out; omega)⟩
      rcases HN.out.row with e | ⟨b, o, rfl, hb, _, hc⟩
      · omega
      have d0 := n_at hc hz
      have hq := nh_next hz
      have hle := nh_le ac j
      clear hc hz
      generalize hN : nh (ac.take j) = N at *
      clear hN
      by_cases hh : z = -1
      · have e1 : (z != -1) = false := by simpa using hh
        rw [if_pos hh] at hq
        have HQ := hid hq
        clear hq hh
        go_wp2_with fail
        go_round
        case rel => exact ⟨j + 1, by omega, by go_num, by rw [HQ.out]; rfl⟩
        case measure => simp [intOf]; omega
      · have e1 : (z != -1) = true := by simpa using hh
        rw [if_neg hh] at hq
        have HQ := hid hq
        clear hq hh
        go_wp2_with fail
        go_round
        case rel => exact ⟨j + 1, by omega, by go_num, by rw [HQ.out]; go_num⟩
        case measure => simp [intOf]; omega
    · have hj2 : j = n1 := by omega
      subst hj2
      have htk : ac.take j = ac := List.take_of_length_le (by have := HL.out; omega)
      rw [htk] at *
      go_wp2_with fail
      go_ret
      exact ⟨rfl, HB.out⟩

set_option maxHeartbeats 3200000 in
theorem place_a {w : World} {x1 x2 x3 : Option Addr} {n1 c1 n2 c2 n3 c3 : Nat} {ac lv : List Int} {F : Nat → Prop} (h1 : Ns w F x1 n1 c1 ac) (h2 : Ns w F x2 n2 c2 lv) (hm1 : n1 ≤ 140737488351232) (hm2 : n2 ≤ 140737488351232) (hle : n1 ≤ n2) (f1 f2 p osd life : Int) (ho : osd ≠ -1) :
    Calls Try.prog 28 #[.agg #[.int .i64 f1, .int .i64 f2, .slice x1 n1 c1, .slice x2 n2 c2, .slice x3 n3 c3, .int .i64 p], .int .i64 osd, .int .i64 life] w fun e w' => e = .returned (.int .i64 (plF osd life ac lv 0)) ∧ Below w.heap.size w w' := by
  obtain ⟨w0, hw0⟩ : ∃ w0, w0 = w.alloc (.cells #[.int .i64 f1, .int .i64 f2, .slice x1 n1 c1, .slice x2 n2 c2, .slice x3 n3 c3, .int .i64 p] 24) := ⟨_, rfl⟩
  have b0 : Below w.heap.size w w0 := by rw [hw0]; exact al _ _
  have k2 : w0.cell? ⟨w.heap.size, 2, none⟩ = some (.slice x1 n1 c1) := by rw [hw0]; go_simp
  have k3 : w0.cell? ⟨w.heap.size, 3, none⟩ = some (.slice x2 n2 c2) := by rw [hw0]; go_simp
  have HN := hid (And.intro (Ns.below h1 b0) (Ns.below h2 b0))
  have HL := hid (And.intro h1.len h2.len)
  have HB := hid b0
  have HW := hid hw0
  have eo : (osd == -1) = false := by simpa using ho
  have hleI : (n1 : Int) ≤ (n2 : Int) := by omega
  clear h1 h2 b0 hw0 ho
  go_enter Try.func28, Try.ntmps28
  go_wp2_with fail
  rw [← HW.out]
  go_loop [17, 7] (fun i _ => ∃ k : Nat, k ≤ n1 ∧ i = .int .i64 k ∧ Hid (plF osd life ac lv 0 = plF osd life (ac.drop k) (lv.drop k) k)) (fun i _ => n1 - (intOf i).toNat)
  case atStart => exact ⟨0, by omega, rfl, rfl⟩
  case round =>
    obtain ⟨j, hj, rfl, HP⟩ := hrel
    by_cases hlt : j < n1
    · have hjn : (j : Int) < (n1 : Int) := by omega
      have hj1 : (j : Int) < (n1 : Int) := by omega
      have hj2 : (j : Int) < (n2 : Int) := by omega
      obtain ⟨z, hz⟩ : ∃ z, ac[j]? = some z := ⟨ac[j]'(by have := HL.out; omega), List.getElem?_eq_getElem (by have := HL.out; omega)⟩
      obtain ⟨y, hy⟩ : ∃ y, lv[j]? = some y := ⟨lv[j]'(by have := HL.out; omega), List.getElem?_eq_getElem (by have := HL.out; omega)⟩
      rcases HN.out.1.row with e | ⟨b, o, rfl, hb, _, hc⟩
      · omega
      rcases HN.out.2.row with e | ⟨b2, o2, rfl, hb2, _, hc2⟩
      · omega
      have d0 := n_at hc hz
      have d1 := n_at hc2 hy
      have hq := HP.out
      rw [drop_at hz, drop_at hy] at hq
      rw [plF_cons] at hq
      clear hc hc2 hz hy
      by_cases h1 : z = osd
      · have e1 : (z == osd) = true := by simpa using h1
        by_cases h2 : y = life
        · have e2 : (y == life) = true := by simpa using h2
          rw [if_pos ⟨h1, h2⟩] at hq
          have HQ := hid (hq : plF osd life ac lv 0 = (j : Int))
          clear hq h1 h2 HP
          go_wp2_with fail
          go_ret
          exact ⟨congrArg (fun z => Ending.returned (.int .i64 z)) HQ.out.symm, HB.out⟩
        · have e2 : (y == life) = false := by simpa using h2
          rw [if_neg (fun e => h2 e.2)] at hq
          have HQ := hid hq
          clear hq h1 h2
          go_wp2_with fail
          go_round
          case rel => exact ⟨j + 1, by omega, by go_num, HQ.out⟩
          case measure => simp [intOf]; omega
      · have e1 : (z == osd) = false := by simpa using h1
        rw [if_neg (fun e => h1 e.1)] at hq
        have HQ := hid hq
        clear hq h1
        go_wp2_with fail
        go_round
        case rel => exact ⟨j + 1, by omega, by go_num, HQ.out⟩
        case measure => simp [intOf]; omega
    · have hj2 : j = n1 := by omega
      have HQ : Hid (plF osd life ac lv 0 = -1) := by
        have := HP.out
        rw [plF_end (.inl (List.drop_of_length_le (by have := HL.out; omega)))] at this
        exact this
      clear HP
      subst hj2
      go_wp2_with fail
      go_ret
      exact ⟨congrArg (fun z => Ending.returned (.int .i64 z)) HQ.out.symm, HB.out⟩

set_option maxHeartbeats 3200000 in
theorem place_b {w : World} {x1 x2 x3 : Option Addr} {n1 c1 n2 c2 n3 c3 : Nat} {ac lv : List Int} {F : Nat → Prop} (h1 : Ns w F x1 n1 c1 ac) (h2 : Ns w F x2 n2 c2 lv) (hm1 : n1 ≤ 140737488351232) (hm2 : n2 ≤ 140737488351232) (hle : n2 < n1) (f1 f2 p osd life : Int) (ho : osd ≠ -1) :
    Calls Try.prog 28 #[.agg #[.int .i64 f1, .int .i64 f2, .slice x1 n1 c1, .slice x2 n2 c2, .slice x3 n3 c3, .int .i64 p], .int .i64 osd, .int .i64 life] w fun e w' => e = .returned (.int .i64 (plF osd life ac lv 0)) ∧ Below w.heap.size w w' := by
  obtain ⟨w0, hw0⟩ : ∃ w0, w0 = w.alloc (.cells #[.int .i64 f1, .int .i64 f2, .slice x1 n1 c1, .slice x2 n2 c2, .slice x3 n3 c3, .int .i64 p] 24) := ⟨_, rfl⟩
  have b0 : Below w.heap.size w w0 := by rw [hw0]; exact al _ _
  have k2 : w0.cell? ⟨w.heap.size, 2, none⟩ = some (.slice x1 n1 c1) := by rw [hw0]; go_simp
  have k3 : w0.cell? ⟨w.heap.size, 3, none⟩ = some (.slice x2 n2 c2) := by rw [hw0]; go_simp
  have HN := hid (And.intro (Ns.below h1 b0) (Ns.below h2 b0))
  have HL := hid (And.intro h1.len h2.len)
  have HB := hid b0
  have HW := hid hw0
  have eo : (osd == -1) = false := by simpa using ho
  have hleI : ¬ (n1 : Int) ≤ (n2 : Int) := by omega
  clear h1 h2 b0 hw0 ho
  go_enter Try.func28, Try.ntmps28
  go_wp2_with fail
  rw [← HW.out]
  go_loop [17, 7] (fun i _ => ∃ k : Nat, k ≤ n2 ∧ i = .int .i64 k ∧ Hid (plF osd life ac lv 0 = plF osd life (ac.drop k) (lv.drop k) k)) (fun i _ => n2 - (intOf i).toNat)
  case atStart => exact ⟨0, by omega, rfl, rfl⟩
  case round =>
    obtain ⟨j, hj, rfl, HP⟩ := hrel
    by_cases hlt : j < n2
    · have hjn : (j : Int) < (n2 : Int) := by omega
      have hj1 : (j : Int) < (n1 : Int) := by omega
      have hj2 : (j : Int) < (n2 : Int) := by omega
      obtain ⟨z, hz⟩ : ∃ z, ac[j]? = some z := ⟨ac[j]'(by have := HL.out; omega), List.getElem?_eq_getElem (by have := HL.out; omega)⟩
      obtain ⟨y, hy⟩ : ∃ y, lv[j]? = some y := ⟨lv[j]'(by have := HL.out; omega), List.getElem?_eq_getElem (by have := HL.out; omega)⟩
      rcases HN.out.1.row with e | ⟨b, o, rfl, hb, _, hc⟩
      · omega
      rcases HN.out.2.row with e | ⟨b2, o2, rfl, hb2, _, hc2⟩
      · omega
      have d0 := n_at hc hz
      have d1 := n_at hc2 hy
      have hq := HP.out
      rw [drop_at hz, drop_at hy] at hq
      rw [plF_cons] at hq
      clear hc hc2 hz hy
      by_cases h1 : z = osd
      · have e1 : (z == osd) = true := by simpa using h1
        by_cases h2 : y = life
        · have e2 : (y == life) = true := by simpa using h2
          rw [if_pos ⟨h1, h2⟩] at hq
          have HQ := hid (hq : plF osd life ac lv 0 = (j : Int))
          clear hq h1 h2 HP
          go_wp2_with fail
          go_ret
          exact ⟨congrArg (fun z => Ending.returned (.int .i64 z)) HQ.out.symm, HB.out⟩
        · have e2 : (y == life) = false := by simpa using h2
          rw [if_neg (fun e => h2 e.2)] at hq
          have HQ := hid hq
          clear hq h1 h2
          go_wp2_with fail
          go_round
          case rel => exact ⟨j + 1, by omega, by go_num, HQ.out⟩
          case measure => simp [intOf]; omega
      · have e1 : (z == osd) = false := by simpa using h1
        rw [if_neg (fun e => h1 e.1)] at hq
        have HQ := hid hq
        clear hq h1
        go_wp2_with fail
        go_round
        case rel => exact ⟨j + 1, by omega, by go_num, HQ.out⟩
        case measure => simp [intOf]; omega
    · have hj2 : j = n2 := by omega
      have HQ : Hid (plF osd life ac lv 0 = -1) := by
        have := HP.out
        rw [plF_end (.inr (List.drop_of_length_le (by have := HL.out; omega)))] at this
        exact this
      clear HP
      subst hj2
      go_wp2_with fail
      go_ret
      exact ⟨congrArg (fun z => Ending.returned (.int .i64 z)) HQ.out.symm, HB.out⟩

theorem place_p {w : World} {x1 x2 x3 : Option Addr} {n1 c1 n2 c2 n3 c3 : Nat} {ac lv : List Int} {F : Nat → Prop} (h1 : Ns w F x1 n1 c1 ac) (h2 : Ns w F x2 n2 c2 lv) (hm1 : n1 ≤ 140737488351232) (hm2 : n2 ≤ 140737488351232) (f1 f2 p osd life : Int) :
    Calls Try.prog 28 #[.agg #[.int .i64 f1, .int .i64 f2, .slice x1 n1 c1, .slice x2 n2 c2, .slice x3 n3 c3, .int .i64 p], .int .i64 osd, .int .i64 life] w fun e w' => e = .returned (.int .i64 (plP ac lv osd life)) ∧ Below w.heap.size w w' := by
  unfold plP
  by_cases ho : osd = -1
  · rw [if_pos ho]
    subst ho
    have b0 := al w (.cells #[.int .i64 f1, .int .i64 f2, .slice x1 n1 c1, .slice x2 n2 c2, .slice x3 n3 c3, .int .i64 p] 24)
    clear h1 h2
    go_enter Try.func28, Try.ntmps28
    go_wp2_with fail
    go_ret
    exact ⟨rfl, b0⟩
  · rw [if_neg ho]
    by_cases hle : n1 ≤ n2
    · exact place_a h1 h2 hm1 hm2 hle f1 f2 p osd life ho
    · exact place_b h1 h2 hm1 hm2 (by omega) f1 f2 p osd life ho

theorem plF_is {o f : Int} (ho : o ≠ -1) : ∀ (A V : List Int) (i : Nat), (0 ≤ plF o f A V i) ↔ countsL A V o f = true
  | a :: A, l :: V, i => by
    unfold plF countsL
    by_cases h : a = o ∧ l = f
    · rw [if_pos h]
      obtain ⟨h1, h2⟩ := h
      subst h1 h2
      simp [ho]
    · rw [if_neg h, plF_is ho A V (i + 1)]
      have : (a != -1 && a == o && l == f) = false := by
        cases q : (a == o)
        · simp
        · cases q2 : (l == f)
          · simp
          · exact absurd ⟨by simpa using q, by simpa using q2⟩ h
      rw [this, Bool.false_or]
  | [], _, _ => by simp [plF, countsL]
  | _ :: _, [], _ => by simp [plF, countsL]
theorem counts_hole {f : Int} : ∀ (A V : List Int), countsL A V (-1) f = false
  | a :: A, l :: V => by
    unfold countsL
    rw [counts_hole A V, Bool.or_false]
    by_cases h : a = -1 <;> simp [h]
  | [], _ => by simp [countsL]
  | _ :: _, [] => by simp [countsL]
theorem plP_is (A V : List Int) (o f : Int) : decide (0 ≤ plP A V o f) = countsL A V o f := by
  unfold plP
  by_cases h : o = -1
  · subst h
    rw [if_pos rfl, counts_hole]
    rfl
  · rw [if_neg h]
    cases q : countsL A V o f
    · exact decide_eq_false fun e => by rw [(plF_is h A V 0).1 e] at q; cases q
    · exact decide_eq_true ((plF_is h A V 0).2 q)

theorem has_place {w : World} {F : Nat → Prop} {v : JV} {u : FV} (h : JAt w F v) :
    Calls Try.prog 19 #[vJ v, vF u] w fun e w' => e = .returned (.bool (counts (pJ v) (pF u))) ∧ Below w.heap.size w w' := by
  obtain ⟨w1, hw1⟩ : ∃ w1, w1 = (w.alloc (.cells (JCells v) 24)).alloc (.cells (FCells u) 27) := ⟨_, rfl⟩
  obtain ⟨bb, hsz, g0, g1⟩ := two_boxes2 w (JCells v) (FCells u) 24 27
  rw [← hw1] at bb hsz g0 g1
  have HB := hid bb
  have cP := place_p (Ns.below h.a bb) (Ns.below h.l bb) (Nat.le_trans h.a.small (by omega)) (Nat.le_trans h.l.small (by omega)) (x3 := v.x3) (n3 := v.n3) (c3 := v.c3) v.fr v.to v.pr u.os u.li
  have hD : decide (0 ≤ plP v.A v.V u.os u.li) = counts (pJ v) (pF u) := plP_is _ _ _ _
  have HD := hid hD
  generalize plP v.A v.V u.os u.li = p at *
  generalize counts (pJ v) (pF u) = t at *
  obtain ⟨p0, p1, p2, p3, p4, p5⟩ := jcells g0
  obtain ⟨q0, q1, q2, q3, q4⟩ := fcells g1
  unfold JCells FCells at hw1
  unfold vJ vF
  clear h bb hsz g0 g1 hD
  obtain ⟨fr, to, x1, n1, c1, A, x2, n2, c2, V, x3, n3, c3, B, pr⟩ := v
  obtain ⟨os, li, no, he, x, n, c, L⟩ := u
  dsimp only at *
  go_enter Try.func19, Try.ntmps19
  go_upto_region 1 with (fail)
  rw [← hw1]
  clear hw1
  go_wp2_with (go_at_call 28; refine cP.mono ?_; rintro e wa ⟨rfl, hb⟩; have HA1 := hid hb; clear hb cP)
  go_ret
  exact ⟨by rw [HD.out]; rfl, on HB.out HA1.out⟩
end Go.Proofs.Ytgcjecmgjncclaa.Pe
