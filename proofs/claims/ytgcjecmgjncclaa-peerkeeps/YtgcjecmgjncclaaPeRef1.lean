/-
  The document's place and many; which infos count; how many places are no hole.
  Conditions: the interval lies in memory.
-/
import Derived.Test.YtgcjecmgjncclaaPeMem
namespace Go.Proofs.Ytgcjecmgjncclaa.Pe
open Go.RowKit By Fl Pz
set_option linter.unusedVariables false
set_option linter.unusedSimpArgs false
set_option maxRecDepth 100000
attribute [local go_sem] Oper.semAt_some

/- The first place of an OSD and life; -1: none. -/
def plc : List Int → List Int → Int → Int → Int → Int
  | a :: A, l :: L, o, f, i => if a != -1 && a == o && l == f then i else plc A L o f (i + 1)
  | _, _, _, _, _ => -1
theorem plc_is : ∀ (A V : List Int) (o f i : Int), 0 ≤ i → (plc A V o f i < 0 ↔ countsL A V o f = false)
  | a :: A, l :: V, o, f, i, h => by
    unfold plc countsL
    split
    · rename_i q
      simp only [q, Bool.true_or]
      constructor
      · intro; omega
      · intro h; cases h
    · rename_i q
      rw [plc_is A V o f (i + 1) (by omega)]
      simp only [Bool.not_eq_true] at q
      rw [q, Bool.false_or]
  | [], _, _, _, _, _ => by simp [plc, countsL]
  | _ :: _, [], _, _, _, _ => by simp [plc, countsL]
theorem plc_neg (v : JV) (o f : Int) : (plc v.A v.V o f 0 < 0) ↔ countsL v.A v.V o f = false := plc_is _ _ _ _ _ (by omega)

theorem drop_at {α : Type} {L : List α} {k : Nat} {a : α} (h : L[k]? = some a) : L.drop k = a :: L.drop (k + 1) := by
  obtain ⟨hk, e⟩ := List.getElem?_eq_some_iff.1 h
  rw [List.drop_eq_getElem_cons hk, e]

set_option maxHeartbeats 3200000 in
theorem place_any {w : World} {F : Nat → Prop} {v : JV} (h : JAt w F v) (o f : Int) :
    Calls Try.prog 20 #[vJ v, .int .i64 o, .int .i64 f] w fun e w' => e = .returned (.int .i64 (plc v.A v.V o f 0)) ∧ Below w.heap.size w w' := by
  obtain ⟨w1, hw1⟩ : ∃ w1, w1 = w.alloc (.cells (JCells v) 24) := ⟨_, rfl⟩
  have bb := al w (.cells (JCells v) 24)
  have g0 := heap_alloc_new w (.cells (JCells v) 24)
  rw [← hw1] at bb g0
  have HB := hid bb
  have HK : Hid (∀ W, Below w1.heap.size w1 W → W.cell? ⟨w.heap.size, 2, none⟩ = some (.slice v.x1 v.n1 v.c1) ∧ W.cell? ⟨w.heap.size, 3, none⟩ = some (.slice v.x2 v.n2 v.c2)) := hid fun W hW => ⟨cell_heap ((hW.block _ (lt_heap g0)).trans g0) rfl, cell_heap ((hW.block _ (lt_heap g0)).trans g0) rfl⟩
  have HA := hid h.a
  have HV := hid h.l
  have HLn : Hid (v.A.length = v.n1 ∧ v.V.length = v.n2) := hid ⟨h.a.len, h.l.len⟩
  have hs1 := h.a.small
  have hs2 := h.l.small
  obtain ⟨P, hP⟩ : ∃ P, P = plc v.A v.V o f 0 := ⟨_, rfl⟩
  have H0 : Hid (P = plc (v.A.drop 0) (v.V.drop 0) o f (0 : Nat)) := hid hP
  rw [← hP]
  unfold JCells at hw1
  unfold vJ
  clear h bb g0 hP
  obtain ⟨fr, to, x1, n1, c1, A, x2, n2, c2, V, x3, n3, c3, B, pr⟩ := v
  dsimp only at *
  go_enter Try.func20, Try.ntmps20
  go_upto_region 2 with (fail)
  rw [← hw1]
  clear hw1
  go_wp2_with fail
  go_loopw [7] (fun i wr => ∃ k : Nat, k ≤ n1 ∧ k ≤ n2 ∧ i = .int .i64 k ∧ Hid (Below w1.heap.size w1 wr ∧ P = plc (A.drop k) (V.drop k) o f k)) (fun i _ => n1 - (intOf i).toNat)
  case atStart => exact ⟨0, by omega, by omega, rfl, Below.refl _ _, H0.out⟩
  case round =>
    obtain ⟨k, hk1, hk2, rfl, HR⟩ := hrel
    obtain ⟨p1, p2⟩ := HK.out wr HR.out.1
    by_cases hn1 : k < n1
    rotate_left
    · have e1 : n1 = k := by omega
      subst e1
      have HI : Hid (P = -1) := hid (by rw [HR.out.2, List.drop_eq_nil_of_le (by have := HLn.out.1; omega)]; rfl)
      go_wp2_with fail
      go_ret
      exact ⟨by rw [HI.out]; rfl, on HB.out HR.out.1⟩
    by_cases hn2 : k < n2
    rotate_left
    · have e1 : n2 = k := by omega
      subst e1
      have hkn : (n2 : Int) < (n1 : Int) := by omega
      have HI : Hid (P = -1) := hid (by
        have e : V.drop n2 = [] := List.drop_eq_nil_of_le (by have := HLn.out.2; omega)
        rw [HR.out.2, e]
        cases A.drop n2 <;> rfl)
      go_wp2_with fail
      go_ret
      exact ⟨by rw [HI.out]; rfl, on HB.out HR.out.1⟩
    have hkn1 : (k : Int) < (n1 : Int) := by omega
    have hkn2 : (k : Int) < (n2 : Int) := by omega
    obtain ⟨a, ha, hm⟩ := Lis.some HA.out hn1
    obtain ⟨l, hl, hm2⟩ := Lis.some HV.out hn2
    rcases HA.out.row with hr0 | ⟨bl, q, hx, hbl, _, hc⟩
    · omega
    rcases HV.out.row with hr0 | ⟨bl2, q2, hy, hbl2, _, hc2⟩
    · omega
    have k0 := n_at hc ha
    have k1 := n_at hc2 hl
    have hbw := on HB.out HR.out.1
    subst hx hy
    have r0 := keep hbw k0
    have r1 := keep hbw k1
    obtain ⟨t1, h1⟩ : ∃ t, (a != -1) = t := ⟨_, rfl⟩
    obtain ⟨t2, h2⟩ : ∃ t, (a == o) = t := ⟨_, rfl⟩
    obtain ⟨t3, h3⟩ : ∃ t, (l == f) = t := ⟨_, rfl⟩
    have HP : Hid (P = if t1 && t2 && t3 then (k : Int) else plc (A.drop (k + 1)) (V.drop (k + 1)) o f ((k + 1 : Nat) : Int)) := hid (by
      rw [HR.out.2, drop_at ha, drop_at hl, ← h1, ← h2, ← h3, Int.natCast_add]
      rfl)
    clear hc ha hm hbl hc2 hbl2 hl hm2 k0 k1 hbw p1 p2
    obtain ⟨p1, p2⟩ := HK.out wr HR.out.1
    cases t1 <;> cases t2 <;> cases t3
    all_goals
      go_wp2_with fail
      first
        | (go_roundw
           case rel => exact ⟨k + 1, by omega, by omega, by go_num, HR.out.1, HP.out⟩
           case measure => simp [intOf]; omega)
        | (go_ret
           exact ⟨by rw [HP.out]; rfl, on HB.out HR.out.1⟩)

/- How many places are no hole. -/
set_option maxHeartbeats 3200000 in
theorem many_any {w : World} {F : Nat → Prop} {v : JV} (h : JAt w F v) :
    Calls Try.prog 26 #[vJ v] w fun e w' => e = .returned (.int .i64 (many (pJ v) : Nat)) ∧ Below w.heap.size w w' := by
  obtain ⟨w1, hw1⟩ : ∃ w1, w1 = w.alloc (.cells (JCells v) 24) := ⟨_, rfl⟩
  have bb := al w (.cells (JCells v) 24)
  have g0 := heap_alloc_new w (.cells (JCells v) 24)
  rw [← hw1] at bb g0
  have HB := hid bb
  have HK : Hid (∀ W, Below w1.heap.size w1 W → W.cell? ⟨w.heap.size, 2, none⟩ = some (.slice v.x1 v.n1 v.c1)) := hid fun W hW => cell_heap ((hW.block _ (lt_heap g0)).trans g0) rfl
  have HA := hid h.a
  have HLn : Hid (v.A.length = v.n1) := hid h.a.len
  have hs1 := h.a.small
  obtain ⟨P, hP⟩ : ∃ P, P = many (pJ v) := ⟨_, rfl⟩
  rw [← hP]
  have H0 : Hid (P = (v.A.filter (· != -1)).length) := hid hP
  unfold JCells at hw1
  unfold vJ
  clear h bb g0 hP
  obtain ⟨fr, to, x1, n1, c1, A, x2, n2, c2, V, x3, n3, c3, B, pr⟩ := v
  dsimp only at *
  go_enter Try.func26, Try.ntmps26
  go_upto_region 3 with (fail)
  rw [← hw1]
  clear hw1
  go_wp2_with fail
  go_loopw [3, 4] (fun m i wr => ∃ k : Nat, ∃ c : Nat, k ≤ n1 ∧ c ≤ k ∧ m = .int .i64 c ∧ i = .int .i64 k ∧ Hid (Below w1.heap.size w1 wr ∧ c = ((A.take k).filter (· != -1)).length)) (fun _ i _ => n1 - (intOf i).toNat)
  case atStart => exact ⟨0, 0, by omega, by omega, rfl, rfl, Below.refl _ _, rfl⟩
  case round =>
    obtain ⟨k, c, hk1, hc1, rfl, rfl, HR⟩ := hrel
    have p1 := HK.out wr HR.out.1
    by_cases hn1 : k < n1
    rotate_left
    · have e1 : n1 = k := by omega
      subst e1
      have HI : Hid (P = c) := hid (by rw [H0.out, HR.out.2, List.take_of_length_le (by have := HLn.out; omega)])
      go_wp2_with fail
      go_ret
      exact ⟨by rw [HI.out]; rfl, on HB.out HR.out.1⟩
    have hkn1 : (k : Int) < (n1 : Int) := by omega
    obtain ⟨a, ha, hm⟩ := Lis.some HA.out hn1
    rcases HA.out.row with hr0 | ⟨bl, q, hx, hbl, _, hc⟩
    · omega
    have k0 := n_at hc ha
    have hbw := on HB.out HR.out.1
    subst hx
    have r0 := keep hbw k0
    obtain ⟨t1, h1⟩ : ∃ t, (a != -1) = t := ⟨_, rfl⟩
    have HP : Hid (((A.take (k + 1)).filter (· != -1)).length = if t1 then c + 1 else c) := hid (by
      rw [List.take_add_one, ha, List.filter_append, List.length_append, ← HR.out.2, ← h1]
      cases h : (a != -1) <;> simp [h])
    clear hc ha hm hbl k0 hbw p1
    have p1 := HK.out wr HR.out.1
    cases t1 with
    | true =>
      go_wp2_with fail
      go_roundw
      case rel => exact ⟨k + 1, c + 1, by omega, by omega, by go_num, by go_num, HR.out.1, HP.out.symm⟩
      case measure => simp [intOf]; omega
    | false =>
      go_wp2_with fail
      go_roundw
      case rel => exact ⟨k + 1, c, by omega, by omega, rfl, by go_num, HR.out.1, HP.out.symm⟩
      case measure => simp [intOf]; omega

set_option maxHeartbeats 3200000 in
theorem count_any {w : World} {F : Nat → Prop} {v : JV} (h : JAt w F v) :
    Calls Try.prog 16 #[vJ v] w fun e w' => e = .returned (.int .i64 (many (pJ v) : Nat)) ∧ Below w.heap.size w w' := by
  obtain ⟨w1, hw1⟩ : ∃ w1, w1 = w.alloc (.cells (JCells v) 24) := ⟨_, rfl⟩
  have bb := al w (.cells (JCells v) 24)
  have g0 := heap_alloc_new w (.cells (JCells v) 24)
  rw [← hw1] at bb g0
  have HB := hid bb
  have HK : Hid (∀ W, Below w1.heap.size w1 W → W.cell? ⟨w.heap.size, 2, none⟩ = some (.slice v.x1 v.n1 v.c1)) := hid fun W hW => cell_heap ((hW.block _ (lt_heap g0)).trans g0) rfl
  have HA := hid h.a
  have HLn : Hid (v.A.length = v.n1) := hid h.a.len
  have hs1 := h.a.small
  obtain ⟨P, hP⟩ : ∃ P, P = many (pJ v) := ⟨_, rfl⟩
  rw [← hP]
  have H0 : Hid (P = (v.A.filter (· != -1)).length) := hid hP
  unfold JCells at hw1
  unfold vJ
  clear h bb g0 hP
  obtain ⟨fr, to, x1, n1, c1, A, x2, n2, c2, V, x3, n3, c3, B, pr⟩ := v
  dsimp only at *
  go_enter Try.func16, Try.ntmps16
  go_upto_region 3 with (fail)
  rw [← hw1]
  clear hw1
  go_wp2_with fail
  go_loopw [3, 4] (fun m i wr => ∃ k : Nat, ∃ c : Nat, k ≤ n1 ∧ c ≤ k ∧ m = .int .i64 c ∧ i = .int .i64 k ∧ Hid (Below w1.heap.size w1 wr ∧ c = ((A.take k).filter (· != -1)).length)) (fun _ i _ => n1 - (intOf i).toNat)
  case atStart => exact ⟨0, 0, by omega, by omega, rfl, rfl, Below.refl _ _, rfl⟩
  case round =>
    obtain ⟨k, c, hk1, hc1, rfl, rfl, HR⟩ := hrel
    have p1 := HK.out wr HR.out.1
    by_cases hn1 : k < n1
    rotate_left
    · have e1 : n1 = k := by omega
      subst e1
      have HI : Hid (P = c) := hid (by rw [H0.out, HR.out.2, List.take_of_length_le (by have := HLn.out; omega)])
      go_wp2_with fail
      go_ret
      exact ⟨by rw [HI.out]; rfl, on HB.out HR.out.1⟩
    have hkn1 : (k : Int) < (n1 : Int) := by omega
    obtain ⟨a, ha, hm⟩ := Lis.some HA.out hn1
    rcases HA.out.row with hr0 | ⟨bl, q, hx, hbl, _, hc⟩
    · omega
    have k0 := n_at hc ha
    have hbw := on HB.out HR.out.1
    subst hx
    have r0 := keep hbw k0
    obtain ⟨t1, h1⟩ : ∃ t, (a != -1) = t := ⟨_, rfl⟩
    have HP : Hid (((A.take (k + 1)).filter (· != -1)).length = if t1 then c + 1 else c) := hid (by
      rw [List.take_add_one, ha, List.filter_append, List.length_append, ← HR.out.2, ← h1]
      cases h : (a != -1) <;> simp [h])
    clear hc ha hm hbl k0 hbw p1
    have p1 := HK.out wr HR.out.1
    cases t1 with
    | true =>
      go_wp2_with fail
      go_roundw
      case rel => exact ⟨k + 1, c + 1, by omega, by omega, by go_num, by go_num, HR.out.1, HP.out.symm⟩
      case measure => simp [intOf]; omega
    | false =>
      go_wp2_with fail
      go_roundw
      case rel => exact ⟨k + 1, c, by omega, by omega, rfl, by go_num, HR.out.1, HP.out.symm⟩
      case measure => simp [intOf]; omega

end Go.Proofs.Ytgcjecmgjncclaa.Pe
