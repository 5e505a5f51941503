/-
  2 texts of this proof, one behind the other: AtSmall, AtNew.
-/
import Derived.Test.YthlfmbijagpggaaJAtPlain
/-
  Package atlas: numbers within, pools, OSDs; the document's own.
  Conditions: none.
-/
namespace Go.Proofs.Ythlfmbijagpggaa.At
open Go.RowKit By Fl
set_option linter.unusedVariables false
set_option linter.unusedSimpArgs false
set_option maxRecDepth 100000

theorem within_any (n a b : Int) (w : World) : Calls Try.prog 22 #[.int .i64 n, .int .i64 a, .int .i64 b] w fun e w' => e = .returned (.bool (wi n a b)) ∧ w' = w := by
  unfold wi
  by_cases h : a ≤ n
  · go_enter Try.func22, Try.ntmps22
    go_wp2_with fail
    go_ret
    exact ⟨by simp [h], rfl⟩
  · go_enter Try.func22, Try.ntmps22
    go_wp2_with fail
    go_ret
    exact ⟨by simp; omega, rfl⟩

theorem poolMay_any (p : Pool) (w : World) (hk : p.k ≤ 9223372036854775807) : Calls Try.prog 23 #[vP p] w fun e w' => e = .returned (.bool (poolB p)) ∧ Below w.heap.size w w' := by
  obtain ⟨k, m, g, d⟩ := p
  unfold vP poolB
  dsimp only at hk ⊢
  have hW := fun n a b W => within_any n a b W
  have b0 := fun x => al w x
  by_cases h1 : 1 ≤ k
  · have hsub : IntKind.i64.wrap (32 - k) = 32 - k := by rw [IntKind.wrap_i64]; omega
    clear hk
    go_enter Try.func23, Try.ntmps23
    go_wp2_with (go_at_call 22; refine (hW _ _ _ _).mono ?_; rintro e w1 ⟨rfl, rfl⟩)
    all_goals clear hW
    all_goals (go_ret; exact ⟨by simp_all, b0 _⟩)
  · go_enter Try.func23, Try.ntmps23
    go_wp2_with fail
    go_ret
    exact ⟨by simp; omega, b0 _⟩

theorem osdMay_any (o : Osd) (w : World) : Calls Try.prog 29 #[vO o] w fun e w' => e = .returned (.bool (osdB o)) ∧ Below w.heap.size w w' := by
  obtain ⟨id, up, inn, wt, life, boot, host, rack⟩ := o
  unfold vO osdB least
  dsimp only
  have hW := fun n a b W => within_any n a b W
  have b0 := fun x => al w x
  cases up with
  | true =>
    go_enter Try.func29, Try.ntmps29
    go_wp2_with (go_at_call 22; refine (hW _ _ _ _).mono ?_; rintro e w1 ⟨rfl, rfl⟩)
    all_goals clear hW
    all_goals (go_ret; exact ⟨by simp_all, b0 _⟩)
  | false =>
    go_enter Try.func29, Try.ntmps29
    go_wp2_with (go_at_call 22; refine (hW _ _ _ _).mono ?_; rintro e w1 ⟨rfl, rfl⟩)
    all_goals clear hW
    all_goals (go_ret; exact ⟨by simp_all, b0 _⟩)

/- The document's. -/
theorem rwithin_any (n a b : Int) (w : World) : Calls Try.prog 9 #[.int .i64 n, .int .i64 a, .int .i64 b] w fun e w' => e = .returned (.bool (wi n a b)) ∧ w' = w := by
  unfold wi
  by_cases h : a ≤ n
  · go_enter Try.func9, Try.ntmps9
    go_wp2_with fail
    go_ret
    exact ⟨by simp [h], rfl⟩
  · go_enter Try.func9, Try.ntmps9
    go_wp2_with fail
    go_ret
    exact ⟨by simp; omega, rfl⟩

theorem rpool_any (p : Pool) (w : World) : Calls Try.prog 10 #[vP p] w fun e w' => e = .returned (.bool (poolB p)) ∧ Below w.heap.size w w' := by
  obtain ⟨k, m, g, d⟩ := p
  have hE : poolB ⟨k, m, g, d⟩ = (wi k 1 32 && wi m 1 32 && decide (k + m ≤ 32) && wi g 1 32 && wi d 0 2) := by
    unfold poolB
    dsimp only
    congr 2
    rw [Bool.eq_iff_iff]
    simp only [Bool.and_eq_true, decide_eq_true_eq, wi_iff]
    omega
  rw [hE]
  clear hE
  unfold vP
  dsimp only
  have hW := fun n a b W => rwithin_any n a b W
  have b0 := fun x => al w x
  by_cases h : (1 ≤ k ∧ k ≤ 32) ∧ 1 ≤ m ∧ m ≤ 32
  · have hk : wi k 1 32 = true := (wi_iff _ _ _).2 h.1
    have hm : wi m 1 32 = true := (wi_iff _ _ _).2 h.2
    have hadd : IntKind.i64.wrap (k + m) = k + m := by rw [IntKind.wrap_i64]; omega
    have H : Hid (wi k 1 32 = true ∧ wi m 1 32 = true) := ⟨hk, hm⟩
    clear h
    go_enter Try.func10, Try.ntmps10
    go_wp2_with (go_at_call 9; refine (hW _ _ _ _).mono ?_; rintro e w1 ⟨rfl, rfl⟩)
    all_goals clear hW
    all_goals (go_ret; exact ⟨by obtain ⟨h1, h2⟩ := H.out; clear H; first | (simp_all; done) | (simp_all; omega), b0 _⟩)
  · have H : Hid (¬ (wi k 1 32 = true ∧ wi m 1 32 = true)) := fun e => h ⟨(wi_iff _ _ _).1 e.1, (wi_iff _ _ _).1 e.2⟩
    clear h
    go_enter Try.func10, Try.ntmps10
    go_wp2_with (go_at_call 9; refine (hW _ _ _ _).mono ?_; rintro e w1 ⟨rfl, rfl⟩)
    all_goals clear hW
    all_goals first
      | (exfalso; exact H.out ⟨by assumption, by assumption⟩)
      | (go_ret; exact ⟨by simp_all, b0 _⟩)

theorem rosd_any (o : Osd) (w : World) : Calls Try.prog 11 #[vO o] w fun e w' => e = .returned (.bool (osdB o)) ∧ Below w.heap.size w w' := by
  obtain ⟨id, up, inn, wt, life, boot, host, rack⟩ := o
  have hE : osdB ⟨id, up, inn, wt, life, boot, host, rack⟩ = (wi id 0 999 && wi host 0 999 && wi rack 0 999 && wi wt 0 16777216 && wi life 0 2147483647 && wi boot 0 2147483647 && (!up || (decide (0 < life) && decide (0 < boot)))) := by
    unfold osdB least
    dsimp only
    rw [Bool.eq_iff_iff]
    cases up
    · simp only [Bool.and_eq_true, decide_eq_true_eq, wi_iff, Bool.not_false, Bool.true_or, and_true]
      simp
    · simp only [Bool.and_eq_true, decide_eq_true_eq, wi_iff, Bool.not_true, Bool.false_or]
      simp
      omega
  rw [hE]
  clear hE
  unfold vO
  dsimp only
  have hW := fun n a b W => rwithin_any n a b W
  have b0 := fun x => al w x
  cases up with
  | true =>
    go_enter Try.func11, Try.ntmps11
    go_wp2_with (go_at_call 9; refine (hW _ _ _ _).mono ?_; rintro e w1 ⟨rfl, rfl⟩)
    all_goals clear hW
    all_goals (go_ret; exact ⟨by first | (simp_all; done) | (simp_all; omega), b0 _⟩)
  | false =>
    go_enter Try.func11, Try.ntmps11
    go_wp2_with (go_at_call 9; refine (hW _ _ _ _).mono ?_; rintro e w1 ⟨rfl, rfl⟩)
    all_goals clear hW
    all_goals (go_ret; exact ⟨by simp_all, b0 _⟩)

def errB (b : Bool) : Int := if b then 0 else 1

end Go.Proofs.Ythlfmbijagpggaa.At

/-
  Package atlas: New, Find; the document's Find.
  Conditions: lists lie in memory.
-/
namespace Go.Proofs.Ythlfmbijagpggaa.At
open Go.RowKit By Fl
set_option linter.unusedVariables false
set_option linter.unusedSimpArgs false
set_option maxRecDepth 100000

theorem results_cell2 {fn : Func} {p q : Tmp} {ty : TypeId} (h : fn.results = #[.cell p ty, .tmp q]) (tmps : Array Value) (P : Program) (w : World) :
    (results fn tmps).run P w = ((asAddr (tmps.getD p undef)).run P w).andThen fun a w₁ => ((loadVar ty a).run P w₁).andThen fun v w₂ => .ok (.tuple #[v, tmps.getD q undef]) w₂ := by
  simp only [results, h]
  simp [Sem.run_bind, Result.andThen]

def findP (L : List Osd) (id : Int) : Osd × Bool := match L.findIdx? (isId id) with | some k => (L.getD k (noO 0), true) | none => (noO 0, false)

theorem find_any {w : World} {x : Option Addr} {n c : Nat} (m : Mp) (id : Int) (h : Os w x n c m.osds) :
    Calls Try.prog 26 #[vM m.ep m.pool x n c, .int .i64 id] w fun e w' => e = .returned (.tuple #[vO (findP m.osds id).1, .bool (findP m.osds id).2]) ∧ Below w.heap.size w w' := by
  obtain ⟨ep, ⟨k, mm, g, d⟩, L⟩ := m
  have HO := hid h
  dsimp only at HO ⊢
  unfold vM
  dsimp only
  have b0 : Below w.heap.size w ((w.alloc (.cells #[.int .i64 ep, .int .i64 k, .int .i64 mm, .int .i64 g, .int .i64 d, .slice x n c] 32)).alloc (.cells #[.int .i64 0, .bool false, .bool false, .int .i64 0, .int .i64 0, .int .i64 0, .int .i64 0, .int .i64 0] 45)) := on (al _ _) (al _ _)
  have hS := seat_any id (HO.out.below b0)
  have HB := hid b0
  have hsm := h.small
  clear h b0
  cases hi : L.findIdx? (isId id) with
  | none =>
    rw [show idx (isId id) L = -1 by unfold idx; rw [hi]] at hS
    have HF : Hid (findP L id = (noO 0, false)) := hid (by unfold findP; rw [hi])
    clear hi
    go_enter Try.func26, Try.ntmps26
    go_wp2_with (first
      | (
         go_at_call 32; refine hS.mono ?_; rintro e w1 ⟨rfl, hb1⟩; clear hS
         have k0 := keep hb1 (b := w.heap.size + 1) (o := 0) (x := .int .i64 0) (by first | assumption | go_simp)
         have k1 := keep hb1 (b := w.heap.size + 1) (o := 1) (x := .bool false) (by first | assumption | go_simp)
         have k2 := keep hb1 (b := w.heap.size + 1) (o := 2) (x := .bool false) (by first | assumption | go_simp)
         have k3 := keep hb1 (b := w.heap.size + 1) (o := 3) (x := .int .i64 0) (by first | assumption | go_simp)
         have k4 := keep hb1 (b := w.heap.size + 1) (o := 4) (x := .int .i64 0) (by first | assumption | go_simp)
         have k5 := keep hb1 (b := w.heap.size + 1) (o := 5) (x := .int .i64 0) (by first | assumption | go_simp)
         have k6 := keep hb1 (b := w.heap.size + 1) (o := 6) (x := .int .i64 0) (by first | assumption | go_simp)
         have k7 := keep hb1 (b := w.heap.size + 1) (o := 7) (x := .int .i64 0) (by first | assumption | go_simp)
         have f0 := keepf hb1 (b := w.heap.size + 1) (o := 0) (by first | (simp <;> omega) | exact cell_lt' (a := ⟨w.heap.size + 1, 0, none⟩) (by assumption) | (simp; exact cell_lt' (a := ⟨w.heap.size + 1, 0, none⟩) (by assumption))) (by first | assumption | go_simp)
         have f1 := keepf hb1 (b := w.heap.size + 1) (o := 1) (by first | (simp <;> omega) | exact cell_lt' (a := ⟨w.heap.size + 1, 1, none⟩) (by assumption) | (simp; exact cell_lt' (a := ⟨w.heap.size + 1, 1, none⟩) (by assumption))) (by first | assumption | go_simp)
         have f2 := keepf hb1 (b := w.heap.size + 1) (o := 2) (by first | (simp <;> omega) | exact cell_lt' (a := ⟨w.heap.size + 1, 2, none⟩) (by assumption) | (simp; exact cell_lt' (a := ⟨w.heap.size + 1, 2, none⟩) (by assumption))) (by first | assumption | go_simp)
         have f3 := keepf hb1 (b := w.heap.size + 1) (o := 3) (by first | (simp <;> omega) | exact cell_lt' (a := ⟨w.heap.size + 1, 3, none⟩) (by assumption) | (simp; exact cell_lt' (a := ⟨w.heap.size + 1, 3, none⟩) (by assumption))) (by first | assumption | go_simp)
         have f4 := keepf hb1 (b := w.heap.size + 1) (o := 4) (by first | (simp <;> omega) | exact cell_lt' (a := ⟨w.heap.size + 1, 4, none⟩) (by assumption) | (simp; exact cell_lt' (a := ⟨w.heap.size + 1, 4, none⟩) (by assumption))) (by first | assumption | go_simp)
         have f5 := keepf hb1 (b := w.heap.size + 1) (o := 5) (by first | (simp <;> omega) | exact cell_lt' (a := ⟨w.heap.size + 1, 5, none⟩) (by assumption) | (simp; exact cell_lt' (a := ⟨w.heap.size + 1, 5, none⟩) (by assumption))) (by first | assumption | go_simp)
         have f6 := keepf hb1 (b := w.heap.size + 1) (o := 6) (by first | (simp <;> omega) | exact cell_lt' (a := ⟨w.heap.size + 1, 6, none⟩) (by assumption) | (simp; exact cell_lt' (a := ⟨w.heap.size + 1, 6, none⟩) (by assumption))) (by first | assumption | go_simp)
         have f7 := keepf hb1 (b := w.heap.size + 1) (o := 7) (by first | (simp <;> omega) | exact cell_lt' (a := ⟨w.heap.size + 1, 7, none⟩) (by assumption) | (simp; exact cell_lt' (a := ⟨w.heap.size + 1, 7, none⟩) (by assumption))) (by first | assumption | go_simp)
         have B1 := on HB.out hb1; clear hb1))
    refine bodyPost_ret (v := .tuple #[vO (noO 0), .bool false]) ?_ rfl ?_
    · rw [results_cell2 rfl]
      unfold vO noO
      go_simp
    · rw [HF.out]
      refine ⟨rfl, ?_⟩
      repeat (first | with_reducible exact B1 | (with_reducible refine Below.setCell ?_ (by first | (simp; done) | (simp; omega) | omega) _) | (with_reducible refine Below.alloc ?_ (by first | (simp; done) | (simp; omega) | omega) _))
  | some q =>
    obtain ⟨a, ha, _, _⟩ := idx_some hi
    rw [show idx (isId id) L = (q : Int) by unfold idx; rw [hi]] at hS
    have HF : Hid (findP L id = (a, true)) := hid (by unfold findP; rw [hi]; simp [List.getD, ha])
    have HA := hid ha
    have hqn : q < n := by rw [← HO.out.len]; exact (List.getElem?_eq_some_iff.1 ha).1
    have hq0 : ¬ (q : Int) < 0 := by omega
    have hqI : (q : Int) < (n : Int) := by omega
    rcases HO.out.row with h0 | ⟨b, o, rfl, hbl, hcell⟩
    · omega
    have HC := hid hcell
    clear hi ha hcell
    obtain ⟨a0, a1, a2, a3, a4, a5, a6, a7⟩ := a
    go_enter Try.func26, Try.ntmps26
    go_wp2_with (first
      | (
         go_at_call 32; refine hS.mono ?_; rintro e w1 ⟨rfl, hb1⟩; clear hS
         have k0 := keep hb1 (b := w.heap.size + 1) (o := 0) (x := .int .i64 0) (by first | assumption | go_simp)
         have k1 := keep hb1 (b := w.heap.size + 1) (o := 1) (x := .bool false) (by first | assumption | go_simp)
         have k2 := keep hb1 (b := w.heap.size + 1) (o := 2) (x := .bool false) (by first | assumption | go_simp)
         have k3 := keep hb1 (b := w.heap.size + 1) (o := 3) (x := .int .i64 0) (by first | assumption | go_simp)
         have k4 := keep hb1 (b := w.heap.size + 1) (o := 4) (x := .int .i64 0) (by first | assumption | go_simp)
         have k5 := keep hb1 (b := w.heap.size + 1) (o := 5) (x := .int .i64 0) (by first | assumption | go_simp)
         have k6 := keep hb1 (b := w.heap.size + 1) (o := 6) (x := .int .i64 0) (by first | assumption | go_simp)
         have k7 := keep hb1 (b := w.heap.size + 1) (o := 7) (x := .int .i64 0) (by first | assumption | go_simp)
         have f0 := keepf hb1 (b := w.heap.size + 1) (o := 0) (by first | (simp <;> omega) | exact cell_lt' (a := ⟨w.heap.size + 1, 0, none⟩) (by assumption) | (simp; exact cell_lt' (a := ⟨w.heap.size + 1, 0, none⟩) (by assumption))) (by first | assumption | go_simp)
         have f1 := keepf hb1 (b := w.heap.size + 1) (o := 1) (by first | (simp <;> omega) | exact cell_lt' (a := ⟨w.heap.size + 1, 1, none⟩) (by assumption) | (simp; exact cell_lt' (a := ⟨w.heap.size + 1, 1, none⟩) (by assumption))) (by first | assumption | go_simp)
         have f2 := keepf hb1 (b := w.heap.size + 1) (o := 2) (by first | (simp <;> omega) | exact cell_lt' (a := ⟨w.heap.size + 1, 2, none⟩) (by assumption) | (simp; exact cell_lt' (a := ⟨w.heap.size + 1, 2, none⟩) (by assumption))) (by first | assumption | go_simp)
         have f3 := keepf hb1 (b := w.heap.size + 1) (o := 3) (by first | (simp <;> omega) | exact cell_lt' (a := ⟨w.heap.size + 1, 3, none⟩) (by assumption) | (simp; exact cell_lt' (a := ⟨w.heap.size + 1, 3, none⟩) (by assumption))) (by first | assumption | go_simp)
         have f4 := keepf hb1 (b := w.heap.size + 1) (o := 4) (by first | (simp <;> omega) | exact cell_lt' (a := ⟨w.heap.size + 1, 4, none⟩) (by assumption) | (simp; exact cell_lt' (a := ⟨w.heap.size + 1, 4, none⟩) (by assumption))) (by first | assumption | go_simp)
         have f5 := keepf hb1 (b := w.heap.size + 1) (o := 5) (by first | (simp <;> omega) | exact cell_lt' (a := ⟨w.heap.size + 1, 5, none⟩) (by assumption) | (simp; exact cell_lt' (a := ⟨w.heap.size + 1, 5, none⟩) (by assumption))) (by first | assumption | go_simp)
         have f6 := keepf hb1 (b := w.heap.size + 1) (o := 6) (by first | (simp <;> omega) | exact cell_lt' (a := ⟨w.heap.size + 1, 6, none⟩) (by assumption) | (simp; exact cell_lt' (a := ⟨w.heap.size + 1, 6, none⟩) (by assumption))) (by first | assumption | go_simp)
         have f7 := keepf hb1 (b := w.heap.size + 1) (o := 7) (by first | (simp <;> omega) | exact cell_lt' (a := ⟨w.heap.size + 1, 7, none⟩) (by assumption) | (simp; exact cell_lt' (a := ⟨w.heap.size + 1, 7, none⟩) (by assumption))) (by first | assumption | go_simp)
         have j5 := keep hb1 (b := w.heap.size) (o := 5) (x := .slice (some ⟨b, o, none⟩) n c) (by first | assumption | go_simp)
         have B1 := on HB.out hb1; clear hb1
         obtain ⟨l0, l1, l2, l3, l4, l5, l6, l7⟩ := Os.at (n := n) (c := c) (fun k a hk j v hv => keep B1 (HC.out k a hk j v hv)) HA.out
         have lt1 : w.heap.size + 1 < w1.heap.size := cell_lt' k0
         have lb1 : b ≠ w.heap.size + 1 := by omega))
    refine bodyPost_ret (v := .tuple #[vO ⟨a0, a1, a2, a3, a4, a5, a6, a7⟩, .bool true]) ?_ rfl ?_
    · rw [results_cell2 rfl]
      unfold vO
      go_simp
    · rw [HF.out]
      refine ⟨rfl, ?_⟩
      repeat (first | with_reducible exact B1 | (with_reducible refine Below.setCell ?_ (by first | (simp; done) | (simp; omega) | omega) _) | (with_reducible refine Below.alloc ?_ (by first | (simp; done) | (simp; omega) | omega) _))

end Go.Proofs.Ythlfmbijagpggaa.At
