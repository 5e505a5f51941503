/-
  Package atlas: numbers within, pools, OSDs; the document's own.
  Conditions: none.
-/
import Derived.Test.YtgfjmkjgagogpaaGreatAtMem
namespace Go.Proofs.YtgfjmkjgagogpaaGreat.At
open Go.RowKit By Fl
set_option linter.unusedVariables false
set_option linter.unusedSimpArgs false
set_option maxRecDepth 100000

theorem within_any (n a b : Int) (w : World) : Calls Tryz.prog 54 #[.int .i64 n, .int .i64 a, .int .i64 b] w fun e w' => e = .returned (.bool (wi n a b)) ∧ w' = w := by
  unfold wi
  by_cases h : a ≤ n
  · go_enter Tryz.func54, Tryz.ntmps54
    go_wp2_with fail
    go_ret
    exact ⟨by simp [h], rfl⟩
  · go_enter Tryz.func54, Tryz.ntmps54
    go_wp2_with fail
    go_ret
    exact ⟨by simp; omega, rfl⟩

theorem poolMay_any (p : Pool) (w : World) (hk : p.k ≤ 9223372036854775807) : Calls Tryz.prog 55 #[vP p] w fun e w' => e = .returned (.bool (poolB p)) ∧ Below w.heap.size w w' := by
  obtain ⟨k, m, g, d⟩ := p
  unfold vP poolB
  dsimp only at hk ⊢
  have hW := fun n a b W => within_any n a b W
  have b0 := fun x => al w x
  by_cases h1 : 1 ≤ k
  · have hsub : IntKind.i64.wrap (32 - k) = 32 - k := by rw [IntKind.wrap_i64]; omega
    clear hk
    go_enter Tryz.func55, Tryz.ntmps55
    go_wp2_with (go_at_call 54; refine (hW _ _ _ _).mono ?_; rintro e w1 ⟨rfl, rfl⟩)
    all_goals clear hW
    all_goals (go_ret; exact ⟨by simp_all, b0 _⟩)
  · go_enter Tryz.func55, Tryz.ntmps55
    go_wp2_with fail
    go_ret
    exact ⟨by simp; omega, b0 _⟩

theorem osdMay_any (o : Osd) (w : World) : Calls Tryz.prog 76 #[vO o] w fun e w' => e = .returned (.bool (osdB o)) ∧ Below w.heap.size w w' := by
  obtain ⟨id, up, inn, wt, life, boot, host, rack⟩ := o
  unfold vO osdB least
  dsimp only
  have hW := fun n a b W => within_any n a b W
  have b0 := fun x => al w x
  cases up with
  | true =>
    go_enter Tryz.func76, Tryz.ntmps76
    go_wp2_with (go_at_call 54; refine (hW _ _ _ _).mono ?_; rintro e w1 ⟨rfl, rfl⟩)
    all_goals clear hW
    all_goals (go_ret; exact ⟨by simp_all, b0 _⟩)
  | false =>
    go_enter Tryz.func76, Tryz.ntmps76
    go_wp2_with (go_at_call 54; refine (hW _ _ _ _).mono ?_; rintro e w1 ⟨rfl, rfl⟩)
    all_goals clear hW
    all_goals (go_ret; exact ⟨by simp_all, b0 _⟩)

/- The document's. -/
theorem rwithin_any (n a b : Int) (w : World) : Calls Tryz.prog 23 #[.int .i64 n, .int .i64 a, .int .i64 b] w fun e w' => e = .returned (.bool (wi n a b)) ∧ w' = w := by
  unfold wi
  by_cases h : a ≤ n
  · go_enter Tryz.func23, Tryz.ntmps23
    go_wp2_with fail
    go_ret
    exact ⟨by simp [h], rfl⟩
  · go_enter Tryz.func23, Tryz.ntmps23
    go_wp2_with fail
    go_ret
    exact ⟨by simp; omega, rfl⟩

theorem rpool_any (p : Pool) (w : World) : Calls Tryz.prog 24 #[vP p] w fun e w' => e = .returned (.bool (poolB p)) ∧ Below w.heap.size w w' := by
  obtain ⟨k, m, g, d⟩ := p
  have hE : poolB ⟨k, m, g, d⟩ = (wi k 1 32 && wi m 1 32 && decide (k + m ≤ 32) && wi g 1 32 && wi d 0 2) := by
    unfold poolB
    dsimp only
    congr 2
    rw [Bool.eq_iff_iff]
    simp only [Bool.and_eq_true, decide_eq_true_eq, wi_iff]
    omega
  rw [hE]
  clear hE
  unfold vP
  dsimp only
  have hW := fun n a b W => rwithin_any n a b W
  have b0 := fun x => al w x
  by_cases h : (1 ≤ k ∧ k ≤ 32) ∧ 1 ≤ m ∧ m ≤ 32
  · have hk : wi k 1 32 = true := (wi_iff _ _ _).2 h.1
    have hm : wi m 1 32 = true := (wi_iff _ _ _).2 h.2
    have hadd : IntKind.i64.wrap (k + m) = k + m := by rw [IntKind.wrap_i64]; omega
    have H : Hid (wi k 1 32 = true ∧ wi m 1 32 = true) := ⟨hk, hm⟩
    clear h
    go_enter Tryz.func24, Tryz.ntmps24
    go_wp2_with (go_at_call 23; refine (hW _ _ _ _).mono ?_; rintro e w1 ⟨rfl, rfl⟩)
    all_goals clear hW
    all_goals (go_ret; exact ⟨by obtain ⟨h1, h2⟩ := H.out; clear H; first | (simp_all; done) | (simp_all; omega), b0 _⟩)
  · have H : Hid (¬ (wi k 1 32 = true ∧ wi m 1 32 = true)) := fun e => h ⟨(wi_iff _ _ _).1 e.1, (wi_iff _ _ _).1 e.2⟩
    clear h
    go_enter Tryz.func24, Tryz.ntmps24
    go_wp2_with (go_at_call 23; refine (hW _ _ _ _).mono ?_; rintro e w1 ⟨rfl, rfl⟩)
    all_goals clear hW
    all_goals first
      | (exfalso; exact H.out ⟨by assumption, by assumption⟩)
      | (go_ret; exact ⟨by simp_all, b0 _⟩)

theorem rosd_any (o : Osd) (w : World) : Calls Tryz.prog 25 #[vO o] w fun e w' => e = .returned (.bool (osdB o)) ∧ Below w.heap.size w w' := by
  obtain ⟨id, up, inn, wt, life, boot, host, rack⟩ := o
  have hE : osdB ⟨id, up, inn, wt, life, boot, host, rack⟩ = (wi id 0 999 && wi host 0 999 && wi rack 0 999 && wi wt 0 16777216 && wi life 0 2147483647 && wi boot 0 2147483647 && (!up || (decide (0 < life) && decide (0 < boot)))) := by
    unfold osdB least
    dsimp only
    rw [Bool.eq_iff_iff]
    cases up
    · simp only [Bool.and_eq_true, decide_eq_true_eq, wi_iff, Bool.not_false, Bool.true_or, and_true]
      simp
    · simp only [Bool.and_eq_true, decide_eq_true_eq, wi_iff, Bool.not_true, Bool.false_or]
      simp
      omega
  rw [hE]
  clear hE
  unfold vO
  dsimp only
  have hW := fun n a b W => rwithin_any n a b W
  have b0 := fun x => al w x
  cases up with
  | true =>
    go_enter Tryz.func25, Tryz.ntmps25
    go_wp2_with (go_at_call 23; refine (hW _ _ _ _).mono ?_; rintro e w1 ⟨rfl, rfl⟩)
    all_goals clear hW
    all_goals (go_ret; exact ⟨by first | (simp_all; done) | (simp_all; omega), b0 _⟩)
  | false =>
    go_enter Tryz.func25, Tryz.ntmps25
    go_wp2_with (go_at_call 23; refine (hW _ _ _ _).mono ?_; rintro e w1 ⟨rfl, rfl⟩)
    all_goals clear hW
    all_goals (go_ret; exact ⟨by simp_all, b0 _⟩)

def errB (b : Bool) : Int := if b then 0 else 1

end Go.Proofs.YtgfjmkjgagogpaaGreat.At
