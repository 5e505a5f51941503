/-
  3 texts of this proof, one behind the other: AtSmall, AtChange, AtCheck.
-/
import Derived.Test.YtdlajpjigddbhaaGreatJ07
import Derived.Test.YtdlajpjigddbhaaGreatJ17
/-
  Package atlas: numbers within, pools, OSDs; the document's own.
  Conditions: none.
-/
namespace Go.Proofs.YtdlajpjigddbhaaGreat.At
open Go.RowKit By Fl
set_option linter.unusedVariables false
set_option linter.unusedSimpArgs false
set_option maxRecDepth 100000

theorem within_any (n a b : Int) (w : World) : Calls Tryz.prog 68 #[.int .i64 n, .int .i64 a, .int .i64 b] w fun e w' => e = .returned (.bool (wi n a b)) ∧ w' = w := by
  unfold wi
  by_cases h : a ≤ n
  · go_enter Tryz.func68, Tryz.ntmps68
    go_wp2_with fail
    go_ret
    exact ⟨by simp [h], rfl⟩
  · go_enter Tryz.func68, Tryz.ntmps68
    go_wp2_with fail
    go_ret
    exact ⟨by simp; omega, rfl⟩

theorem poolMay_any (p : Pool) (w : World) (hk : p.k ≤ 9223372036854775807) : Calls Tryz.prog 51 #[vP p] w fun e w' => e = .returned (.bool (poolB p)) ∧ Below w.heap.size w w' := by
  obtain ⟨k, m, g, d⟩ := p
  unfold vP poolB
  dsimp only at hk ⊢
  have hW := fun n a b W => within_any n a b W
  have b0 := fun x => al w x
  by_cases h1 : 1 ≤ k
  · have hsub : IntKind.i64.wrap (32 - k) = 32 - k := by rw [IntKind.wrap_i64]; omega
    clear hk
    go_enter Tryz.func51, Tryz.ntmps51
    go_wp2_with (go_at_call 68; refine (hW _ _ _ _).mono ?_; rintro e w1 ⟨rfl, rfl⟩)
    all_goals clear hW
    all_goals (go_ret; exact ⟨by simp_all, b0 _⟩)
  · go_enter Tryz.func51, Tryz.ntmps51
    go_wp2_with fail
    go_ret
    exact ⟨by simp; omega, b0 _⟩

theorem osdMay_any (o : Osd) (w : World) : Calls Tryz.prog 96 #[vO o] w fun e w' => e = .returned (.bool (osdB o)) ∧ Below w.heap.size w w' := by
  obtain ⟨id, up, inn, wt, life, boot, host, rack⟩ := o
  unfold vO osdB least
  dsimp only
  have hW := fun n a b W => within_any n a b W
  have b0 := fun x => al w x
  cases up with
  | true =>
    go_enter Tryz.func96, Tryz.ntmps96
    go_wp2_with (go_at_call 68; refine (hW _ _ _ _).mono ?_; rintro e w1 ⟨rfl, rfl⟩)
    all_goals clear hW
    all_goals (go_ret; exact ⟨by simp_all, b0 _⟩)
  | false =>
    go_enter Tryz.func96, Tryz.ntmps96
    go_wp2_with (go_at_call 68; refine (hW _ _ _ _).mono ?_; rintro e w1 ⟨rfl, rfl⟩)
    all_goals clear hW
    all_goals (go_ret; exact ⟨by simp_all, b0 _⟩)

/- The document's. -/
theorem rwithin_any (n a b : Int) (w : World) : Calls Tryz.prog 35 #[.int .i64 n, .int .i64 a, .int .i64 b] w fun e w' => e = .returned (.bool (wi n a b)) ∧ w' = w := by
  unfold wi
  by_cases h : a ≤ n
  · go_enter Tryz.func35, Tryz.ntmps35
    go_wp2_with fail
    go_ret
    exact ⟨by simp [h], rfl⟩
  · go_enter Tryz.func35, Tryz.ntmps35
    go_wp2_with fail
    go_ret
    exact ⟨by simp; omega, rfl⟩

theorem rpool_any (p : Pool) (w : World) : Calls Tryz.prog 18 #[vP p] w fun e w' => e = .returned (.bool (poolB p)) ∧ Below w.heap.size w w' := by
  obtain ⟨k, m, g, d⟩ := p
  have hE : poolB ⟨k, m, g, d⟩ = (wi k 1 32 && wi m 1 32 && decide (k + m ≤ 32) && wi g 1 32 && wi d 0 2) := by
    unfold poolB
    dsimp only
    congr 2
    rw [Bool.eq_iff_iff]
    simp only [Bool.and_eq_true, decide_eq_true_eq, wi_iff]
    omega
  rw [hE]
  clear hE
  unfold vP
  dsimp only
  have hW := fun n a b W => rwithin_any n a b W
  have b0 := fun x => al w x
  by_cases h : (1 ≤ k ∧ k ≤ 32) ∧ 1 ≤ m ∧ m ≤ 32
  · have hk : wi k 1 32 = true := (wi_iff _ _ _).2 h.1
    have hm : wi m 1 32 = true := (wi_iff _ _ _).2 h.2
    have hadd : IntKind.i64.wrap (k + m) = k + m := by rw [IntKind.wrap_i64]; omega
    have H : Hid (wi k 1 32 = true ∧ wi m 1 32 = true) := ⟨hk, hm⟩
    clear h
    go_enter Tryz.func18, Tryz.ntmps18
    go_wp2_with (go_at_call 35; refine (hW _ _ _ _).mono ?_; rintro e w1 ⟨rfl, rfl⟩)
    all_goals clear hW
    all_goals (go_ret; exact ⟨by obtain ⟨h1, h2⟩ := H.out; clear H; first | (simp_all; done) | (simp_all; omega), b0 _⟩)
  · have H : Hid (¬ (wi k 1 32 = true ∧ wi m 1 32 = true)) := fun e => h ⟨(wi_iff _ _ _).1 e.1, (wi_iff _ _ _).1 e.2⟩
    clear h
    go_enter Tryz.func18, Tryz.ntmps18
    go_wp2_with (go_at_call 35; refine (hW _ _ _ _).mono ?_; rintro e w1 ⟨rfl, rfl⟩)
    all_goals clear hW
    all_goals first
      | (exfalso; exact H.out ⟨by assumption, by assumption⟩)
      | (go_ret; exact ⟨by simp_all, b0 _⟩)

theorem rosd_any (o : Osd) (w : World) : Calls Tryz.prog 42 #[vO o] w fun e w' => e = .returned (.bool (osdB o)) ∧ Below w.heap.size w w' := by
  obtain ⟨id, up, inn, wt, life, boot, host, rack⟩ := o
  have hE : osdB ⟨id, up, inn, wt, life, boot, host, rack⟩ = (wi id 0 999 && wi host 0 999 && wi rack 0 999 && wi wt 0 16777216 && wi life 0 2147483647 && wi boot 0 2147483647 && (!up || (decide (0 < life) && decide (0 < boot)))) := by
    unfold osdB least
    dsimp only
    rw [Bool.eq_iff_iff]
    cases up
    · simp only [Bool.and_eq_true, decide_eq_true_eq, wi_iff, Bool.not_false, Bool.true_or, and_true]
      simp
    · simp only [Bool.and_eq_true, decide_eq_true_eq, wi_iff, Bool.not_true, Bool.false_or]
      simp
      omega
  rw [hE]
  clear hE
  unfold vO
  dsimp only
  have hW := fun n a b W => rwithin_any n a b W
  have b0 := fun x => al w x
  cases up with
  | true =>
    go_enter Tryz.func42, Tryz.ntmps42
    go_wp2_with (go_at_call 35; refine (hW _ _ _ _).mono ?_; rintro e w1 ⟨rfl, rfl⟩)
    all_goals clear hW
    all_goals (go_ret; exact ⟨by first | (simp_all; done) | (simp_all; omega), b0 _⟩)
  | false =>
    go_enter Tryz.func42, Tryz.ntmps42
    go_wp2_with (go_at_call 35; refine (hW _ _ _ _).mono ?_; rintro e w1 ⟨rfl, rfl⟩)
    all_goals clear hW
    all_goals (go_ret; exact ⟨by simp_all, b0 _⟩)

def errB (b : Bool) : Int := if b then 0 else 1

end Go.Proofs.YtdlajpjigddbhaaGreat.At

/-
  Package atlas: which changes may be.
  Conditions: none.
-/
namespace Go.Proofs.YtdlajpjigddbhaaGreat.At
open Go.RowKit By Fl
set_option linter.unusedVariables false
set_option linter.unusedSimpArgs false
set_option maxRecDepth 100000

theorem wi_z (b : Int) (h : 0 ≤ b) : wi 0 0 b = true := (wi_iff _ _ _).2 ⟨by omega, h⟩

theorem upMay_any (o : Osd) (w : World) : Calls Tryz.prog 98 #[vO o] w fun e w' => e = .returned (.bool (upB o)) ∧ Below w.heap.size w w' := by
  have hE := fun W => eq_osd o ⟨o.id, false, false, 0, o.life, o.boot, 0, 0⟩ W
  have hO := fun W => osdMay_any ⟨o.id, true, false, 0, o.life, o.boot, 0, 0⟩ W
  have hX : osdB ⟨o.id, true, false, 0, o.life, o.boot, 0, 0⟩ = (wi o.id 0 999 && wi o.life 1 2147483647 && wi o.boot 1 2147483647) := by
    unfold osdB least
    dsimp only
    rw [wi_z 999 (by omega), wi_z 16777216 (by omega)]
    simp
  unfold upB
  rw [hX] at hO
  generalize (wi o.id 0 999 && wi o.life 1 2147483647 && wi o.boot 1 2147483647) = t2 at *
  generalize eqO o ⟨o.id, false, false, 0, o.life, o.boot, 0, 0⟩ = t1 at *
  clear hX
  obtain ⟨i, up, inn, wt, life, boot, host, rack⟩ := o
  unfold vO at hE hO ⊢
  dsimp only at hE hO ⊢
  have b0 := al w (.cells #[.int .i64 i, .bool up, .bool inn, .int .i64 wt, .int .i64 life, .int .i64 boot, .int .i64 host, .int .i64 rack] 35)
  cases t1 with
  | false =>
    go_enter Tryz.func98, Tryz.ntmps98
    go_wp2_with fail
    go_ret
    exact ⟨rfl, b0⟩
  | true =>
    go_enter Tryz.func98, Tryz.ntmps98
    go_wp2_with (go_at_call 96; refine (hO _).mono ?_; rintro e w2 ⟨rfl, hb2⟩)
    go_ret
    exact ⟨rfl, on b0 hb2⟩

theorem idMay_any (o : Osd) (w : World) : Calls Tryz.prog 100 #[vO o] w fun e w' => e = .returned (.bool (idB o)) ∧ Below w.heap.size w w' := by
  have hE := fun W => eq_osd o (noO o.id) W
  have hO := fun W => osdMay_any o W
  have hX : eqO o (noO o.id) = true → osdB o = wi o.id 0 999 := fun h => by
    rw [eqO_iff] at h
    rw [h]
    unfold osdB least noO
    dsimp only
    rw [wi_z 999 (by omega), wi_z 16777216 (by omega)]
    simp [wi]
  unfold idB
  generalize wi o.id 0 999 = t2 at *
  generalize eqO o (noO o.id) = t1 at *
  unfold noO at hE
  obtain ⟨i, up, inn, wt, life, boot, host, rack⟩ := o
  unfold vO at hE hO ⊢
  dsimp only at hE hO ⊢
  have b0 := al w (.cells #[.int .i64 i, .bool up, .bool inn, .int .i64 wt, .int .i64 life, .int .i64 boot, .int .i64 host, .int .i64 rack] 35)
  cases t1 with
  | false =>
    clear hX
    go_enter Tryz.func100, Tryz.ntmps100
    go_wp2_with fail
    go_ret
    exact ⟨rfl, b0⟩
  | true =>
    rw [hX rfl] at hO
    clear hX
    go_enter Tryz.func100, Tryz.ntmps100
    go_wp2_with (go_at_call 96; refine (hO _).mono ?_; rintro e w2 ⟨rfl, hb2⟩)
    go_ret
    exact ⟨rfl, on b0 hb2⟩

theorem weightMay_any (o : Osd) (w : World) : Calls Tryz.prog 104 #[vO o] w fun e w' => e = .returned (.bool (wtB o)) ∧ Below w.heap.size w w' := by
  have hE := fun W => eq_osd o ⟨o.id, false, false, o.wt, 0, 0, 0, 0⟩ W
  have hO := fun W => osdMay_any o W
  have hX : eqO o ⟨o.id, false, false, o.wt, 0, 0, 0, 0⟩ = true → osdB o = (wi o.id 0 999 && wi o.wt 0 16777216) := fun h => by
    rw [eqO_iff] at h
    rw [h]
    unfold osdB least
    dsimp only
    rw [wi_z 999 (by omega)]
    simp [wi]
  unfold wtB
  generalize (wi o.id 0 999 && wi o.wt 0 16777216) = t2 at *
  generalize eqO o ⟨o.id, false, false, o.wt, 0, 0, 0, 0⟩ = t1 at *
  obtain ⟨i, up, inn, wt, life, boot, host, rack⟩ := o
  unfold vO at hE hO ⊢
  dsimp only at hE hO ⊢
  have b0 := al w (.cells #[.int .i64 i, .bool up, .bool inn, .int .i64 wt, .int .i64 life, .int .i64 boot, .int .i64 host, .int .i64 rack] 35)
  cases t1 with
  | false =>
    clear hX
    go_enter Tryz.func104, Tryz.ntmps104
    go_wp2_with fail
    go_ret
    exact ⟨rfl, b0⟩
  | true =>
    rw [hX rfl] at hO
    clear hX
    go_enter Tryz.func104, Tryz.ntmps104
    go_wp2_with (go_at_call 96; refine (hO _).mono ?_; rintro e w2 ⟨rfl, hb2⟩)
    go_ret
    exact ⟨rfl, on b0 hb2⟩

end Go.Proofs.YtdlajpjigddbhaaGreat.At

/-
  Package atlas: CheckChange.
  Conditions: none.
-/
namespace Go.Proofs.YtdlajpjigddbhaaGreat.At
open Go.RowKit By Fl
set_option linter.unusedVariables false
set_option linter.unusedSimpArgs false
set_option maxRecDepth 100000

theorem kind_cases {k : Int} (h : wi k 1 6 = true) : k = 1 ∨ k = 2 ∨ k = 3 ∨ k = 4 ∨ k = 5 ∨ k = 6 := by
  rw [wi_iff] at h
  omega

theorem checkChange_no (k : Int) (o : Osd) (hk : wi k 1 6 = false) (w : World) : Calls Tryz.prog 54 #[vC ⟨k, o⟩] w fun e w' => e = .returned (.int .i64 1) ∧ Below w.heap.size w w' := by
  have hW := fun W => within_any k 1 6 W
  rw [hk] at hW
  obtain ⟨i, up, inn, wt, life, boot, host, rack⟩ := o
  unfold vC
  dsimp only
  have b0 := al w (.cells #[.int .i64 k, .int .i64 i, .bool up, .bool inn, .int .i64 wt, .int .i64 life, .int .i64 boot, .int .i64 host, .int .i64 rack] 37)
  obtain ⟨w0, hw0⟩ : ∃ w0, w0 = w.alloc (.cells #[.int .i64 k, .int .i64 i, .bool up, .bool inn, .int .i64 wt, .int .i64 life, .int .i64 boot, .int .i64 host, .int .i64 rack] 37) := ⟨_, rfl⟩
  have c0 : w0.cell? ⟨w.heap.size, 0, none⟩ = some (.int .i64 k) := by rw [hw0]; go_simp
  have q0 := After.cell c0
  haveI := After.ne w0
  have HW := hid hw0
  rw [← hw0] at b0
  clear hw0 c0 hk
  go_enter Tryz.func54, Tryz.ntmps54
  go_wp2_with fail
  rw [← HW.out]
  refine wp_region_after (by kernel_rfl) (by kernel_rfl) ?_
  repeat (go_big_quiet_step ((go_at_call 68; refine Calls.after_same (hW _))))
  refine wpQuiet_nil ?_
  rintro _ ⟨p, rfl⟩
  go_wp2_with fail
  go_ret
  exact ⟨rfl, on b0 p.h⟩

theorem checkChange_1 (o : Osd) (w : World) : Calls Tryz.prog 54 #[vC ⟨1, o⟩] w fun e w' => e = .returned (.int .i64 (errB (osdB o))) ∧ Below w.heap.size w w' := by
  have hW := fun W => within_any 1 1 6 W
  rw [show wi 1 1 6 = true from rfl] at hW
  have hK := fun W => kinds_any W
  have hI : ∀ W : World, (Instr.index 128 (.agg kindsV) (.int .i64 1)).run Tryz.prog W = .ok (.agg #[fn 96, fn 97]) W := fun _ => by kernel_rfl
  have hF : ∀ W : World, (Instr.field 127 (.agg #[fn 96, fn 97]) 0).run Tryz.prog W = .ok (fn 96) W := fun _ => by kernel_rfl
  unfold kindsV fn at hK hI
  unfold fn at hF
  have hO := fun W => osdMay_any o W
  generalize osdB o = t at *
  obtain ⟨i, up, inn, wt, life, boot, host, rack⟩ := o
  unfold vC
  unfold vO at hO
  dsimp only at hO ⊢
  have b0 := al w (.cells #[.int .i64 1, .int .i64 i, .bool up, .bool inn, .int .i64 wt, .int .i64 life, .int .i64 boot, .int .i64 host, .int .i64 rack] 37)
  obtain ⟨w0, hw0⟩ : ∃ w0, w0 = w.alloc (.cells #[.int .i64 1, .int .i64 i, .bool up, .bool inn, .int .i64 wt, .int .i64 life, .int .i64 boot, .int .i64 host, .int .i64 rack] 37) := ⟨_, rfl⟩
  have c0 : w0.cell? ⟨w.heap.size, 0, none⟩ = some (.int .i64 1) := by rw [hw0]; go_simp
  have c1 : w0.cell? ⟨w.heap.size, 1, none⟩ = some (.int .i64 i) := by rw [hw0]; go_simp
  have c2 : w0.cell? ⟨w.heap.size, 2, none⟩ = some (.bool up) := by rw [hw0]; go_simp
  have c3 : w0.cell? ⟨w.heap.size, 3, none⟩ = some (.bool inn) := by rw [hw0]; go_simp
  have c4 : w0.cell? ⟨w.heap.size, 4, none⟩ = some (.int .i64 wt) := by rw [hw0]; go_simp
  have c5 : w0.cell? ⟨w.heap.size, 5, none⟩ = some (.int .i64 life) := by rw [hw0]; go_simp
  have c6 : w0.cell? ⟨w.heap.size, 6, none⟩ = some (.int .i64 boot) := by rw [hw0]; go_simp
  have c7 : w0.cell? ⟨w.heap.size, 7, none⟩ = some (.int .i64 host) := by rw [hw0]; go_simp
  have c8 : w0.cell? ⟨w.heap.size, 8, none⟩ = some (.int .i64 rack) := by rw [hw0]; go_simp
  have q0 := After.cell c0
  have q1 := After.cell c1
  have q2 := After.cell c2
  have q3 := After.cell c3
  have q4 := After.cell c4
  have q5 := After.cell c5
  have q6 := After.cell c6
  have q7 := After.cell c7
  have q8 := After.cell c8
  haveI := After.ne w0
  have HW := hid hw0
  rw [← hw0] at b0
  clear hw0 c0 c1 c2 c3 c4 c5 c6 c7 c8
  go_enter Tryz.func54, Tryz.ntmps54
  go_wp2_with fail
  rw [← HW.out]
  cases t with
  | true =>
    refine wp_region_after (by kernel_rfl) (by kernel_rfl) ?_
    repeat (go_big_quiet_step ((first | (go_at_call 68; refine Calls.after_same (hW _)) | (go_at_call 70; refine Calls.after_of (hK _)) | (go_at_call 96; refine Calls.after_of (hO _)))))
    refine wpQuiet_nil ?_
    rintro _ ⟨p, rfl⟩
    go_wp2_with fail
    go_ret
    exact ⟨rfl, on b0 p.h⟩
  | false =>
    refine wp_region_after (by kernel_rfl) (by kernel_rfl) ?_
    repeat (go_big_quiet_step ((first | (go_at_call 68; refine Calls.after_same (hW _)) | (go_at_call 70; refine Calls.after_of (hK _)) | (go_at_call 96; refine Calls.after_of (hO _)))))
    refine wpQuiet_nil ?_
    rintro _ ⟨p, rfl⟩
    go_wp2_with fail
    go_ret
    exact ⟨rfl, on b0 p.h⟩

theorem checkChange_2 (o : Osd) (w : World) : Calls Tryz.prog 54 #[vC ⟨2, o⟩] w fun e w' => e = .returned (.int .i64 (errB (upB o))) ∧ Below w.heap.size w w' := by
  have hW := fun W => within_any 2 1 6 W
  rw [show wi 2 1 6 = true from rfl] at hW
  have hK := fun W => kinds_any W
  have hI : ∀ W : World, (Instr.index 128 (.agg kindsV) (.int .i64 2)).run Tryz.prog W = .ok (.agg #[fn 98, fn 99]) W := fun _ => by kernel_rfl
  have hF : ∀ W : World, (Instr.field 127 (.agg #[fn 98, fn 99]) 0).run Tryz.prog W = .ok (fn 98) W := fun _ => by kernel_rfl
  unfold kindsV fn at hK hI
  unfold fn at hF
  have hO := fun W => upMay_any o W
  generalize upB o = t at *
  obtain ⟨i, up, inn, wt, life, boot, host, rack⟩ := o
  unfold vC
  unfold vO at hO
  dsimp only at hO ⊢
  have b0 := al w (.cells #[.int .i64 2, .int .i64 i, .bool up, .bool inn, .int .i64 wt, .int .i64 life, .int .i64 boot, .int .i64 host, .int .i64 rack] 37)
  obtain ⟨w0, hw0⟩ : ∃ w0, w0 = w.alloc (.cells #[.int .i64 2, .int .i64 i, .bool up, .bool inn, .int .i64 wt, .int .i64 life, .int .i64 boot, .int .i64 host, .int .i64 rack] 37) := ⟨_, rfl⟩
  have c0 : w0.cell? ⟨w.heap.size, 0, none⟩ = some (.int .i64 2) := by rw [hw0]; go_simp
  have c1 : w0.cell? ⟨w.heap.size, 1, none⟩ = some (.int .i64 i) := by rw [hw0]; go_simp
  have c2 : w0.cell? ⟨w.heap.size, 2, none⟩ = some (.bool up) := by rw [hw0]; go_simp
  have c3 : w0.cell? ⟨w.heap.size, 3, none⟩ = some (.bool inn) := by rw [hw0]; go_simp
  have c4 : w0.cell? ⟨w.heap.size, 4, none⟩ = some (.int .i64 wt) := by rw [hw0]; go_simp
  have c5 : w0.cell? ⟨w.heap.size, 5, none⟩ = some (.int .i64 life) := by rw [hw0]; go_simp
  have c6 : w0.cell? ⟨w.heap.size, 6, none⟩ = some (.int .i64 boot) := by rw [hw0]; go_simp
  have c7 : w0.cell? ⟨w.heap.size, 7, none⟩ = some (.int .i64 host) := by rw [hw0]; go_simp
  have c8 : w0.cell? ⟨w.heap.size, 8, none⟩ = some (.int .i64 rack) := by rw [hw0]; go_simp
  have q0 := After.cell c0
  have q1 := After.cell c1
  have q2 := After.cell c2
  have q3 := After.cell c3
  have q4 := After.cell c4
  have q5 := After.cell c5
  have q6 := After.cell c6
  have q7 := After.cell c7
  have q8 := After.cell c8
  haveI := After.ne w0
  have HW := hid hw0
  rw [← hw0] at b0
  clear hw0 c0 c1 c2 c3 c4 c5 c6 c7 c8
  go_enter Tryz.func54, Tryz.ntmps54
  go_wp2_with fail
  rw [← HW.out]
  cases t with
  | true =>
    refine wp_region_after (by kernel_rfl) (by kernel_rfl) ?_
    repeat (go_big_quiet_step ((first | (go_at_call 68; refine Calls.after_same (hW _)) | (go_at_call 70; refine Calls.after_of (hK _)) | (go_at_call 98; refine Calls.after_of (hO _)))))
    refine wpQuiet_nil ?_
    rintro _ ⟨p, rfl⟩
    go_wp2_with fail
    go_ret
    exact ⟨rfl, on b0 p.h⟩
  | false =>
    refine wp_region_after (by kernel_rfl) (by kernel_rfl) ?_
    repeat (go_big_quiet_step ((first | (go_at_call 68; refine Calls.after_same (hW _)) | (go_at_call 70; refine Calls.after_of (hK _)) | (go_at_call 98; refine Calls.after_of (hO _)))))
    refine wpQuiet_nil ?_
    rintro _ ⟨p, rfl⟩
    go_wp2_with fail
    go_ret
    exact ⟨rfl, on b0 p.h⟩

theorem checkChange_3 (o : Osd) (w : World) : Calls Tryz.prog 54 #[vC ⟨3, o⟩] w fun e w' => e = .returned (.int .i64 (errB (idB o))) ∧ Below w.heap.size w w' := by
  have hW := fun W => within_any 3 1 6 W
  rw [show wi 3 1 6 = true from rfl] at hW
  have hK := fun W => kinds_any W
  have hI : ∀ W : World, (Instr.index 128 (.agg kindsV) (.int .i64 3)).run Tryz.prog W = .ok (.agg #[fn 100, fn 101]) W := fun _ => by kernel_rfl
  have hF : ∀ W : World, (Instr.field 127 (.agg #[fn 100, fn 101]) 0).run Tryz.prog W = .ok (fn 100) W := fun _ => by kernel_rfl
  unfold kindsV fn at hK hI
  unfold fn at hF
  have hO := fun W => idMay_any o W
  generalize idB o = t at *
  obtain ⟨i, up, inn, wt, life, boot, host, rack⟩ := o
  unfold vC
  unfold vO at hO
  dsimp only at hO ⊢
  have b0 := al w (.cells #[.int .i64 3, .int .i64 i, .bool up, .bool inn, .int .i64 wt, .int .i64 life, .int .i64 boot, .int .i64 host, .int .i64 rack] 37)
  obtain ⟨w0, hw0⟩ : ∃ w0, w0 = w.alloc (.cells #[.int .i64 3, .int .i64 i, .bool up, .bool inn, .int .i64 wt, .int .i64 life, .int .i64 boot, .int .i64 host, .int .i64 rack] 37) := ⟨_, rfl⟩
  have c0 : w0.cell? ⟨w.heap.size, 0, none⟩ = some (.int .i64 3) := by rw [hw0]; go_simp
  have c1 : w0.cell? ⟨w.heap.size, 1, none⟩ = some (.int .i64 i) := by rw [hw0]; go_simp
  have c2 : w0.cell? ⟨w.heap.size, 2, none⟩ = some (.bool up) := by rw [hw0]; go_simp
  have c3 : w0.cell? ⟨w.heap.size, 3, none⟩ = some (.bool inn) := by rw [hw0]; go_simp
  have c4 : w0.cell? ⟨w.heap.size, 4, none⟩ = some (.int .i64 wt) := by rw [hw0]; go_simp
  have c5 : w0.cell? ⟨w.heap.size, 5, none⟩ = some (.int .i64 life) := by rw [hw0]; go_simp
  have c6 : w0.cell? ⟨w.heap.size, 6, none⟩ = some (.int .i64 boot) := by rw [hw0]; go_simp
  have c7 : w0.cell? ⟨w.heap.size, 7, none⟩ = some (.int .i64 host) := by rw [hw0]; go_simp
  have c8 : w0.cell? ⟨w.heap.size, 8, none⟩ = some (.int .i64 rack) := by rw [hw0]; go_simp
  have q0 := After.cell c0
  have q1 := After.cell c1
  have q2 := After.cell c2
  have q3 := After.cell c3
  have q4 := After.cell c4
  have q5 := After.cell c5
  have q6 := After.cell c6
  have q7 := After.cell c7
  have q8 := After.cell c8
  haveI := After.ne w0
  have HW := hid hw0
  rw [← hw0] at b0
  clear hw0 c0 c1 c2 c3 c4 c5 c6 c7 c8
  go_enter Tryz.func54, Tryz.ntmps54
  go_wp2_with fail
  rw [← HW.out]
  cases t with
  | true =>
    refine wp_region_after (by kernel_rfl) (by kernel_rfl) ?_
    repeat (go_big_quiet_step ((first | (go_at_call 68; refine Calls.after_same (hW _)) | (go_at_call 70; refine Calls.after_of (hK _)) | (go_at_call 100; refine Calls.after_of (hO _)))))
    refine wpQuiet_nil ?_
    rintro _ ⟨p, rfl⟩
    go_wp2_with fail
    go_ret
    exact ⟨rfl, on b0 p.h⟩
  | false =>
    refine wp_region_after (by kernel_rfl) (by kernel_rfl) ?_
    repeat (go_big_quiet_step ((first | (go_at_call 68; refine Calls.after_same (hW _)) | (go_at_call 70; refine Calls.after_of (hK _)) | (go_at_call 100; refine Calls.after_of (hO _)))))
    refine wpQuiet_nil ?_
    rintro _ ⟨p, rfl⟩
    go_wp2_with fail
    go_ret
    exact ⟨rfl, on b0 p.h⟩

theorem checkChange_4 (o : Osd) (w : World) : Calls Tryz.prog 54 #[vC ⟨4, o⟩] w fun e w' => e = .returned (.int .i64 (errB (idB o))) ∧ Below w.heap.size w w' := by
  have hW := fun W => within_any 4 1 6 W
  rw [show wi 4 1 6 = true from rfl] at hW
  have hK := fun W => kinds_any W
  have hI : ∀ W : World, (Instr.index 128 (.agg kindsV) (.int .i64 4)).run Tryz.prog W = .ok (.agg #[fn 100, fn 102]) W := fun _ => by kernel_rfl
  have hF : ∀ W : World, (Instr.field 127 (.agg #[fn 100, fn 102]) 0).run Tryz.prog W = .ok (fn 100) W := fun _ => by kernel_rfl
  unfold kindsV fn at hK hI
  unfold fn at hF
  have hO := fun W => idMay_any o W
  generalize idB o = t at *
  obtain ⟨i, up, inn, wt, life, boot, host, rack⟩ := o
  unfold vC
  unfold vO at hO
  dsimp only at hO ⊢
  have b0 := al w (.cells #[.int .i64 4, .int .i64 i, .bool up, .bool inn, .int .i64 wt, .int .i64 life, .int .i64 boot, .int .i64 host, .int .i64 rack] 37)
  obtain ⟨w0, hw0⟩ : ∃ w0, w0 = w.alloc (.cells #[.int .i64 4, .int .i64 i, .bool up, .bool inn, .int .i64 wt, .int .i64 life, .int .i64 boot, .int .i64 host, .int .i64 rack] 37) := ⟨_, rfl⟩
  have c0 : w0.cell? ⟨w.heap.size, 0, none⟩ = some (.int .i64 4) := by rw [hw0]; go_simp
  have c1 : w0.cell? ⟨w.heap.size, 1, none⟩ = some (.int .i64 i) := by rw [hw0]; go_simp
  have c2 : w0.cell? ⟨w.heap.size, 2, none⟩ = some (.bool up) := by rw [hw0]; go_simp
  have c3 : w0.cell? ⟨w.heap.size, 3, none⟩ = some (.bool inn) := by rw [hw0]; go_simp
  have c4 : w0.cell? ⟨w.heap.size, 4, none⟩ = some (.int .i64 wt) := by rw [hw0]; go_simp
  have c5 : w0.cell? ⟨w.heap.size, 5, none⟩ = some (.int .i64 life) := by rw [hw0]; go_simp
  have c6 : w0.cell? ⟨w.heap.size, 6, none⟩ = some (.int .i64 boot) := by rw [hw0]; go_simp
  have c7 : w0.cell? ⟨w.heap.size, 7, none⟩ = some (.int .i64 host) := by rw [hw0]; go_simp
  have c8 : w0.cell? ⟨w.heap.size, 8, none⟩ = some (.int .i64 rack) := by rw [hw0]; go_simp
  have q0 := After.cell c0
  have q1 := After.cell c1
  have q2 := After.cell c2
  have q3 := After.cell c3
  have q4 := After.cell c4
  have q5 := After.cell c5
  have q6 := After.cell c6
  have q7 := After.cell c7
  have q8 := After.cell c8
  haveI := After.ne w0
  have HW := hid hw0
  rw [← hw0] at b0
  clear hw0 c0 c1 c2 c3 c4 c5 c6 c7 c8
  go_enter Tryz.func54, Tryz.ntmps54
  go_wp2_with fail
  rw [← HW.out]
  cases t with
  | true =>
    refine wp_region_after (by kernel_rfl) (by kernel_rfl) ?_
    repeat (go_big_quiet_step ((first | (go_at_call 68; refine Calls.after_same (hW _)) | (go_at_call 70; refine Calls.after_of (hK _)) | (go_at_call 100; refine Calls.after_of (hO _)))))
    refine wpQuiet_nil ?_
    rintro _ ⟨p, rfl⟩
    go_wp2_with fail
    go_ret
    exact ⟨rfl, on b0 p.h⟩
  | false =>
    refine wp_region_after (by kernel_rfl) (by kernel_rfl) ?_
    repeat (go_big_quiet_step ((first | (go_at_call 68; refine Calls.after_same (hW _)) | (go_at_call 70; refine Calls.after_of (hK _)) | (go_at_call 100; refine Calls.after_of (hO _)))))
    refine wpQuiet_nil ?_
    rintro _ ⟨p, rfl⟩
    go_wp2_with fail
    go_ret
    exact ⟨rfl, on b0 p.h⟩

theorem checkChange_5 (o : Osd) (w : World) : Calls Tryz.prog 54 #[vC ⟨5, o⟩] w fun e w' => e = .returned (.int .i64 (errB (idB o))) ∧ Below w.heap.size w w' := by
  have hW := fun W => within_any 5 1 6 W
  rw [show wi 5 1 6 = true from rfl] at hW
  have hK := fun W => kinds_any W
  have hI : ∀ W : World, (Instr.index 128 (.agg kindsV) (.int .i64 5)).run Tryz.prog W = .ok (.agg #[fn 100, fn 103]) W := fun _ => by kernel_rfl
  have hF : ∀ W : World, (Instr.field 127 (.agg #[fn 100, fn 103]) 0).run Tryz.prog W = .ok (fn 100) W := fun _ => by kernel_rfl
  unfold kindsV fn at hK hI
  unfold fn at hF
  have hO := fun W => idMay_any o W
  generalize idB o = t at *
  obtain ⟨i, up, inn, wt, life, boot, host, rack⟩ := o
  unfold vC
  unfold vO at hO
  dsimp only at hO ⊢
  have b0 := al w (.cells #[.int .i64 5, .int .i64 i, .bool up, .bool inn, .int .i64 wt, .int .i64 life, .int .i64 boot, .int .i64 host, .int .i64 rack] 37)
  obtain ⟨w0, hw0⟩ : ∃ w0, w0 = w.alloc (.cells #[.int .i64 5, .int .i64 i, .bool up, .bool inn, .int .i64 wt, .int .i64 life, .int .i64 boot, .int .i64 host, .int .i64 rack] 37) := ⟨_, rfl⟩
  have c0 : w0.cell? ⟨w.heap.size, 0, none⟩ = some (.int .i64 5) := by rw [hw0]; go_simp
  have c1 : w0.cell? ⟨w.heap.size, 1, none⟩ = some (.int .i64 i) := by rw [hw0]; go_simp
  have c2 : w0.cell? ⟨w.heap.size, 2, none⟩ = some (.bool up) := by rw [hw0]; go_simp
  have c3 : w0.cell? ⟨w.heap.size, 3, none⟩ = some (.bool inn) := by rw [hw0]; go_simp
  have c4 : w0.cell? ⟨w.heap.size, 4, none⟩ = some (.int .i64 wt) := by rw [hw0]; go_simp
  have c5 : w0.cell? ⟨w.heap.size, 5, none⟩ = some (.int .i64 life) := by rw [hw0]; go_simp
  have c6 : w0.cell? ⟨w.heap.size, 6, none⟩ = some (.int .i64 boot) := by rw [hw0]; go_simp
  have c7 : w0.cell? ⟨w.heap.size, 7, none⟩ = some (.int .i64 host) := by rw [hw0]; go_simp
  have c8 : w0.cell? ⟨w.heap.size, 8, none⟩ = some (.int .i64 rack) := by rw [hw0]; go_simp
  have q0 := After.cell c0
  have q1 := After.cell c1
  have q2 := After.cell c2
  have q3 := After.cell c3
  have q4 := After.cell c4
  have q5 := After.cell c5
  have q6 := After.cell c6
  have q7 := After.cell c7
  have q8 := After.cell c8
  haveI := After.ne w0
  have HW := hid hw0
  rw [← hw0] at b0
  clear hw0 c0 c1 c2 c3 c4 c5 c6 c7 c8
  go_enter Tryz.func54, Tryz.ntmps54
  go_wp2_with fail
  rw [← HW.out]
  cases t with
  | true =>
    refine wp_region_after (by kernel_rfl) (by kernel_rfl) ?_
    repeat (go_big_quiet_step ((first | (go_at_call 68; refine Calls.after_same (hW _)) | (go_at_call 70; refine Calls.after_of (hK _)) | (go_at_call 100; refine Calls.after_of (hO _)))))
    refine wpQuiet_nil ?_
    rintro _ ⟨p, rfl⟩
    go_wp2_with fail
    go_ret
    exact ⟨rfl, on b0 p.h⟩
  | false =>
    refine wp_region_after (by kernel_rfl) (by kernel_rfl) ?_
    repeat (go_big_quiet_step ((first | (go_at_call 68; refine Calls.after_same (hW _)) | (go_at_call 70; refine Calls.after_of (hK _)) | (go_at_call 100; refine Calls.after_of (hO _)))))
    refine wpQuiet_nil ?_
    rintro _ ⟨p, rfl⟩
    go_wp2_with fail
    go_ret
    exact ⟨rfl, on b0 p.h⟩

theorem checkChange_6 (o : Osd) (w : World) : Calls Tryz.prog 54 #[vC ⟨6, o⟩] w fun e w' => e = .returned (.int .i64 (errB (wtB o))) ∧ Below w.heap.size w w' := by
  have hW := fun W => within_any 6 1 6 W
  rw [show wi 6 1 6 = true from rfl] at hW
  have hK := fun W => kinds_any W
  have hI : ∀ W : World, (Instr.index 128 (.agg kindsV) (.int .i64 6)).run Tryz.prog W = .ok (.agg #[fn 104, fn 105]) W := fun _ => by kernel_rfl
  have hF : ∀ W : World, (Instr.field 127 (.agg #[fn 104, fn 105]) 0).run Tryz.prog W = .ok (fn 104) W := fun _ => by kernel_rfl
  unfold kindsV fn at hK hI
  unfold fn at hF
  have hO := fun W => weightMay_any o W
  generalize wtB o = t at *
  obtain ⟨i, up, inn, wt, life, boot, host, rack⟩ := o
  unfold vC
  unfold vO at hO
  dsimp only at hO ⊢
  have b0 := al w (.cells #[.int .i64 6, .int .i64 i, .bool up, .bool inn, .int .i64 wt, .int .i64 life, .int .i64 boot, .int .i64 host, .int .i64 rack] 37)
  obtain ⟨w0, hw0⟩ : ∃ w0, w0 = w.alloc (.cells #[.int .i64 6, .int .i64 i, .bool up, .bool inn, .int .i64 wt, .int .i64 life, .int .i64 boot, .int .i64 host, .int .i64 rack] 37) := ⟨_, rfl⟩
  have c0 : w0.cell? ⟨w.heap.size, 0, none⟩ = some (.int .i64 6) := by rw [hw0]; go_simp
  have c1 : w0.cell? ⟨w.heap.size, 1, none⟩ = some (.int .i64 i) := by rw [hw0]; go_simp
  have c2 : w0.cell? ⟨w.heap.size, 2, none⟩ = some (.bool up) := by rw [hw0]; go_simp
  have c3 : w0.cell? ⟨w.heap.size, 3, none⟩ = some (.bool inn) := by rw [hw0]; go_simp
  have c4 : w0.cell? ⟨w.heap.size, 4, none⟩ = some (.int .i64 wt) := by rw [hw0]; go_simp
  have c5 : w0.cell? ⟨w.heap.size, 5, none⟩ = some (.int .i64 life) := by rw [hw0]; go_simp
  have c6 : w0.cell? ⟨w.heap.size, 6, none⟩ = some (.int .i64 boot) := by rw [hw0]; go_simp
  have c7 : w0.cell? ⟨w.heap.size, 7, none⟩ = some (.int .i64 host) := by rw [hw0]; go_simp
  have c8 : w0.cell? ⟨w.heap.size, 8, none⟩ = some (.int .i64 rack) := by rw [hw0]; go_simp
  have q0 := After.cell c0
  have q1 := After.cell c1
  have q2 := After.cell c2
  have q3 := After.cell c3
  have q4 := After.cell c4
  have q5 := After.cell c5
  have q6 := After.cell c6
  have q7 := After.cell c7
  have q8 := After.cell c8
  haveI := After.ne w0
  have HW := hid hw0
  rw [← hw0] at b0
  clear hw0 c0 c1 c2 c3 c4 c5 c6 c7 c8
  go_enter Tryz.func54, Tryz.ntmps54
  go_wp2_with fail
  rw [← HW.out]
  cases t with
  | true =>
    refine wp_region_after (by kernel_rfl) (by kernel_rfl) ?_
    repeat (go_big_quiet_step ((first | (go_at_call 68; refine Calls.after_same (hW _)) | (go_at_call 70; refine Calls.after_of (hK _)) | (go_at_call 104; refine Calls.after_of (hO _)))))
    refine wpQuiet_nil ?_
    rintro _ ⟨p, rfl⟩
    go_wp2_with fail
    go_ret
    exact ⟨rfl, on b0 p.h⟩
  | false =>
    refine wp_region_after (by kernel_rfl) (by kernel_rfl) ?_
    repeat (go_big_quiet_step ((first | (go_at_call 68; refine Calls.after_same (hW _)) | (go_at_call 70; refine Calls.after_of (hK _)) | (go_at_call 104; refine Calls.after_of (hO _)))))
    refine wpQuiet_nil ?_
    rintro _ ⟨p, rfl⟩
    go_wp2_with fail
    go_ret
    exact ⟨rfl, on b0 p.h⟩

theorem checkChange_any (c : Ch) (w : World) : Calls Tryz.prog 54 #[vC c] w fun e w' => e = .returned (.int .i64 (errB (mayC c))) ∧ Below w.heap.size w w' := by
  obtain ⟨k, o⟩ := c
  cases h : wi k 1 6 with
  | false =>
    unfold mayC
    dsimp only
    rw [h]
    exact checkChange_no k o h w
  | true =>
    unfold mayC
    dsimp only
    rw [h, Bool.true_and]
    rcases kind_cases h with rfl | rfl | rfl | rfl | rfl | rfl
    · exact checkChange_1 o w
    · exact checkChange_2 o w
    · exact checkChange_3 o w
    · exact checkChange_4 o w
    · exact checkChange_5 o w
    · exact checkChange_6 o w

end Go.Proofs.YtdlajpjigddbhaaGreat.At
