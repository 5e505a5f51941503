/-
  2 texts of this proof, one behind the other: PlPrim, PlAwake.
-/
import Derived.Test.YtgfjmkjgagogpaaGreatJPlUp
import Derived.Test.YtgfjmkjgagogpaaGreatJNaHash
import Derived.Test.YtgfjmkjgagogpaaGreatPlLives
/-
  Package place: Primary and Whole.
  Conditions: the map lies in memory.
-/
namespace Go.Proofs.YtgfjmkjgagogpaaGreat.Pl
open Go.RowKit By Fl At Cr
set_option linter.unusedVariables false
set_option linter.unusedSimpArgs false
set_option maxRecDepth 100000

theorem prm_hole {l : List Int} (h : ∀ z ∈ l, z = -1) : prm l = -1 := by
  induction l with
  | nil => rfl
  | cons a l ih =>
    simp only [prm]
    rw [if_pos (h a (by simp))]
    exact ih fun z hz => h z (by simp [hz])

theorem prm_at {l : List Int} {k : Nat} {z : Int} (hk : l[k]? = some z) (hz : z ≠ -1) (h : prm (l.take k) = -1) : prm l = z := by
  induction l generalizing k with
  | nil => simp at hk
  | cons a l ih =>
    cases k with
    | zero =>
      simp at hk
      subst hk
      simp only [prm]
      rw [if_neg hz]
    | succ k =>
      simp only [List.take_succ_cons, prm] at h
      by_cases ha : a = -1
      · rw [if_pos ha] at h
        simp only [prm]
        rw [if_pos ha]
        exact ih (by simpa using hk) h
      · rw [if_neg ha] at h
        exact absurd h ha

set_option maxHeartbeats 1600000 in
theorem primary_any {w : World} {x : Option Addr} {n c : Nat} (m : Mp) (h : At.Os w x n c m.osds) (hk : m.pool.k ≤ 9223372036854775807) (pg : Int) :
    Calls Tryz.prog 17 #[vM m.ep m.pool x n c, .int .i64 pg] w fun e w' => e = .returned (.int .i64 (prm (actL m pg))) ∧ Below w.heap.size w w' := by
  obtain ⟨w0, hw0⟩ : ∃ w0, w0 = w.alloc (.cells #[.int .i64 m.ep, .int .i64 m.pool.k, .int .i64 m.pool.m, .int .i64 m.pool.pgs, .int .i64 m.pool.dom, .slice x n c] 31) := ⟨_, rfl⟩
  have b0 : Below w.heap.size w w0 := by rw [hw0]; exact al _ _
  have cA := acting_any m (h.below b0) hk pg
  have hln := upL_len m pg
  rw [← actL_len] at hln
  unfold UpSays at cA
  have HB := hid b0
  have HW := hid hw0
  rw [hw0] at cA
  unfold vM at cA ⊢
  clear h b0 hw0 hk
  generalize upE m pg = EE at *
  generalize actL m pg = LA at *
  go_enter Tryz.func17, Tryz.ntmps17
  go_wp2_with (go_at_call 13; refine cA.mono ?_; rintro e w1 ⟨x1, n1, c1, rfl, H1⟩; clear cA; rw [← HW.out] at H1)
  have hn1 := form_slice H1.out.2
  have hn32 : n1 ≤ 32 := by omega
  have HLn := hid hn1
  clear hn1 hln
  go_loop [17] (fun i => ∃ k : Nat, k ≤ n1 ∧ i = .int .i64 k ∧ Hid (prm (LA.take k) = -1)) (fun i => n1 - (intOf i).toNat)
  case atStart => exact ⟨0, by omega, rfl, rfl⟩
  case round =>
    obtain ⟨k, hk, rfl, HR⟩ := hrel
    by_cases hlt : k < n1
    · have hkn : (k : Int) < (n1 : Int) := by omega
      obtain ⟨z, hz⟩ : ∃ z, LA[k]? = some z := ⟨LA[k]'(by have := HLn.out; omega), List.getElem?_eq_getElem (by have := HLn.out; omega)⟩
      rcases (own_nu H1.out.2).row with q0 | ⟨lb, lo, rfl, hlb, hlc⟩
      · omega
      have d0 := hlc k z hz
      have HZ := hid hz
      clear hlc hz
      by_cases hh : z = -1
      · have e1 : (z != -1) = false := by simpa using hh
        have HH := hid hh
        clear hh
        go_wp2_with fail
        go_round
        case rel =>
          refine ⟨k + 1, by omega, by go_num, ?_⟩
          rw [List.take_add_one, HZ.out]
          show prm (LA.take k ++ [z]) = -1
          rw [prm_app, if_pos HR.out]
          exact HH.out
        case measure => simp [intOf]; omega
      · have e1 : (z != -1) = true := by simpa using hh
        have HH := hid hh
        clear hh
        go_wp2_with fail
        go_ret
        rw [prm_at HZ.out HH.out HR.out]
        exact ⟨rfl, on HB.out H1.out.1⟩
    · have hk2 : k = n1 := by omega
      subst hk2
      go_wp2_with fail
      go_ret
      have h2 := HR.out
      rw [List.take_of_length_le (by have := HLn.out; omega)] at h2
      rw [h2]
      exact ⟨rfl, on HB.out H1.out.1⟩

set_option maxHeartbeats 1600000 in
theorem whole_any {w : World} {x : Option Addr} {n c : Nat} (m : Mp) (h : At.Os w x n c m.osds) (hk : m.pool.k ≤ 9223372036854775807) (pg : Int) :
    Calls Tryz.prog 18 #[vM m.ep m.pool x n c, .int .i64 pg] w fun e w' => e = .returned (.bool (whB m pg)) ∧ Below w.heap.size w w' := by
  obtain ⟨w0, hw0⟩ : ∃ w0, w0 = w.alloc (.cells #[.int .i64 m.ep, .int .i64 m.pool.k, .int .i64 m.pool.m, .int .i64 m.pool.pgs, .int .i64 m.pool.dom, .slice x n c] 31) := ⟨_, rfl⟩
  have b0 : Below w.heap.size w w0 := by rw [hw0]; exact al _ _
  have cA := acting_any m (h.below b0) hk pg
  have hln := upL_len m pg
  rw [← actL_len] at hln
  unfold UpSays at cA
  have HB := hid b0
  have HW := hid hw0
  rw [hw0] at cA
  unfold whB
  have hE := fine_or m pg
  unfold vM at cA ⊢
  have hE2 : upE m pg = 0 ∨ upE m pg = 1 := by
    rcases hE with q | q
    · exact .inl q.err
    · exact .inr q.1
  clear h b0 hw0 hk hE
  generalize actL m pg = LA at *
  rcases hE2 with e0 | e0
  · rw [e0] at cA ⊢
    clear e0
    have HC : Hid (∀ (W : World) (x1 : Option Addr) (n1 c1 : Nat), Own W w0.heap.size 3 1 enI (.slice x1 n1 c1) LA → Calls Tryz.prog 31 #[.slice x1 n1 c1, .int .i64 (-1)] W fun e w' => e = .returned (.bool (decide (-1 ∈ LA))) ∧ w' = W) := fun W x1 n1 c1 ho => containsI_any (own_nu ho) (by rw [← form_slice ho]; omega) (-1)
    go_enter Tryz.func18, Tryz.ntmps18
    go_wp2_with (first
      | (go_at_call 13; refine cA.mono ?_; rintro e w1 ⟨x1, n1, c1, rfl, H1⟩; clear cA; rw [← HW.out] at H1; have cC := HC.out w1 x1 n1 c1 H1.out.2)
      | (go_at_call 31; refine cC.mono ?_; rintro e w2 ⟨rfl, hw2⟩; subst w2; clear cC))
    go_ret
    exact ⟨by first | rfl | (simp), on HB.out H1.out.1⟩
  · rw [e0] at cA ⊢
    clear e0
    go_enter Tryz.func18, Tryz.ntmps18
    go_wp2_with (go_at_call 13; refine cA.mono ?_; rintro e w1 ⟨x1, n1, c1, rfl, H1⟩; clear cA; rw [← HW.out] at H1)
    go_ret
    exact ⟨by first | rfl | (simp), on HB.out H1.out.1⟩

end Go.Proofs.YtgfjmkjgagogpaaGreat.Pl

/-
  Package place: one OSD alone; the statements' own test.
  Conditions: none.
-/
namespace Go.Proofs.YtgfjmkjgagogpaaGreat.Pl
open Go.RowKit By Fl At Cr
set_option linter.unusedVariables false
set_option linter.unusedSimpArgs false
set_option maxRecDepth 100000

def o8 : Osd := ⟨7, true, true, 5, 3, 1, 0, 0⟩
def m8 : Mp := ⟨0, ⟨1, 1, 1, 0⟩, [o8]⟩
theorem m8_fine : Fine m8 0 := fine_of (by decide) (by decide) (by decide)
theorem m8_up : upL m8 0 = [7, -1] := by
  rw [m8_fine.eq]
  exact chs_one _ _ o8 (by decide) (by decide)
theorem m8_act : actL m8 0 = [7, -1] := by
  unfold actL
  rw [m8_up]
  rfl
theorem m8_lives : (actL m8 0).map (lf m8.osds) = [3, 0] := by
  rw [m8_act]
  rfl
theorem m8_prm : prm (actL m8 0) = 7 := by
  rw [m8_act]
  rfl
theorem m8_whole : whB m8 0 = false := by
  unfold whB
  rw [m8_act, m8_fine.err]
  decide
theorem t_a : Na.Txt (Na.nat { data := #[97] }) [97] [] := ⟨by decide, (by intro r hr; simp at hr; unfold Na.ok; omega), .inl rfl, Na.nat_lt _⟩

set_option maxHeartbeats 3200000 in
theorem awake_any (w : World) : Calls Tryz.prog 9 #[] w fun e w' => e = .returned (.bool true) ∧ Below w.heap.size w w' := by
  obtain ⟨w0, hw0⟩ : ∃ w0, w0 = (w.alloc (.cells #[.int .i64 7, .bool true, .bool true, .int .i64 5, .int .i64 3, .int .i64 1, .int .i64 0, .int .i64 0] 44)).alloc (.cells #[.int .i64 0, .int .i64 1, .int .i64 1, .int .i64 1, .int .i64 0, .slice (some ⟨w.heap.size, 0, none⟩) 1 1] 31) := ⟨_, rfl⟩
  have b0 : Below w.heap.size w w0 := by rw [hw0]; exact on (al _ _) (al _ _)
  have hO : At.Os w0 (some ⟨w.heap.size, 0, none⟩) 1 1 m8.osds := by
    refine ⟨rfl, Nat.le_refl _, by omega, (fun e => by cases e), .inr ⟨_, _, rfl, by rw [hw0]; simp; omega, fun k a hk j v hv => ?_⟩⟩
    match k, hk with
    | 0, hk =>
      injection hk with hk
      subst hk
      match j, hv with
      | 0, hv => cases hv; rw [hw0]; go_simp; try rfl
      | 1, hv => cases hv; rw [hw0]; go_simp; try rfl
      | 2, hv => cases hv; rw [hw0]; go_simp; try rfl
      | 3, hv => cases hv; rw [hw0]; go_simp; try rfl
      | 4, hv => cases hv; rw [hw0]; go_simp; try rfl
      | 5, hv => cases hv; rw [hw0]; go_simp; try rfl
      | 6, hv => cases hv; rw [hw0]; go_simp; try rfl
      | 7, hv => cases hv; rw [hw0]; go_simp; try rfl
      | j + 8, hv => simp [enO] at hv
    | k + 1, hk => simp [m8] at hk
  have cL := lives_any m8 hO (by decide) 0
  unfold LvSays at cL
  rw [m8_fine.err, m8_lives] at cL
  have HP : Hid (∀ W, Below w0.heap.size w0 W → Calls Tryz.prog 17 #[.agg #[.int .i64 0, .int .i64 1, .int .i64 1, .int .i64 1, .int .i64 0, .slice (some ⟨w.heap.size, 0, none⟩) 1 1], .int .i64 0] W fun e w' => e = .returned (.int .i64 7) ∧ Below W.heap.size W w') := fun W hb => by
    have := primary_any m8 (hO.below hb) (by decide) 0
    rw [m8_prm] at this
    exact this
  have HWh : Hid (∀ W, Below w0.heap.size w0 W → Calls Tryz.prog 18 #[.agg #[.int .i64 0, .int .i64 1, .int .i64 1, .int .i64 1, .int .i64 0, .slice (some ⟨w.heap.size, 0, none⟩) 1 1], .int .i64 0] W fun e w' => e = .returned (.bool false) ∧ Below W.heap.size W w') := fun W hb => by
    have := whole_any m8 (hO.below hb) (by decide) 0
    rw [m8_whole] at this
    exact this
  have HG : Hid (∀ W, Calls Tryz.prog 7 #[.string { data := #[97] }, .int .i64 1] W fun e w' => e = .returned (.tuple #[.int .i64 0, .int .i64 0]) ∧ Below W.heap.size W w') := fun W => by
    have := Na.pg_any { data := #[97] } [97] [] 1 W t_a (by decide)
    have e1 : Na.why [97] [] = 0 := by decide
    have e2 : ∀ X, Na.pgV 0 X 1 = 0 := fun X => by
      unfold Na.pgV Na.gN
      simp
    have e3 : Na.pgE 0 1 = 0 := by decide
    rw [e1, e2, e3] at this
    exact this
  have cL2 : Calls Tryz.prog 14 #[.agg #[.int .i64 0, .int .i64 1, .int .i64 1, .int .i64 1, .int .i64 0, .slice (some ⟨w.heap.size, 0, none⟩) 1 1], .int .i64 0] w0 fun e w' => ∃ (x1 : Option Addr) (c1 : Nat) (x2 : Option Addr) (n2 c2 : Nat), e = .returned (.tuple #[.slice x1 2 c1, .slice x2 n2 c2, .int .i64 0]) ∧ Hid (Below w0.heap.size w0 w' ∧ ∃ b o, x1 = some ⟨b, o, none⟩ ∧ w'.cell? ⟨b, o, none⟩ = some (.int .i64 3)) := by
    refine Calls.mono cL ?_
    rintro e w' ⟨x1, n1, c1, x2, n2, c2, he, H⟩
    obtain ⟨hb, hN, _⟩ := H.out
    have hn : n1 = 2 := hN.len.symm
    subst hn
    refine ⟨x1, c1, x2, n2, c2, he, hb, ?_⟩
    rcases hN.row with q | ⟨b, o, e1, _, hc⟩
    · cases q
    · exact ⟨b, o, e1, hc 0 3 rfl⟩
  have q0 : w0.cell? ⟨w.heap.size + 1, 0, none⟩ = some (.int .i64 0) := by rw [hw0]; go_simp
  have q1 : w0.cell? ⟨w.heap.size + 1, 1, none⟩ = some (.int .i64 1) := by rw [hw0]; go_simp
  have q2 : w0.cell? ⟨w.heap.size + 1, 2, none⟩ = some (.int .i64 1) := by rw [hw0]; go_simp
  have q3 : w0.cell? ⟨w.heap.size + 1, 3, none⟩ = some (.int .i64 1) := by rw [hw0]; go_simp
  have q4 : w0.cell? ⟨w.heap.size + 1, 4, none⟩ = some (.int .i64 0) := by rw [hw0]; go_simp
  have q5 : w0.cell? ⟨w.heap.size + 1, 5, none⟩ = some (.slice (some ⟨w.heap.size, 0, none⟩) 1 1) := by rw [hw0]; go_simp
  have HQ : Hid (∀ W, Below w0.heap.size w0 W → W.cell? ⟨w.heap.size + 1, 0, none⟩ = some (.int .i64 0) ∧ W.cell? ⟨w.heap.size + 1, 1, none⟩ = some (.int .i64 1) ∧ W.cell? ⟨w.heap.size + 1, 2, none⟩ = some (.int .i64 1) ∧ W.cell? ⟨w.heap.size + 1, 3, none⟩ = some (.int .i64 1) ∧ W.cell? ⟨w.heap.size + 1, 4, none⟩ = some (.int .i64 0) ∧ W.cell? ⟨w.heap.size + 1, 5, none⟩ = some (.slice (some ⟨w.heap.size, 0, none⟩) 1 1)) := fun W hb => ⟨keep hb q0, keep hb q1, keep hb q2, keep hb q3, keep hb q4, keep hb q5⟩
  have HB := hid b0
  have HW := hid hw0
  rw [hw0] at cL2
  clear hO cL b0 hw0 q0 q1 q2 q3 q4 q5
  go_enter Tryz.func9, Tryz.ntmps9
  go_wp2_with (first
    | (
      go_at_call 14
      refine cL2.mono ?_
      rintro e w1 ⟨x1, c1, x2, n2, c2, rfl, H1⟩
      clear cL2
      rw [← HW.out] at H1
      obtain ⟨hb1, b, o, rfl, d0⟩ := H1.out
      have cG := HG.out w1
      clear H1)
    | (
      go_at_call 7
      refine cG.mono ?_
      rintro e w2 ⟨rfl, hb2⟩
      clear cG
      have d2 := keep hb2 d0
      obtain ⟨p0, p1, p2, p3, p4, p5⟩ := HQ.out _ (on hb1 hb2)
      have cP := HP.out _ (on hb1 hb2))
    | (
      go_at_call 17
      refine cP.mono ?_
      rintro e w3 ⟨rfl, hb3⟩
      clear cP
      obtain ⟨r0, r1, r2, r3, r4, r5⟩ := HQ.out _ (on hb1 (on hb2 hb3))
      have cW := HWh.out _ (on hb1 (on hb2 hb3)))
    | (go_at_call 18; refine cW.mono ?_; rintro e w4 ⟨rfl, hb4⟩; clear cW))
  go_ret
  exact ⟨rfl, on HB.out (on hb1 (on hb2 (on hb3 hb4)))⟩

end Go.Proofs.YtgfjmkjgagogpaaGreat.Pl
