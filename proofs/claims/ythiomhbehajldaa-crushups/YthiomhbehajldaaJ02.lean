/-
  2 texts of this proof, one behind the other: CrAwake, CrLight.
-/
import Derived.Test.YthiomhbehajldaaCrChoose
import Derived.Test.YthiomhbehajldaaJ01
/-
  Package crush: one OSD alone; the statements' own test.
  Conditions: none.
-/
namespace Go.Proofs.Ythiomhbehajldaa.Cr
open Go.RowKit By Fl At
open Sr (Wd Ws enW okB cho DL)
set_option linter.unusedVariables false
set_option linter.unusedSimpArgs false
set_option maxRecDepth 100000

theorem wg_one (d : Nat) (o : Osd) : wg d [o] = [⟨kO d o, wO o⟩] := rfl

theorem stp_one (d x r : Nat) (o : Osd) (h1 : 1 ≤ wO o) (h2 : wO o ≤ 1073741824) : stp [o] d x r = some (kO d o) := by
  have hok : okB ⟨kO d o, wO o⟩ = true := by unfold okB; exact decide_eq_true ⟨h1, h2⟩
  have hc : lv [o] d x r = ((0 : Nat) : Int) := by
    unfold lv
    rw [wg_one]
    have hD := Sr.DL_yes (x := Mi.h2 x (4 - d)) (r := r) (L := [⟨kO d o, wO o⟩]) (k := 0) rfl hok
    refine Sr.cho_of (i := 0) (by simp) hD (fun j e hj he => ?_) (fun j e hj he => by omega)
    have : j = 0 := by simpa using hj
    subst this
    rw [hD] at he
    cases he
    exact Nat.le_refl _
  unfold stp
  rw [hc, if_neg (by omega)]
  rfl

theorem sub_one (d : Nat) (o : Osd) : sub [o] d (kO d o) = [o] := by simp [sub]

theorem dsc_one (x r : Nat) (o : Osd) (h1 : 1 ≤ wO o) (h2 : wO o ≤ 1073741824) : dsc [o] x r = some ⟨o.rack, o.host, o.id⟩ := by
  unfold dsc
  rw [stp_one 3 x r o h1 h2]
  dsimp only
  rw [sub_one, stp_one 2 x r o h1 h2]
  dsimp only
  rw [sub_one, stp_one 1 x r o h1 h2]
  rfl

theorem chs_one (d x : Nat) (o : Osd) (h1 : 1 ≤ wO o) (h2 : wO o ≤ 1073741824) : chs [o] d 2 x = [o.id, -1] := by
  have hf : ∀ k t, fT [o] 2 x k t = some ⟨o.rack, o.host, o.id⟩ := fun k t => dsc_one x _ o h1 h2
  have e0 : fnd (fT [o] 2 x 0) d [] 50 = some ⟨o.rack, o.host, o.id⟩ := fnd_keep (t := 1) (fnd_step_yes rfl (hf 0 0) (by simp)) 49
  have e1 : fnd (fT [o] 2 x 1) d [kP d ⟨o.rack, o.host, o.id⟩] 50 = none := fnd_none (fun s p hp => by rw [hf] at hp; cases hp; simp) 50
  have c1 : chO [o] d 2 x 1 = [some ⟨o.rack, o.host, o.id⟩] := by
    show [] ++ [fnd (fT [o] 2 x 0) d (tk d []) 50] = _
    rw [show tk d [] = [] from rfl, e0]
    rfl
  have c2 : chO [o] d 2 x 2 = [some ⟨o.rack, o.host, o.id⟩, none] := by
    show chO [o] d 2 x 1 ++ [fnd (fT [o] 2 x 1) d (tk d (chO [o] d 2 x 1)) 50] = _
    rw [c1, show tk d [some (⟨o.rack, o.host, o.id⟩ : Pa)] = [kP d ⟨o.rack, o.host, o.id⟩] from rfl, e1]
    rfl
  unfold chs
  rw [c2]
  rfl

def o7 : Osd := ⟨7, false, true, 5, 0, 0, 0, 0⟩
def m7 : Mp := ⟨0, ⟨1, 1, 1, 0⟩, [o7]⟩
theorem m7_may : mayM m7 = true := by decide
theorem m7_chL : chL m7 0 2 3 = [7, -1] := by
  unfold chL
  rw [if_pos (by decide)]
  exact chs_one _ _ o7 (by decide) (by decide)
theorem m7_chE : chE m7 0 2 = 0 := by unfold chE; rw [if_pos (by decide)]
theorem m7_room : roomP m7 2 = 1 := by
  unfold roomP
  rw [if_pos ⟨m7_may, by decide⟩]
  rfl

set_option maxHeartbeats 1600000 in
theorem awake_any (w : World) : Calls Try.prog 11 #[] w fun e w' => e = .returned (.bool true) ∧ Below w.heap.size w w' := by
  obtain ⟨w0, hw0⟩ : ∃ w0, w0 = (w.alloc (.cells #[.int .i64 7, .bool false, .bool true, .int .i64 5, .int .i64 0, .int .i64 0, .int .i64 0, .int .i64 0] 44)).alloc (.cells #[.int .i64 0, .int .i64 1, .int .i64 1, .int .i64 1, .int .i64 0, .slice (some ⟨w.heap.size, 0, none⟩) 1 1] 26) := ⟨_, rfl⟩
  have b0 : Below w.heap.size w w0 := by rw [hw0]; exact on (al _ _) (al _ _)
  have hO : At.Os w0 (some ⟨w.heap.size, 0, none⟩) 1 1 m7.osds := by
    refine ⟨rfl, Nat.le_refl _, by omega, (fun e => by cases e), .inr ⟨_, _, rfl, by rw [hw0]; simp; omega, fun k a hk j v hv => ?_⟩⟩
    match k, hk with
    | 0, hk =>
      injection hk with hk
      subst hk
      match j, hv with
      | 0, hv => cases hv; rw [hw0]; go_simp; try rfl
      | 1, hv => cases hv; rw [hw0]; go_simp; try rfl
      | 2, hv => cases hv; rw [hw0]; go_simp; try rfl
      | 3, hv => cases hv; rw [hw0]; go_simp; try rfl
      | 4, hv => cases hv; rw [hw0]; go_simp; try rfl
      | 5, hv => cases hv; rw [hw0]; go_simp; try rfl
      | 6, hv => cases hv; rw [hw0]; go_simp; try rfl
      | 7, hv => cases hv; rw [hw0]; go_simp; try rfl
      | j + 8, hv => simp [enO] at hv
    | k + 1, hk => simp [m7] at hk
  have cC := cchoose_any m7 hO (by decide) 0 2 3 (by omega)
  rw [m7_chE] at cC
  have HR : Hid (∀ W, Below w0.heap.size w0 W → Calls Try.prog 9 #[.agg #[.int .i64 0, .int .i64 1, .int .i64 1, .int .i64 1, .int .i64 0, .slice (some ⟨w.heap.size, 0, none⟩) 1 1], .int .i64 2] W fun e w' => e = .returned (.int .i64 1) ∧ Below W.heap.size W w') := fun W hb => by
    have := croom_any m7 (hO.below hb) (by decide) 2
    rw [m7_room] at this
    exact this
  have cC2 : Calls Try.prog 14 #[.agg #[.int .i64 0, .int .i64 1, .int .i64 1, .int .i64 1, .int .i64 0, .slice (some ⟨w.heap.size, 0, none⟩) 1 1], .agg #[.int .i64 0, .int .i64 2], .int .u32 3] w0 fun e w' => ∃ (x' : Option Addr) (c' : Nat), e = .returned (.tuple #[.slice x' 2 c', .int .i64 0]) ∧ Hid (Below w0.heap.size w0 w' ∧ ∃ b o, x' = some ⟨b, o, none⟩ ∧ w'.cell? ⟨b, o, none⟩ = some (.int .i64 7) ∧ w'.cell? ⟨b, o + 1, none⟩ = some (.int .i64 (-1))) := by
    refine Calls.mono cC ?_
    rintro e w' ⟨x', n', c', he, H⟩
    obtain ⟨hb, hN⟩ := H.out
    rw [m7_chL] at hN
    have hn : n' = 2 := hN.len.symm
    subst hn
    refine ⟨x', c', he, hb, ?_⟩
    rcases hN.row with q | ⟨b, o, e1, _, hc⟩
    · cases q
    · exact ⟨b, o, e1, hc 0 7 rfl, hc 1 (-1) rfl⟩
  have q0 : w0.cell? ⟨w.heap.size + 1, 0, none⟩ = some (.int .i64 0) := by rw [hw0]; go_simp
  have q1 : w0.cell? ⟨w.heap.size + 1, 1, none⟩ = some (.int .i64 1) := by rw [hw0]; go_simp
  have q2 : w0.cell? ⟨w.heap.size + 1, 2, none⟩ = some (.int .i64 1) := by rw [hw0]; go_simp
  have q3 : w0.cell? ⟨w.heap.size + 1, 3, none⟩ = some (.int .i64 1) := by rw [hw0]; go_simp
  have q4 : w0.cell? ⟨w.heap.size + 1, 4, none⟩ = some (.int .i64 0) := by rw [hw0]; go_simp
  have q5 : w0.cell? ⟨w.heap.size + 1, 5, none⟩ = some (.slice (some ⟨w.heap.size, 0, none⟩) 1 1) := by rw [hw0]; go_simp
  have HB := hid b0
  have HW := hid hw0
  rw [hw0] at cC2
  clear hO cC b0 hw0
  go_enter Try.func11, Try.ntmps11
  go_wp2_with (first
    | (
      go_at_call 14
      refine cC2.mono ?_
      rintro e w1 ⟨x1, c1, rfl, H1⟩
      clear cC2
      rw [← HW.out] at H1
      obtain ⟨hb1, b, o, rfl, d0, d1⟩ := H1.out
      have p0 := keep hb1 q0
      have p1 := keep hb1 q1
      have p2 := keep hb1 q2
      have p3 := keep hb1 q3
      have p4 := keep hb1 q4
      have p5 := keep hb1 q5
      have cR := HR.out w1 hb1
      clear q0 q1 q2 q3 q4 q5 H1)
    | (go_at_call 9; refine cR.mono ?_; rintro e w2 ⟨rfl, hb2⟩; clear cR))
  go_ret
  exact ⟨rfl, on HB.out (on hb1 hb2)⟩

end Go.Proofs.Ythiomhbehajldaa.Cr

/-
  The statements' own guard; how long a choice is.
  Conditions: none.
-/
namespace Go.Proofs.Ythiomhbehajldaa.Cr
open Go.RowKit By Fl At
set_option linter.unusedVariables false
set_option linter.unusedSimpArgs false
set_option maxRecDepth 100000

def litB (n : Nat) (want : Int) : Bool := decide ((n : Int) ≤ 24) && decide (want ≤ 12)
theorem light_any (m : Mp) (x : Option Addr) (n c : Nat) (dom want : Int) (w : World) : Calls Try.prog 13 #[vM m.ep m.pool x n c, .agg #[.int .i64 dom, .int .i64 want]] w fun e w' => e = .returned (.bool (litB n want)) ∧ Below w.heap.size w w' := by
  have b0 : Below w.heap.size w ((w.alloc (.cells #[.int .i64 m.ep, .int .i64 m.pool.k, .int .i64 m.pool.m, .int .i64 m.pool.pgs, .int .i64 m.pool.dom, .slice x n c] 26)).alloc (.cells #[.int .i64 dom, .int .i64 want] 34)) := on (al _ _) (al _ _)
  unfold vM litB
  by_cases h : (n : Int) ≤ 24
  · go_enter Try.func13, Try.ntmps13
    go_wp2_with fail
    go_ret
    exact ⟨by first | rfl | (rw [decide_eq_true h]; rfl), b0⟩
  · have h1 : decide ((n : Int) ≤ 24) = false := decide_eq_false h
    go_enter Try.func13, Try.ntmps13
    go_wp2_with fail
    go_ret
    exact ⟨by first | rfl | (rw [h1]; rfl), b0⟩

theorem chs_len (L : List Osd) (d want x : Nat) : (chs L d want x).length = want := by
  unfold chs
  rw [List.length_map, chO_len]

theorem chL_len (m : Mp) (dom want : Int) (y : Nat) : (chL m dom want y).length ≤ 32 := by
  unfold chL okC
  split
  · rename_i h
    rw [chs_len]
    simp at h
    omega
  · simp

end Go.Proofs.Ythiomhbehajldaa.Cr
