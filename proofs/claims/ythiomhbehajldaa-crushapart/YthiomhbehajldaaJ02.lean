/-
  3 texts of this proof, one behind the other: CrAwake, CrLight, CrApP.
-/
import Derived.Test.YthiomhbehajldaaCrChoose
import Derived.Test.YthiomhbehajldaaJ01
/-
  Package crush: one OSD alone; the statements' own test.
  Conditions: none.
-/
namespace Go.Proofs.Ythiomhbehajldaa.Cr
open Go.RowKit By Fl At
open Sr (Wd Ws enW okB cho DL)
set_option linter.unusedVariables false
set_option linter.unusedSimpArgs false
set_option maxRecDepth 100000

theorem wg_one (d : Nat) (o : Osd) : wg d [o] = [⟨kO d o, wO o⟩] := rfl

theorem stp_one (d x r : Nat) (o : Osd) (h1 : 1 ≤ wO o) (h2 : wO o ≤ 1073741824) : stp [o] d x r = some (kO d o) := by
  have hok : okB ⟨kO d o, wO o⟩ = true := by unfold okB; exact decide_eq_true ⟨h1, h2⟩
  have hc : lv [o] d x r = ((0 : Nat) : Int) := by
    unfold lv
    rw [wg_one]
    have hD := Sr.DL_yes (x := Mi.h2 x (4 - d)) (r := r) (L := [⟨kO d o, wO o⟩]) (k := 0) rfl hok
    refine Sr.cho_of (i := 0) (by simp) hD (fun j e hj he => ?_) (fun j e hj he => by omega)
    have : j = 0 := by simpa using hj
    subst this
    rw [hD] at he
    cases he
    exact Nat.le_refl _
  unfold stp
  rw [hc, if_neg (by omega)]
  rfl

theorem sub_one (d : Nat) (o : Osd) : sub [o] d (kO d o) = [o] := by simp [sub]

theorem dsc_one (x r : Nat) (o : Osd) (h1 : 1 ≤ wO o) (h2 : wO o ≤ 1073741824) : dsc [o] x r = some ⟨o.rack, o.host, o.id⟩ := by
  unfold dsc
  rw [stp_one 3 x r o h1 h2]
  dsimp only
  rw [sub_one, stp_one 2 x r o h1 h2]
  dsimp only
  rw [sub_one, stp_one 1 x r o h1 h2]
  rfl

theorem chs_one (d x : Nat) (o : Osd) (h1 : 1 ≤ wO o) (h2 : wO o ≤ 1073741824) : chs [o] d 2 x = [o.id, -1] := by
  have hf : ∀ k t, fT [o] 2 x k t = some ⟨o.rack, o.host, o.id⟩ := fun k t => dsc_one x _ o h1 h2
  have e0 : fnd (fT [o] 2 x 0) d [] 50 = some ⟨o.rack, o.host, o.id⟩ := fnd_keep (t := 1) (fnd_step_yes rfl (hf 0 0) (by simp)) 49
  have e1 : fnd (fT [o] 2 x 1) d [kP d ⟨o.rack, o.host, o.id⟩] 50 = none := fnd_none (fun s p hp => by rw [hf] at hp; cases hp; simp) 50
  have c1 : chO [o] d 2 x 1 = [some ⟨o.rack, o.host, o.id⟩] := by
    show [] ++ [fnd (fT [o] 2 x 0) d (tk d []) 50] = _
    rw [show tk d [] = [] from rfl, e0]
    rfl
  have c2 : chO [o] d 2 x 2 = [some ⟨o.rack, o.host, o.id⟩, none] := by
    show chO [o] d 2 x 1 ++ [fnd (fT [o] 2 x 1) d (tk d (chO [o] d 2 x 1)) 50] = _
    rw [c1, show tk d [some (⟨o.rack, o.host, o.id⟩ : Pa)] = [kP d ⟨o.rack, o.host, o.id⟩] from rfl, e1]
    rfl
  unfold chs
  rw [c2]
  rfl

def o7 : Osd := ⟨7, false, true, 5, 0, 0, 0, 0⟩
def m7 : Mp := ⟨0, ⟨1, 1, 1, 0⟩, [o7]⟩
theorem m7_may : mayM m7 = true := by decide
theorem m7_chL : chL m7 0 2 3 = [7, -1] := by
  unfold chL
  rw [if_pos (by decide)]
  exact chs_one _ _ o7 (by decide) (by decide)
theorem m7_chE : chE m7 0 2 = 0 := by unfold chE; rw [if_pos (by decide)]
theorem m7_room : roomP m7 2 = 1 := by
  unfold roomP
  rw [if_pos ⟨m7_may, by decide⟩]
  rfl

set_option maxHeartbeats 1600000 in
theorem awake_any (w : World) : Calls Try.prog 11 #[] w fun e w' => e = .returned (.bool true) ∧ Below w.heap.size w w' := by
  obtain ⟨w0, hw0⟩ : ∃ w0, w0 = (w.alloc (.cells #[.int .i64 7, .bool false, .bool true, .int .i64 5, .int .i64 0, .int .i64 0, .int .i64 0, .int .i64 0] 44)).alloc (.cells #[.int .i64 0, .int .i64 1, .int .i64 1, .int .i64 1, .int .i64 0, .slice (some ⟨w.heap.size, 0, none⟩) 1 1] 26) := ⟨_, rfl⟩
  have b0 : Below w.heap.size w w0 := by rw [hw0]; exact on (al _ _) (al _ _)
  have hO : At.Os w0 (some ⟨w.heap.size, 0, none⟩) 1 1 m7.osds := by
    refine ⟨rfl, Nat.le_refl _, by omega, (fun e => by cases e), .inr ⟨_, _, rfl, by rw [hw0]; simp; omega, fun k a hk j v hv => ?_⟩⟩
    match k, hk with
    | 0, hk =>
      injection hk with hk
      subst hk
      match j, hv with
      | 0, hv => cases hv; rw [hw0]; go_simp; try rfl
      | 1, hv => cases hv; rw [hw0]; go_simp; try rfl
      | 2, hv => cases hv; rw [hw0]; go_simp; try rfl
      | 3, hv => cases hv; rw [hw0]; go_simp; try rfl
      | 4, hv => cases hv; rw [hw0]; go_simp; try rfl
      | 5, hv => cases hv; rw [hw0]; go_simp; try rfl
      | 6, hv => cases hv; rw [hw0]; go_simp; try rfl
      | 7, hv => cases hv; rw [hw0]; go_simp; try rfl
      | j + 8, hv => simp [enO] at hv
    | k + 1, hk => simp [m7] at hk
  have cC := cchoose_any m7 hO (by decide) 0 2 3 (by omega)
  rw [m7_chE] at cC
  have HR : Hid (∀ W, Below w0.heap.size w0 W → Calls Try.prog 9 #[.agg #[.int .i64 0, .int .i64 1, .int .i64 1, .int .i64 1, .int .i64 0, .slice (some ⟨w.heap.size, 0, none⟩) 1 1], .int .i64 2] W fun e w' => e = .returned (.int .i64 1) ∧ Below W.heap.size W w') := fun W hb => by
    have := croom_any m7 (hO.below hb) (by decide) 2
    rw [m7_room] at this
    exact this
  have cC2 : Calls Try.prog 14 #[.agg #[.int .i64 0, .int .i64 1, .int .i64 1, .int .i64 1, .int .i64 0, .slice (some ⟨w.heap.size, 0, none⟩) 1 1], .agg #[.int .i64 0, .int .i64 2], .int .u32 3] w0 fun e w' => ∃ (x' : Option Addr) (c' : Nat), e = .returned (.tuple #[.slice x' 2 c', .int .i64 0]) ∧ Hid (Below w0.heap.size w0 w' ∧ ∃ b o, x' = some ⟨b, o, none⟩ ∧ w'.cell? ⟨b, o, none⟩ = some (.int .i64 7) ∧ w'.cell? ⟨b, o + 1, none⟩ = some (.int .i64 (-1))) := by
    refine Calls.mono cC ?_
    rintro e w' ⟨x', n', c', he, H⟩
    obtain ⟨hb, hN⟩ := H.out
    rw [m7_chL] at hN
    have hn : n' = 2 := hN.len.symm
    subst hn
    refine ⟨x', c', he, hb, ?_⟩
    rcases hN.row with q | ⟨b, o, e1, _, hc⟩
    · cases q
    · exact ⟨b, o, e1, hc 0 7 rfl, hc 1 (-1) rfl⟩
  have q0 : w0.cell? ⟨w.heap.size + 1, 0, none⟩ = some (.int .i64 0) := by rw [hw0]; go_simp
  have q1 : w0.cell? ⟨w.heap.size + 1, 1, none⟩ = some (.int .i64 1) := by rw [hw0]; go_simp
  have q2 : w0.cell? ⟨w.heap.size + 1, 2, none⟩ = some (.int .i64 1) := by rw [hw0]; go_simp
  have q3 : w0.cell? ⟨w.heap.size + 1, 3, none⟩ = some (.int .i64 1) := by rw [hw0]; go_simp
  have q4 : w0.cell? ⟨w.heap.size + 1, 4, none⟩ = some (.int .i64 0) := by rw [hw0]; go_simp
  have q5 : w0.cell? ⟨w.heap.size + 1, 5, none⟩ = some (.slice (some ⟨w.heap.size, 0, none⟩) 1 1) := by rw [hw0]; go_simp
  have HB := hid b0
  have HW := hid hw0
  rw [hw0] at cC2
  clear hO cC b0 hw0
  go_enter Try.func11, Try.ntmps11
  go_wp2_with (first
    | (
      go_at_call 14
      refine cC2.mono ?_
      rintro e w1 ⟨x1, c1, rfl, H1⟩
      clear cC2
      rw [← HW.out] at H1
      obtain ⟨hb1, b, o, rfl, d0, d1⟩ := H1.out
      have p0 := keep hb1 q0
      have p1 := keep hb1 q1
      have p2 := keep hb1 q2
      have p3 := keep hb1 q3
      have p4 := keep hb1 q4
      have p5 := keep hb1 q5
      have cR := HR.out w1 hb1
      clear q0 q1 q2 q3 q4 q5 H1)
    | (go_at_call 9; refine cR.mono ?_; rintro e w2 ⟨rfl, hb2⟩; clear cR))
  go_ret
  exact ⟨rfl, on HB.out (on hb1 hb2)⟩

end Go.Proofs.Ythiomhbehajldaa.Cr

/-
  The statements' own guard; how long a choice is.
  Conditions: none.
-/
namespace Go.Proofs.Ythiomhbehajldaa.Cr
open Go.RowKit By Fl At
set_option linter.unusedVariables false
set_option linter.unusedSimpArgs false
set_option maxRecDepth 100000

def litB (n : Nat) (want : Int) : Bool := decide ((n : Int) ≤ 24) && decide (want ≤ 12)
theorem light_any (m : Mp) (x : Option Addr) (n c : Nat) (dom want : Int) (w : World) : Calls Try.prog 13 #[vM m.ep m.pool x n c, .agg #[.int .i64 dom, .int .i64 want]] w fun e w' => e = .returned (.bool (litB n want)) ∧ Below w.heap.size w w' := by
  have b0 : Below w.heap.size w ((w.alloc (.cells #[.int .i64 m.ep, .int .i64 m.pool.k, .int .i64 m.pool.m, .int .i64 m.pool.pgs, .int .i64 m.pool.dom, .slice x n c] 26)).alloc (.cells #[.int .i64 dom, .int .i64 want] 34)) := on (al _ _) (al _ _)
  unfold vM litB
  by_cases h : (n : Int) ≤ 24
  · go_enter Try.func13, Try.ntmps13
    go_wp2_with fail
    go_ret
    exact ⟨by first | rfl | (rw [decide_eq_true h]; rfl), b0⟩
  · have h1 : decide ((n : Int) ≤ 24) = false := decide_eq_false h
    go_enter Try.func13, Try.ntmps13
    go_wp2_with fail
    go_ret
    exact ⟨by first | rfl | (rw [h1]; rfl), b0⟩

theorem chs_len (L : List Osd) (d want x : Nat) : (chs L d want x).length = want := by
  unfold chs
  rw [List.length_map, chO_len]

theorem chL_len (m : Mp) (dom want : Int) (y : Nat) : (chL m dom want y).length ≤ 32 := by
  unfold chL okC
  split
  · rename_i h
    rw [chs_len]
    simp at h
    omega
  · simp

end Go.Proofs.Ythiomhbehajldaa.Cr

/-
  What a choice has: each one in, with a weight; no two in one domain; how many.
  Conditions: none. Nothing here names the program.
-/
namespace Go.Proofs.Ythiomhbehajldaa.Cr
open Go.RowKit By Fl At
open Sr (Wd okB cho DL)
set_option linter.unusedVariables false
set_option linter.unusedSimpArgs false
set_option maxRecDepth 100000

theorem good_uniq {L : List Osd} (h : At.Good L) {o p : Osd} (ho : o ∈ L) (hp : p ∈ L) (e : o.id = p.id) : o = p := by
  obtain ⟨i, hi⟩ := List.mem_iff_getElem?.1 ho
  obtain ⟨j, hj⟩ := List.mem_iff_getElem?.1 hp
  rcases Nat.lt_trichotomy i j with q | q | q
  · have := ((lowB_iff _ _).1 ((h j p hj).2 i o q hi)).1
    omega
  · subst q
    rw [hi] at hj
    exact Option.some.inj hj
  · have := ((lowB_iff _ _).1 ((h i o hi).2 j p q hj)).1
    omega

theorem find_yes {L : List Osd} (h : At.Good L) {o : Osd} (ho : o ∈ L) : findP L o.id = (o, true) := by
  unfold findP
  cases hf : L.findIdx? (isId o.id) with
  | none =>
    obtain ⟨i, hi⟩ := List.mem_iff_getElem?.1 ho
    have := idx_none hf i o hi
    simp [isId] at this
  | some q =>
    obtain ⟨a, ha, hp, _⟩ := idx_some hf
    have hid : a.id = o.id := by simpa [isId] using hp
    have := good_uniq h (List.mem_of_getElem? ha) ho hid
    subst this
    simp [List.getD, ha]

theorem find_hole {L : List Osd} (h : At.Good L) : (findP L (-1)).2 = false := by
  unfold findP
  cases hf : L.findIdx? (isId (-1)) with
  | none => rfl
  | some q =>
    obtain ⟨a, ha, hp, _⟩ := idx_some hf
    have hid : a.id = -1 := by simpa [isId] using hp
    have := id_nn h (List.mem_of_getElem? ha)
    omega

theorem chO_pre (L : List Osd) (d want x : Nat) : ∀ (n i : Nat), i < n → (chO L d want x n)[i]? = some (fnd (fT L want x i) d (tk d (chO L d want x i)) 50)
  | 0, i, h => by omega
  | n + 1, i, h => by
    simp only [chO]
    by_cases e : i = n
    · subst e
      rw [List.getElem?_append_right (by rw [chO_len]; exact Nat.le_refl _), chO_len, Nat.sub_self]
      rfl
    · rw [List.getElem?_append_left (by rw [chO_len]; omega)]
      exact chO_pre L d want x n i (by omega)

/- Who has a place. -/
theorem chO_who {L : List Osd} {d want x n i : Nat} {p : Pa} (h : (chO L d want x n)[i]? = some (some p)) : ∃ o ∈ L, o.rack = p.rk ∧ o.host = p.ho ∧ o.id = p.id ∧ 1 ≤ wO o := by
  have hi : i < n := by
    have := (List.getElem?_eq_some_iff.1 h).1
    rwa [chO_len] at this
  rw [chO_pre L d want x n i hi] at h
  obtain ⟨_, s, _, hs⟩ := fnd_some (Option.some.inj h)
  exact dsc_who hs

theorem chO_apart {L : List Osd} {d want x n i k : Nat} {p q : Pa} (hk : k < i) (hp : (chO L d want x n)[i]? = some (some p)) (hq : (chO L d want x n)[k]? = some (some q)) : kP d p ≠ kP d q := by
  have hi : i < n := by
    have := (List.getElem?_eq_some_iff.1 hp).1
    rwa [chO_len] at this
  rw [chO_pre L d want x n i hi] at hp
  obtain ⟨h1, _⟩ := fnd_some (Option.some.inj hp)
  intro e
  apply h1
  have hq2 : (chO L d want x i)[k]? = some (some q) := by
    rw [chO_pre L d want x i k hk]
    rw [chO_pre L d want x n k (by omega)] at hq
    exact hq
  rw [e]
  unfold tk
  rw [List.mem_filterMap]
  exact ⟨some q, List.mem_of_getElem? hq2, rfl⟩

theorem chs_get {L : List Osd} {d want x i : Nat} {z : Int} (h : (chs L d want x)[i]? = some z) : ((chO L d want x want)[i]? = some none ∧ z = -1) ∨ ∃ p, (chO L d want x want)[i]? = some (some p) ∧ z = p.id := by
  unfold chs at h
  rw [List.getElem?_map] at h
  cases hc : (chO L d want x want)[i]? with
  | none => rw [hc] at h; cases h
  | some q =>
    rw [hc] at h
    injection h with h
    cases q with
    | none => exact .inl ⟨rfl, h.symm⟩
    | some p => exact .inr ⟨p, rfl, h.symm⟩

structure Ap (L : List Osd) (d : Nat) (l : List Int) : Prop where
  each : ∀ (i : Nat) (z : Int), l[i]? = some z → z ≠ -1 → ∃ o ∈ L, o.id = z ∧ findP L z = (o, true) ∧ o.inn = true ∧ o.wt ≠ 0
  apart : ∀ (i k : Nat) (z y : Int) (o p : Osd), k < i → l[i]? = some z → l[k]? = some y → z ≠ -1 → findP L z = (o, true) → findP L y = (p, true) → p.id ≠ o.id ∧ kO d p ≠ kO d o

theorem ap_of {L : List Osd} (h : At.Good L) (d want x : Nat) : Ap L d (chs L d want x) := by
  refine ⟨fun i z hz hn => ?_, fun i k z y o p hk hz hy hn ho hp => ?_⟩
  · rcases chs_get hz with ⟨_, e⟩ | ⟨p, hp, e⟩
    · exact absurd e hn
    · obtain ⟨o, o1, o2, o3, o4, o5⟩ := chO_who hp
      have hid : o.id = z := by rw [o4, e]
      refine ⟨o, o1, hid, ?_, ?_, ?_⟩
      · rw [← hid]; exact find_yes h o1
      · unfold wO at o5
        cases hi : o.inn with
        | true => rfl
        | false => rw [hi] at o5; simp at o5
      · unfold wO at o5
        intro e
        rw [e] at o5
        simp at o5
  · rcases chs_get hz with ⟨_, e⟩ | ⟨a, ha, e⟩
    · exact absurd e hn
    · rcases chs_get hy with ⟨_, e2⟩ | ⟨b, hb, e2⟩
      · have := find_hole h
        rw [← e2, hp] at this
        cases this
      · have hne := chO_apart hk ha hb
        obtain ⟨o1, q1, q2, q3, q4, _⟩ := chO_who ha
        obtain ⟨p1, r1, r2, r3, r4, _⟩ := chO_who hb
        have ho1 : o1 = o := by
          have := find_yes h q1
          rw [q4, ← e, ho] at this
          exact ((Prod.mk.inj this).1).symm
        have hp1 : p1 = p := by
          have := find_yes h r1
          rw [r4, ← e2, hp] at this
          exact ((Prod.mk.inj this).1).symm
        subst ho1 hp1
        have k1 := kP_of (d := d) q2 q3 q4
        have k2 := kP_of (d := d) r2 r3 r4
        have hkk : kO d p1 ≠ kO d o1 := by rw [k1, k2]; exact fun e => hne e.symm
        refine ⟨fun e => hkk ?_, hkk⟩
        rw [good_uniq h r1 q1 e]

/- How many places are filled. -/
def some1 (z : Int) : Bool := !decide (z = -1)
theorem cnt_tk {L : List Osd} (h : At.Good L) (d want x : Nat) : ((chs L d want x).filter some1).length = (tk d (chO L d want x want)).length := by
  unfold chs tk
  have key : ∀ l : List (Option Pa), (∀ p, some p ∈ l → 0 ≤ p.id) → ((l.map idP).filter some1).length = (l.filterMap (fun p => p.map (kP d))).length := by
    intro l
    induction l with
    | nil => intro _; rfl
    | cons a l ih =>
      intro hl
      have ih2 := ih fun p hp => hl p (List.mem_cons_of_mem _ hp)
      cases a with
      | none => simpa [idP, some1] using ih2
      | some p =>
        have := hl p List.mem_cons_self
        have hne : ¬ p.id = -1 := by omega
        simpa [idP, some1, hne] using ih2
  refine key _ fun p hp => ?_
  obtain ⟨i, hi⟩ := List.mem_iff_getElem?.1 hp
  obtain ⟨o, o1, _, _, o4, _⟩ := chO_who hi
  rw [← o4]
  exact id_nn h o1

/- Where somebody has weight, somebody is found. -/
theorem stp_ex {T : List Osd} (hB : WB T) (hl : T.length ≤ 64) (d x r : Nat) (h : ∃ o ∈ T, 1 ≤ wO o) : ∃ k, stp T d x r = some k := by
  obtain ⟨o, ho, hw⟩ := h
  unfold stp
  by_cases hn : lv T d x r < 0
  · exfalso
    obtain ⟨a, ha, e⟩ := (wg_has d (kO d o) T).2 ⟨o, ho, rfl⟩
    obtain ⟨i, hi⟩ := List.mem_iff_getElem?.1 ha
    have hwt := wt_le hB hl ha
    have hge : 1 ≤ a.wt := by
      rw [wg_wt ha]
      have := sum_ge (hB.nn.sub d a.id) o (mem_sub.2 ⟨ho, e.symm⟩)
      omega
    have hok : okB a = true := by unfold okB; exact decide_eq_true ⟨hge, hwt.2⟩
    unfold lv at hn
    have := Sr.cho_neg hn i (List.getElem?_eq_some_iff.1 hi).1
    rw [Sr.DL_yes hi hok] at this
    cases this
  · rw [if_neg hn]
    exact ⟨_, rfl⟩

theorem WB.sub {L : List Osd} (h : WB L) (d : Nat) (k : Int) : WB (sub L d k) := fun o ho => h o (mem_sub.1 ho).1
theorem sub_len (L : List Osd) (d : Nat) (k : Int) : (sub L d k).length ≤ L.length := List.length_filter_le _ _

theorem dsc_ex {L : List Osd} (hB : WB L) (hl : L.length ≤ 64) (x r : Nat) (h : ∃ o ∈ L, 1 ≤ wO o) : ∃ p, dsc L x r = some p := by
  obtain ⟨k, hk⟩ := stp_ex hB hl 3 x r h
  have l1 := sub_len L 3 k
  obtain ⟨j, hj⟩ := stp_ex (hB.sub 3 k) (by omega) 2 x r (sum_pos (stp_pos hk).2)
  have l2 := sub_len (sub L 3 k) 2 j
  obtain ⟨i, hi⟩ := stp_ex ((hB.sub 3 k).sub 2 j) (by omega) 1 x r (sum_pos (stp_pos hj).2)
  unfold dsc
  rw [hk]
  dsimp only
  rw [hj]
  dsimp only
  rw [hi]
  exact ⟨_, rfl⟩

theorem cnt_le {L : List Osd} (h : At.Good L) (hB : WB L) (d want x : Nat) : ((chs L d want x).filter some1).length ≤ rm d L := by
  rw [cnt_tk h]
  exact tk_le hB.nn d want x want

theorem cnt_pos {L : List Osd} (h : At.Good L) (hB : WB L) (hl : L.length ≤ 64) (d want x : Nat) (hw : 1 ≤ want) (hr : rm d L ≠ 0) : 0 < ((chs L d want x).filter some1).length := by
  have hex : ∃ o ∈ L, 1 ≤ wO o := by
    unfold rm at hr
    cases hp : pos d L with
    | nil => rw [hp] at hr; exact absurd rfl hr
    | cons k l =>
      obtain ⟨o, h1, _, h3⟩ := (mem_pos hB.nn k).1 (by rw [hp]; exact List.mem_cons_self)
      exact ⟨o, h1, h3⟩
  rw [cnt_tk h]
  obtain ⟨p, hp⟩ := dsc_ex hB hl x (0 + 0 * want) hex
  have e0 : fnd (fT L want x 0) d [] 50 = some p := fnd_keep (t := 1) (fnd_step_yes rfl hp (by simp)) 49
  have hc := chO_pre L d want x want 0 (by omega)
  have e1 : tk d (chO L d want x 0) = [] := rfl
  rw [e1, e0] at hc
  unfold tk
  rw [List.length_pos_iff_exists_mem]
  refine ⟨kP d p, ?_⟩
  rw [List.mem_filterMap]
  exact ⟨some p, List.mem_of_getElem? hc, rfl⟩

end Go.Proofs.Ythiomhbehajldaa.Cr
