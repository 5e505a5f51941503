/-
  3 texts of this proof, one behind the other: CrAwake, CrApP, PlPlain.
-/
import Derived.Test.YthlfmbijagpggaaCrChoose
import Derived.Test.YthlfmbijagpggaaCrGood
/-
  Package crush: one OSD alone; the statements' own test.
  Conditions: none.
-/
namespace Go.Proofs.Ythlfmbijagpggaa.Cr
open Go.RowKit By Fl At
open Sr (Wd Ws enW okB cho DL)
set_option linter.unusedVariables false
set_option linter.unusedSimpArgs false
set_option maxRecDepth 100000

theorem chs_len (L : List Osd) (d want x : Nat) : (chs L d want x).length = want := by
  unfold chs
  rw [List.length_map, chO_len]

theorem chL_len (m : Mp) (dom want : Int) (y : Nat) : (chL m dom want y).length ≤ 32 := by
  unfold chL okC
  split
  · rename_i h
    rw [chs_len]
    simp at h
    omega
  · simp

theorem wg_one (d : Nat) (o : Osd) : wg d [o] = [⟨kO d o, wO o⟩] := rfl

theorem stp_one (d x r : Nat) (o : Osd) (h1 : 1 ≤ wO o) (h2 : wO o ≤ 1073741824) : stp [o] d x r = some (kO d o) := by
  have hok : okB ⟨kO d o, wO o⟩ = true := by unfold okB; exact decide_eq_true ⟨h1, h2⟩
  have hc : lv [o] d x r = ((0 : Nat) : Int) := by
    unfold lv
    rw [wg_one]
    have hD := Sr.DL_yes (x := Mi.h2 x (4 - d)) (r := r) (L := [⟨kO d o, wO o⟩]) (k := 0) rfl hok
    refine Sr.cho_of (i := 0) (by simp) hD (fun j e hj he => ?_) (fun j e hj he => by omega)
    have : j = 0 := by simpa using hj
    subst this
    rw [hD] at he
    cases he
    exact Nat.le_refl _
  unfold stp
  rw [hc, if_neg (by omega)]
  rfl

theorem sub_one (d : Nat) (o : Osd) : sub [o] d (kO d o) = [o] := by simp [sub]

theorem dsc_one (x r : Nat) (o : Osd) (h1 : 1 ≤ wO o) (h2 : wO o ≤ 1073741824) : dsc [o] x r = some ⟨o.rack, o.host, o.id⟩ := by
  unfold dsc
  rw [stp_one 3 x r o h1 h2]
  dsimp only
  rw [sub_one, stp_one 2 x r o h1 h2]
  dsimp only
  rw [sub_one, stp_one 1 x r o h1 h2]
  rfl

theorem chs_one (d x : Nat) (o : Osd) (h1 : 1 ≤ wO o) (h2 : wO o ≤ 1073741824) : chs [o] d 2 x = [o.id, -1] := by
  have hf : ∀ k t, fT [o] 2 x k t = some ⟨o.rack, o.host, o.id⟩ := fun k t => dsc_one x _ o h1 h2
  have e0 : fnd (fT [o] 2 x 0) d [] 50 = some ⟨o.rack, o.host, o.id⟩ := fnd_keep (t := 1) (fnd_step_yes rfl (hf 0 0) (by simp)) 49
  have e1 : fnd (fT [o] 2 x 1) d [kP d ⟨o.rack, o.host, o.id⟩] 50 = none := fnd_none (fun s p hp => by rw [hf] at hp; cases hp; simp) 50
  have c1 : chO [o] d 2 x 1 = [some ⟨o.rack, o.host, o.id⟩] := by
    show [] ++ [fnd (fT [o] 2 x 0) d (tk d []) 50] = _
    rw [show tk d [] = [] from rfl, e0]
    rfl
  have c2 : chO [o] d 2 x 2 = [some ⟨o.rack, o.host, o.id⟩, none] := by
    show chO [o] d 2 x 1 ++ [fnd (fT [o] 2 x 1) d (tk d (chO [o] d 2 x 1)) 50] = _
    rw [c1, show tk d [some (⟨o.rack, o.host, o.id⟩ : Pa)] = [kP d ⟨o.rack, o.host, o.id⟩] from rfl, e1]
    rfl
  unfold chs
  rw [c2]
  rfl

def o7 : Osd := ⟨7, false, true, 5, 0, 0, 0, 0⟩
def m7 : Mp := ⟨0, ⟨1, 1, 1, 0⟩, [o7]⟩
theorem m7_may : mayM m7 = true := by decide
theorem m7_chL : chL m7 0 2 3 = [7, -1] := by
  unfold chL
  rw [if_pos (by decide)]
  exact chs_one _ _ o7 (by decide) (by decide)
theorem m7_chE : chE m7 0 2 = 0 := by unfold chE; rw [if_pos (by decide)]
theorem m7_room : roomP m7 2 = 1 := by
  unfold roomP
  rw [if_pos ⟨m7_may, by decide⟩]
  rfl

end Go.Proofs.Ythlfmbijagpggaa.Cr

/-
  What a choice has: each one in, with a weight; no two in one domain; how many.
  Conditions: none. Nothing here names the program.
-/
namespace Go.Proofs.Ythlfmbijagpggaa.Cr
open Go.RowKit By Fl At
open Sr (Wd okB cho DL)
set_option linter.unusedVariables false
set_option linter.unusedSimpArgs false
set_option maxRecDepth 100000

theorem good_uniq {L : List Osd} (h : At.Good L) {o p : Osd} (ho : o ∈ L) (hp : p ∈ L) (e : o.id = p.id) : o = p := by
  obtain ⟨i, hi⟩ := List.mem_iff_getElem?.1 ho
  obtain ⟨j, hj⟩ := List.mem_iff_getElem?.1 hp
  rcases Nat.lt_trichotomy i j with q | q | q
  · have := ((lowB_iff _ _).1 ((h j p hj).2 i o q hi)).1
    omega
  · subst q
    rw [hi] at hj
    exact Option.some.inj hj
  · have := ((lowB_iff _ _).1 ((h i o hi).2 j p q hj)).1
    omega

theorem find_yes {L : List Osd} (h : At.Good L) {o : Osd} (ho : o ∈ L) : findP L o.id = (o, true) := by
  unfold findP
  cases hf : L.findIdx? (isId o.id) with
  | none =>
    obtain ⟨i, hi⟩ := List.mem_iff_getElem?.1 ho
    have := idx_none hf i o hi
    simp [isId] at this
  | some q =>
    obtain ⟨a, ha, hp, _⟩ := idx_some hf
    have hid : a.id = o.id := by simpa [isId] using hp
    have := good_uniq h (List.mem_of_getElem? ha) ho hid
    subst this
    simp [List.getD, ha]

theorem find_hole {L : List Osd} (h : At.Good L) : (findP L (-1)).2 = false := by
  unfold findP
  cases hf : L.findIdx? (isId (-1)) with
  | none => rfl
  | some q =>
    obtain ⟨a, ha, hp, _⟩ := idx_some hf
    have hid : a.id = -1 := by simpa [isId] using hp
    have := id_nn h (List.mem_of_getElem? ha)
    omega

theorem chO_pre (L : List Osd) (d want x : Nat) : ∀ (n i : Nat), i < n → (chO L d want x n)[i]? = some (fnd (fT L want x i) d (tk d (chO L d want x i)) 50)
  | 0, i, h => by omega
  | n + 1, i, h => by
    simp only [chO]
    by_cases e : i = n
    · subst e
      rw [List.getElem?_append_right (by rw [chO_len]; exact Nat.le_refl _), chO_len, Nat.sub_self]
      rfl
    · rw [List.getElem?_append_left (by rw [chO_len]; omega)]
      exact chO_pre L d want x n i (by omega)

/- Who has a place. -/
theorem chO_who {L : List Osd} {d want x n i : Nat} {p : Pa} (h : (chO L d want x n)[i]? = some (some p)) : ∃ o ∈ L, o.rack = p.rk ∧ o.host = p.ho ∧ o.id = p.id ∧ 1 ≤ wO o := by
  have hi : i < n := by
    have := (List.getElem?_eq_some_iff.1 h).1
    rwa [chO_len] at this
  rw [chO_pre L d want x n i hi] at h
  obtain ⟨_, s, _, hs⟩ := fnd_some (Option.some.inj h)
  exact dsc_who hs

theorem chO_apart {L : List Osd} {d want x n i k : Nat} {p q : Pa} (hk : k < i) (hp : (chO L d want x n)[i]? = some (some p)) (hq : (chO L d want x n)[k]? = some (some q)) : kP d p ≠ kP d q := by
  have hi : i < n := by
    have := (List.getElem?_eq_some_iff.1 hp).1
    rwa [chO_len] at this
  rw [chO_pre L d want x n i hi] at hp
  obtain ⟨h1, _⟩ := fnd_some (Option.some.inj hp)
  intro e
  apply h1
  have hq2 : (chO L d want x i)[k]? = some (some q) := by
    rw [chO_pre L d want x i k hk]
    rw [chO_pre L d want x n k (by omega)] at hq
    exact hq
  rw [e]
  unfold tk
  rw [List.mem_filterMap]
  exact ⟨some q, List.mem_of_getElem? hq2, rfl⟩

theorem chs_get {L : List Osd} {d want x i : Nat} {z : Int} (h : (chs L d want x)[i]? = some z) : ((chO L d want x want)[i]? = some none ∧ z = -1) ∨ ∃ p, (chO L d want x want)[i]? = some (some p) ∧ z = p.id := by
  unfold chs at h
  rw [List.getElem?_map] at h
  cases hc : (chO L d want x want)[i]? with
  | none => rw [hc] at h; cases h
  | some q =>
    rw [hc] at h
    injection h with h
    cases q with
    | none => exact .inl ⟨rfl, h.symm⟩
    | some p => exact .inr ⟨p, rfl, h.symm⟩

structure Ap (L : List Osd) (d : Nat) (l : List Int) : Prop where
  each : ∀ (i : Nat) (z : Int), l[i]? = some z → z ≠ -1 → ∃ o ∈ L, o.id = z ∧ findP L z = (o, true) ∧ o.inn = true ∧ o.wt ≠ 0
  apart : ∀ (i k : Nat) (z y : Int) (o p : Osd), k < i → l[i]? = some z → l[k]? = some y → z ≠ -1 → findP L z = (o, true) → findP L y = (p, true) → p.id ≠ o.id ∧ kO d p ≠ kO d o

theorem ap_of {L : List Osd} (h : At.Good L) (d want x : Nat) : Ap L d (chs L d want x) := by
  refine ⟨fun i z hz hn => ?_, fun i k z y o p hk hz hy hn ho hp => ?_⟩
  · rcases chs_get hz with ⟨_, e⟩ | ⟨p, hp, e⟩
    · exact absurd e hn
    · obtain ⟨o, o1, o2, o3, o4, o5⟩ := chO_who hp
      have hid : o.id = z := by rw [o4, e]
      refine ⟨o, o1, hid, ?_, ?_, ?_⟩
      · rw [← hid]; exact find_yes h o1
      · unfold wO at o5
        cases hi : o.inn with
        | true => rfl
        | false => rw [hi] at o5; simp at o5
      · unfold wO at o5
        intro e
        rw [e] at o5
        simp at o5
  · rcases chs_get hz with ⟨_, e⟩ | ⟨a, ha, e⟩
    · exact absurd e hn
    · rcases chs_get hy with ⟨_, e2⟩ | ⟨b, hb, e2⟩
      · have := find_hole h
        rw [← e2, hp] at this
        cases this
      · have hne := chO_apart hk ha hb
        obtain ⟨o1, q1, q2, q3, q4, _⟩ := chO_who ha
        obtain ⟨p1, r1, r2, r3, r4, _⟩ := chO_who hb
        have ho1 : o1 = o := by
          have := find_yes h q1
          rw [q4, ← e, ho] at this
          exact ((Prod.mk.inj this).1).symm
        have hp1 : p1 = p := by
          have := find_yes h r1
          rw [r4, ← e2, hp] at this
          exact ((Prod.mk.inj this).1).symm
        subst ho1 hp1
        have k1 := kP_of (d := d) q2 q3 q4
        have k2 := kP_of (d := d) r2 r3 r4
        have hkk : kO d p1 ≠ kO d o1 := by rw [k1, k2]; exact fun e => hne e.symm
        refine ⟨fun e => hkk ?_, hkk⟩
        rw [good_uniq h r1 q1 e]

/- How many places are filled. -/
def some1 (z : Int) : Bool := !decide (z = -1)
theorem cnt_tk {L : List Osd} (h : At.Good L) (d want x : Nat) : ((chs L d want x).filter some1).length = (tk d (chO L d want x want)).length := by
  unfold chs tk
  have key : ∀ l : List (Option Pa), (∀ p, some p ∈ l → 0 ≤ p.id) → ((l.map idP).filter some1).length = (l.filterMap (fun p => p.map (kP d))).length := by
    intro l
    induction l with
    | nil => intro _; rfl
    | cons a l ih =>
      intro hl
      have ih2 := ih fun p hp => hl p (List.mem_cons_of_mem _ hp)
      cases a with
      | none => simpa [idP, some1] using ih2
      | some p =>
        have := hl p List.mem_cons_self
        have hne : ¬ p.id = -1 := by omega
        simpa [idP, some1, hne] using ih2
  refine key _ fun p hp => ?_
  obtain ⟨i, hi⟩ := List.mem_iff_getElem?.1 hp
  obtain ⟨o, o1, _, _, o4, _⟩ := chO_who hi
  rw [← o4]
  exact id_nn h o1

/- Where somebody has weight, somebody is found. -/
theorem stp_ex {T : List Osd} (hB : WB T) (hl : T.length ≤ 64) (d x r : Nat) (h : ∃ o ∈ T, 1 ≤ wO o) : ∃ k, stp T d x r = some k := by
  obtain ⟨o, ho, hw⟩ := h
  unfold stp
  by_cases hn : lv T d x r < 0
  · exfalso
    obtain ⟨a, ha, e⟩ := (wg_has d (kO d o) T).2 ⟨o, ho, rfl⟩
    obtain ⟨i, hi⟩ := List.mem_iff_getElem?.1 ha
    have hwt := wt_le hB hl ha
    have hge : 1 ≤ a.wt := by
      rw [wg_wt ha]
      have := sum_ge (hB.nn.sub d a.id) o (mem_sub.2 ⟨ho, e.symm⟩)
      omega
    have hok : okB a = true := by unfold okB; exact decide_eq_true ⟨hge, hwt.2⟩
    unfold lv at hn
    have := Sr.cho_neg hn i (List.getElem?_eq_some_iff.1 hi).1
    rw [Sr.DL_yes hi hok] at this
    cases this
  · rw [if_neg hn]
    exact ⟨_, rfl⟩

theorem WB.sub {L : List Osd} (h : WB L) (d : Nat) (k : Int) : WB (sub L d k) := fun o ho => h o (mem_sub.1 ho).1
theorem sub_len (L : List Osd) (d : Nat) (k : Int) : (sub L d k).length ≤ L.length := List.length_filter_le _ _

theorem dsc_ex {L : List Osd} (hB : WB L) (hl : L.length ≤ 64) (x r : Nat) (h : ∃ o ∈ L, 1 ≤ wO o) : ∃ p, dsc L x r = some p := by
  obtain ⟨k, hk⟩ := stp_ex hB hl 3 x r h
  have l1 := sub_len L 3 k
  obtain ⟨j, hj⟩ := stp_ex (hB.sub 3 k) (by omega) 2 x r (sum_pos (stp_pos hk).2)
  have l2 := sub_len (sub L 3 k) 2 j
  obtain ⟨i, hi⟩ := stp_ex ((hB.sub 3 k).sub 2 j) (by omega) 1 x r (sum_pos (stp_pos hj).2)
  unfold dsc
  rw [hk]
  dsimp only
  rw [hj]
  dsimp only
  rw [hi]
  exact ⟨_, rfl⟩

theorem cnt_le {L : List Osd} (h : At.Good L) (hB : WB L) (d want x : Nat) : ((chs L d want x).filter some1).length ≤ rm d L := by
  rw [cnt_tk h]
  exact tk_le hB.nn d want x want

theorem cnt_pos {L : List Osd} (h : At.Good L) (hB : WB L) (hl : L.length ≤ 64) (d want x : Nat) (hw : 1 ≤ want) (hr : rm d L ≠ 0) : 0 < ((chs L d want x).filter some1).length := by
  have hex : ∃ o ∈ L, 1 ≤ wO o := by
    unfold rm at hr
    cases hp : pos d L with
    | nil => rw [hp] at hr; exact absurd rfl hr
    | cons k l =>
      obtain ⟨o, h1, _, h3⟩ := (mem_pos hB.nn k).1 (by rw [hp]; exact List.mem_cons_self)
      exact ⟨o, h1, h3⟩
  rw [cnt_tk h]
  obtain ⟨p, hp⟩ := dsc_ex hB hl x (0 + 0 * want) hex
  have e0 : fnd (fT L want x 0) d [] 50 = some p := fnd_keep (t := 1) (fnd_step_yes rfl hp (by simp)) 49
  have hc := chO_pre L d want x want 0 (by omega)
  have e1 : tk d (chO L d want x 0) = [] := rfl
  rw [e1, e0] at hc
  unfold tk
  rw [List.length_pos_iff_exists_mem]
  refine ⟨kP d p, ?_⟩
  rw [List.mem_filterMap]
  exact ⟨some p, List.mem_of_getElem? hc, rfl⟩

end Go.Proofs.Ythlfmbijagpggaa.Cr

/-
  Package place plainly: who is to keep a placement group, who does, their lives and boots, and who is first.
  Conditions: none.
-/
namespace Go.Proofs.Ythlfmbijagpggaa.Pl
open Go.RowKit By Fl At Cr
set_option linter.unusedVariables false
set_option linter.unusedSimpArgs false
set_option maxRecDepth 100000

def kmW (m : Mp) : Int := IntKind.i64.wrap (m.pool.k + m.pool.m)
def pgN (pg : Int) : Nat := (pg % 4294967296).toNat
theorem pgN_lt (pg : Int) : pgN pg < 4294967296 := by unfold pgN; omega
def inB (m : Mp) (pg : Int) : Bool := decide (0 ≤ pg) && decide (pg < m.pool.pgs)
def upL (m : Mp) (pg : Int) : List Int := if inB m pg = true then chL m m.pool.dom (kmW m) (Mi.h2 (pgN pg) 1886351212) else []
def upE (m : Mp) (pg : Int) : Int := if inB m pg = true then chE m m.pool.dom (kmW m) else 1

def upF (L : List Osd) (z : Int) : Bool := (findP L z).2 && (findP L z).1.up
def kp (L : List Osd) (z : Int) : Int := if upF L z = true then z else -1
def actL (m : Mp) (pg : Int) : List Int := (upL m pg).map (kp m.osds)
def lf (L : List Osd) (z : Int) : Int := if (findP L z).2 = true then (findP L z).1.life else 0
def bo (L : List Osd) (z : Int) : Int := if (findP L z).2 = true then (findP L z).1.boot else 0
def prm : List Int → Int
  | [] => -1
  | z :: l => if z = -1 then prm l else z
def whB (m : Mp) (pg : Int) : Bool := decide (upE m pg = 0) && !decide (-1 ∈ actL m pg)

/- A map that may be, and one of its placement groups. -/
structure Fine (m : Mp) (pg : Int) : Prop where
  may : mayM m = true
  lo : 0 ≤ pg
  hi : pg < m.pool.pgs
  err : upE m pg = 0
  eq : upL m pg = chs m.osds (m.pool.dom + 1).toNat (m.pool.k + m.pool.m).toNat (Mi.h2 (pgN pg) 1886351212)
  k1 : 1 ≤ m.pool.k
  m1 : 1 ≤ m.pool.m
  km : m.pool.k + m.pool.m ≤ 32
  g32 : m.pool.pgs ≤ 32
  d0 : 0 ≤ m.pool.dom
  d2 : m.pool.dom ≤ 2

theorem fine_of {m : Mp} {pg : Int} (hm : mayM m = true) (h0 : 0 ≤ pg) (h1 : pg < m.pool.pgs) : Fine m pg := by
  have hp : poolB m.pool = true := by
    unfold mayM at hm
    simp only [Bool.and_eq_true] at hm
    exact hm.1.2
  unfold poolB at hp
  simp only [Bool.and_eq_true, decide_eq_true_eq, wi_iff] at hp
  have hw : kmW m = m.pool.k + m.pool.m := by unfold kmW; rw [IntKind.wrap_i64]; omega
  have hin : inB m pg = true := by unfold inB; simp; omega
  have hok : okC m m.pool.dom (m.pool.k + m.pool.m) = true := by
    unfold okC domB
    simp [hm]
    omega
  refine ⟨hm, h0, h1, ?_, ?_, by omega, by omega, by omega, by omega, by omega, by omega⟩
  · unfold upE chE
    rw [if_pos hin, hw, if_pos hok]
  · unfold upL chL
    rw [if_pos hin, hw, if_pos hok]

theorem not_fine {m : Mp} {pg : Int} (h : ¬ (mayM m = true ∧ 0 ≤ pg ∧ pg < m.pool.pgs)) : upE m pg = 1 ∧ upL m pg = [] := by
  unfold upE upL
  cases hin : inB m pg with
  | false => exact ⟨rfl, rfl⟩
  | true =>
    have hm : mayM m = false := by
      cases hm : mayM m with
      | false => rfl
      | true =>
        unfold inB at hin
        simp at hin
        exact absurd ⟨hm, hin.1, hin.2⟩ h
    have hok : okC m m.pool.dom (kmW m) = false := by unfold okC; rw [hm]; rfl
    unfold chE chL
    rw [hok]
    exact ⟨rfl, rfl⟩

theorem fine_or (m : Mp) (pg : Int) : Fine m pg ∨ (upE m pg = 1 ∧ upL m pg = []) := by
  by_cases h : mayM m = true ∧ 0 ≤ pg ∧ pg < m.pool.pgs
  · exact .inl (fine_of h.1 h.2.1 h.2.2)
  · exact .inr (not_fine h)

theorem upL_len (m : Mp) (pg : Int) : (upL m pg).length ≤ 32 := by
  unfold upL
  split
  · exact chL_len m _ _ _
  · simp

theorem actL_len (m : Mp) (pg : Int) : (actL m pg).length = (upL m pg).length := by unfold actL; rw [List.length_map]

theorem Fine.len {m : Mp} {pg : Int} (h : Fine m pg) : (upL m pg).length = (m.pool.k + m.pool.m).toNat := by rw [h.eq, chs_len]
theorem Fine.good {m : Mp} {pg : Int} (h : Fine m pg) : At.Good m.osds := (may_facts h.may).2.1

theorem kp_find {L : List Osd} (h : At.Good L) (z : Int) : (findP L (kp L z)).2 = upF L z := by
  unfold kp
  split
  · rename_i hu
    rw [hu]
    unfold upF at hu
    simp at hu
    exact hu.1
  · rename_i hu
    rw [find_hole h]
    simpa using hu

theorem lf_kp {L : List Osd} (h : At.Good L) (z : Int) : lf L (kp L z) = if upF L z = true then (findP L z).1.life else 0 := by
  unfold lf
  rw [kp_find h]
  unfold kp
  split <;> rfl
theorem bo_kp {L : List Osd} (h : At.Good L) (z : Int) : bo L (kp L z) = if upF L z = true then (findP L z).1.boot else 0 := by
  unfold bo
  rw [kp_find h]
  unfold kp
  split <;> rfl

theorem prm_app (l : List Int) (z : Int) : prm (l ++ [z]) = if prm l = -1 then z else prm l := by
  induction l with
  | nil =>
    simp only [List.nil_append, prm]
    by_cases h : z = -1 <;> simp [h]
  | cons a l ih =>
    simp only [List.cons_append, prm]
    by_cases h : a = -1
    · simp only [h, if_true, ih]
    · simp only [h, if_false]

/- The first k places with their Holes, the others as they were. -/
def mid (L : List Osd) (l : List Int) (k : Nat) : List Int := (l.take k).map (kp L) ++ l.drop k
theorem mid_zero (L : List Osd) (l : List Int) : mid L l 0 = l := by simp [mid]
theorem mid_all (L : List Osd) (l : List Int) {k : Nat} (h : l.length ≤ k) : mid L l k = l.map (kp L) := by unfold mid; rw [List.take_of_length_le h, List.drop_of_length_le h, List.append_nil]
theorem mid_len (L : List Osd) (l : List Int) (k : Nat) : (mid L l k).length = l.length := by
  unfold mid
  rw [List.length_append, List.length_map, ← List.length_append, List.take_append_drop]
theorem mid_get (L : List Osd) {l : List Int} {k : Nat} {z : Int} (h : l[k]? = some z) : (mid L l k)[k]? = some z := by
  have hk := (List.getElem?_eq_some_iff.1 h).1
  unfold mid
  rw [List.getElem?_append_right (by simp; omega)]
  simp only [List.length_map, List.length_take]
  rw [show min k l.length = k by omega, Nat.sub_self, List.getElem?_drop]
  simpa using h
theorem mid_two (L : List Osd) {l : List Int} {k : Nat} {z : Int} (h : l[k]? = some z) : mid L l k = (l.take k).map (kp L) ++ z :: l.drop (k + 1) ∧ mid L l (k + 1) = (l.take k).map (kp L) ++ kp L z :: l.drop (k + 1) := by
  obtain ⟨hk, hz⟩ := List.getElem?_eq_some_iff.1 h
  refine ⟨?_, ?_⟩
  · unfold mid
    rw [List.drop_eq_getElem_cons hk, hz]
  · unfold mid
    rw [List.take_add_one, h]
    simp
theorem mid_up {L : List Osd} {l : List Int} {k : Nat} {z : Int} (h : l[k]? = some z) (hu : upF L z = true) : mid L l (k + 1) = mid L l k := by
  obtain ⟨h1, h2⟩ := mid_two L h
  rw [h1, h2]
  unfold kp
  rw [if_pos hu]
theorem mid_no {L : List Osd} {l : List Int} {k : Nat} {z : Int} (h : l[k]? = some z) (hu : upF L z = false) : mid L l (k + 1) = (mid L l k).set k (-1) := by
  obtain ⟨h1, h2⟩ := mid_two L h
  have hk := (List.getElem?_eq_some_iff.1 h).1
  rw [h1, h2]
  have e : kp L z = -1 := by unfold kp; rw [hu]; rfl
  rw [e, List.set_append_right _ _ (by simp; omega)]
  simp only [List.length_map, List.length_take]
  rw [show min k l.length = k by omega, Nat.sub_self]
  rfl

theorem act_get {m : Mp} {pg : Int} {i : Nat} {z : Int} (h : (actL m pg)[i]? = some z) (hz : z ≠ -1) : (upL m pg)[i]? = some z := by
  unfold actL at h
  rw [List.getElem?_map] at h
  obtain ⟨y, hy, e⟩ := Option.map_eq_some_iff.1 h
  unfold kp at e
  split at e
  · rw [← e]; exact hy
  · exact absurd e.symm hz
theorem act_each {m : Mp} {pg : Int} (hf : Fine m pg) {i : Nat} {z : Int} (h : (actL m pg)[i]? = some z) (hz : z ≠ -1) : (findP m.osds z).2 = true := by
  have h1 := act_get h hz
  rw [hf.eq] at h1
  obtain ⟨o, _, _, ho, _⟩ := (ap_of hf.good _ _ _).each i z h1 hz
  rw [ho]
theorem act_apart {m : Mp} {pg : Int} (hf : Fine m pg) {i k : Nat} {z y : Int} {o p : Osd} (hk : k < i) (h1 : (actL m pg)[i]? = some z) (h2 : (actL m pg)[k]? = some y) (hz : z ≠ -1) (ho : findP m.osds z = (o, true)) (hp : findP m.osds y = (p, true)) : o.id ≠ p.id ∧ (m.pool.dom = 1 → o.host ≠ p.host) ∧ (m.pool.dom = 2 → o.rack ≠ p.rack) := by
  have hy : y ≠ -1 := fun e => by
    have := find_hole hf.good
    rw [← e, hp] at this
    cases this
  have g1 := act_get h1 hz
  have g2 := act_get h2 hy
  rw [hf.eq] at g1 g2
  obtain ⟨a, b⟩ := (ap_of hf.good _ _ _).apart i k z y o p hk g1 g2 hz ho hp
  refine ⟨fun e => a e.symm, fun e => ?_, fun e => ?_⟩
  · rw [e] at b
    exact fun q => b q.symm
  · rw [e] at b
    exact fun q => b q.symm
theorem kp_hole {L : List Osd} (h : At.Good L) (z : Int) (hu : upF L z = true) : z ≠ -1 := fun e => by
  rw [e] at hu
  unfold upF at hu
  rw [find_hole h] at hu
  cases hu

end Go.Proofs.Ythlfmbijagpggaa.Pl
