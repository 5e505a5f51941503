/-
  Who is up, and which life a disk has, turns no choice.
  Conditions: none.
-/
import Derived.Test.YthiomhbehajldaaJ01
import Derived.Test.YthiomhbehajldaaCrTree
namespace Go.Proofs.Ythiomhbehajldaa.Cr
open Go.RowKit By Fl At
set_option linter.unusedVariables false
set_option linter.unusedSimpArgs false
set_option maxRecDepth 100000

/- What of an OSD is looked at. -/
def cor (o : Osd) : Osd := ⟨o.id, false, o.inn, o.wt, 0, 0, o.host, o.rack⟩
theorem kO_cor (d : Nat) (o : Osd) : kO d (cor o) = kO d o := rfl
theorem wO_cor (o : Osd) : wO (cor o) = wO o := rfl

theorem wgF_cor (d : Nat) : ∀ (L : List Osd) (W : List Sr.Wd), wgF d W (L.map cor) = wgF d W L
  | [], W => rfl
  | o :: L, W => by
    rw [List.map_cons, wgF_cons, wgF_cons, kO_cor, wO_cor]
    exact wgF_cor d L _
theorem wg_cor (d : Nat) (L : List Osd) : wg d (L.map cor) = wg d L := wgF_cor d L []
theorem sub_cor (L : List Osd) (d : Nat) (k : Int) : sub (L.map cor) d k = (sub L d k).map cor := by
  unfold sub
  rw [List.filter_map]
  rfl
theorem stp_cor (L : List Osd) (d x r : Nat) : stp (L.map cor) d x r = stp L d x r := by
  unfold stp lv pk
  rw [wg_cor]
theorem dsc_cor (L : List Osd) (x r : Nat) : dsc (L.map cor) x r = dsc L x r := by
  unfold dsc
  rw [stp_cor]
  cases stp L 3 x r with
  | none => rfl
  | some k =>
    dsimp only
    rw [sub_cor, stp_cor]
    cases stp (sub L 3 k) 2 x r with
    | none => rfl
    | some j =>
      dsimp only
      rw [sub_cor, stp_cor]

theorem chO_same {L K : List Osd} (h : ∀ x r, dsc L x r = dsc K x r) (d want x : Nat) : ∀ k, chO L d want x k = chO K d want x k
  | 0 => rfl
  | k + 1 => by
    have : fT L want x k = fT K want x k := by
      funext t
      exact h x _
    simp only [chO]
    rw [chO_same h d want x k, this]
theorem chs_cor {L K : List Osd} (h : L.map cor = K.map cor) (d want x : Nat) : chs L d want x = chs K d want x := by
  unfold chs
  have hd : ∀ x r, dsc L x r = dsc K x r := fun x r => (dsc_cor L x r).symm.trans ((congrArg (fun l => dsc l x r) h).trans (dsc_cor K x r))
  rw [chO_same hd d want x want]

def upd1 (j : Nat) (o : Osd) : Osd := ⟨o.id, false, o.inn, o.wt, (j : Int), o.boot, o.host, o.rack⟩
def ups (L : List Osd) : Nat → List Osd
  | 0 => L
  | i + 1 => match L[i]? with
    | none => ups L i
    | some o => (ups L i).set i (upd1 i o)

theorem ups_len (L : List Osd) : ∀ i, (ups L i).length = L.length
  | 0 => rfl
  | i + 1 => by
    simp only [ups]
    split
    · exact ups_len L i
    · rw [List.length_set]; exact ups_len L i

theorem ups_get (L : List Osd) : ∀ (i j : Nat), (ups L i)[j]? = if j < i then (L[j]?).map (upd1 j) else L[j]?
  | 0, j => by simp [ups]
  | i + 1, j => by
    have ih := ups_get L i j
    simp only [ups]
    cases hi : L[i]? with
    | none =>
      dsimp only
      rw [ih]
      by_cases h1 : j < i
      · rw [if_pos h1, if_pos (by omega)]
      · rw [if_neg h1]
        have hl : L.length ≤ i := List.getElem?_eq_none_iff.1 hi
        rw [List.getElem?_eq_none (show L.length ≤ j by omega)]
        simp
    | some o =>
      dsimp only
      have hlt := (List.getElem?_eq_some_iff.1 hi).1
      rw [List.getElem?_set]
      by_cases e : i = j
      · subst e
        rw [if_pos rfl, if_pos (by rw [ups_len]; exact hlt), if_pos (by omega), hi]
        rfl
      · rw [if_neg e, ih]
        by_cases h1 : j < i
        · rw [if_pos h1, if_pos (by omega)]
        · rw [if_neg h1, if_neg (by omega)]

theorem ups_cor (L : List Osd) : ∀ i, (ups L i).map cor = L.map cor := fun i => by
  apply List.ext_getElem?
  intro j
  rw [List.getElem?_map, List.getElem?_map, ups_get]
  split
  · cases L[j]? with
    | none => rfl
    | some o => rfl
  · rfl

theorem ups_may {m : Mp} (h : mayM m = true) : mayM ⟨7, m.pool, ups m.osds m.osds.length⟩ = true := by
  obtain ⟨f1, f2, f3⟩ := may_facts h
  unfold mayM osdsB at h ⊢
  simp only [Bool.and_eq_true, decide_eq_true_eq] at h ⊢
  refine ⟨⟨rfl, h.1.2⟩, by rw [ups_len]; exact f1, ?_⟩
  rw [goodB_iff]
  intro i a ha
  rw [ups_get] at ha
  split at ha
  · rename_i hi
    cases hL : m.osds[i]? with
    | none => rw [hL] at ha; cases ha
    | some o =>
      rw [hL] at ha
      injection ha with ha
      subst ha
      obtain ⟨g1, g2⟩ := f2 i o hL
      refine ⟨?_, fun k b hk hb => ?_⟩
      · unfold osdB least at g1 ⊢
        simp only [Bool.and_eq_true, wi_iff, upd1] at g1 ⊢
        obtain ⟨⟨⟨⟨⟨a1, a2⟩, a3⟩, a4⟩, a5⟩, a6⟩ := g1
        refine ⟨⟨⟨⟨⟨a1, a2⟩, a3⟩, a4⟩, ?_, ?_⟩, ?_, a6.2⟩
        · simp
        · omega
        · have : (0 : Int) ≤ o.boot := by
            have := a6.1
            split at this <;> omega
          simpa using this
      · rw [ups_get, if_pos (by omega)] at hb
        cases hM : m.osds[k]? with
        | none => rw [hM] at hb; cases hb
        | some p =>
          rw [hM] at hb
          injection hb with hb
          subst hb
          exact g2 k p hk hM
  · rename_i hi
    have := (List.getElem?_eq_some_iff.1 ha).1
    omega

theorem ups_choose {m : Mp} (h : mayM m = true) (dom want : Int) (y : Nat) : chL ⟨7, m.pool, ups m.osds m.osds.length⟩ dom want y = chL m dom want y ∧ chE ⟨7, m.pool, ups m.osds m.osds.length⟩ dom want = chE m dom want := by
  have e0 : okC ⟨7, m.pool, ups m.osds m.osds.length⟩ dom want = okC m dom want := by
    unfold okC
    rw [ups_may h, h]
  unfold chL chE
  rw [e0]
  refine ⟨?_, rfl⟩
  dsimp only
  rw [chs_cor (ups_cor m.osds m.osds.length)]

/- One OSD is written. -/
theorem flat_up : ∀ (l : List Osd) (i j : Nat) (o : Osd), l[i]? = some o → flat enO (l.set i (upd1 j o)) = ((flat enO l).set (i * 8 + 1) (.bool false)).set (i * 8 + 4) (.int .i64 (j : Nat))
  | [], i, j, o, h => by simp at h
  | b :: l, 0, j, o, h => by
    simp at h
    subst h
    simp [flat, enO, upd1]
  | b :: l, i + 1, j, o, h => by
    rw [List.set_cons_succ, flat_cons, flat_cons, flat_up l i j o (by simpa using h), show (i + 1) * 8 + 1 = (i * 8 + 1) + 8 by omega, show (i + 1) * 8 + 4 = (i * 8 + 4) + 8 by omega]
    simp [enO]

theorem own_up {w : World} {B g n c i : Nat} {l : List Osd} {o : Osd} (h : Own w B 44 8 enO (.slice (some ⟨g, 0, none⟩) n c) l) (hi : l[i]? = some o) (j : Nat) : Own ((w.setCell ⟨g, i * 8 + 1, none⟩ (.bool false)).setCell ⟨g, i * 8 + 4, none⟩ (.int .i64 (j : Nat))) B 44 8 enO (.slice (some ⟨g, 0, none⟩) n c) (l.set i (upd1 j o)) := by
  have hn := h.heap.1
  unfold Own at h ⊢
  rw [flat_up l i j o hi, List.length_set, hn]
  rw [hn] at h
  exact own_setCell (own_setCell h _ _) _ _

theorem copy_os {w : World} {x : Option Addr} {n c : Nat} {L : List Osd} (h : At.Os w x n c L) (hn : n ≤ 1000) : ∃ x' c' w', (Builtin.append_ #[24, 24] 24 #[.slice (some ⟨w.heap.size, 0, none⟩) 0 0, .slice x n c]).run Try.prog (w.alloc (.cells #[] 44)) = .ok (.slice x' n c') w' ∧
    Hid (Own w' w.heap.size 44 8 enO (.slice x' n c') L ∧ Below w.heap.size w w') := by
  cases x with
  | none =>
    obtain ⟨h1, h2⟩ := h.nil rfl
    subst h1 h2
    have hL : L = [] := List.eq_nil_of_length_eq_zero h.len
    subst hL
    have hi : (Try.prog.info? 44).map (fun i => (i.zero, i.size, i.bytes)) = some (some (.agg #[.int .i64 0, .bool false, .bool false, .int .i64 0, .int .i64 0, .int .i64 0, .int .i64 0, .int .i64 0]), 8, 56) := by kernel_rfl
    obtain ⟨i0, i1, i2, i3, i4⟩ := info_parts hi
    have he := Own.empty w (B := w.heap.size) (Nat.le_refl _) 44 8 enO
    have hr := run_append_owned_none (P := Try.prog) _ w.heap.size 24 24 44 i0 8 Try.underlying24 i1 _ 0 _ he
    exact ⟨_, _, _, hr, he, al _ _⟩
  | some ad =>
    obtain ⟨x', c', w', hr, H⟩ := copy_own (B := w.heap.size) h hn (Nat.le_refl _) (fun e => by cases e)
    exact ⟨x', c', w', hr, H.out.1, H.out.2.1⟩

end Go.Proofs.Ythiomhbehajldaa.Cr
