/-
  Package crush, in plain numbers: a level's numbers with their weights, descents, choices, how much room there is.
  Conditions: none. Nothing here names the program.
-/
import Derived.Test.YthlfmbijagpggaaSrPlain
import Derived.Test.YthlfmbijagpggaaJAtPlain
namespace Go.Proofs.Ythlfmbijagpggaa.Cr
open At
open Sr (Wd okB cho DL)
set_option linter.unusedVariables false
set_option linter.unusedSimpArgs false
set_option maxRecDepth 100000

/- An OSD's number of a level: 3 its rack, 2 its host, else itself; what it weighs. -/
def kO (d : Nat) (o : Osd) : Int := if d = 3 then o.rack else if d = 2 then o.host else o.id
def wO (o : Osd) : Int := if o.inn then o.wt else 0

def insW (k z : Int) : List Wd → List Wd
  | [] => [⟨k, z⟩]
  | a :: W => if a.id < k then a :: insW k z W else if a.id = k then ⟨k, a.wt + z⟩ :: W else ⟨k, z⟩ :: a :: W

theorem insW_comm (k z l y : Int) : ∀ W, insW k z (insW l y W) = insW l y (insW k z W)
  | [] => by
    simp only [insW]
    by_cases h1 : l < k
    · have h2 : ¬ k < l := by omega
      have h3 : ¬ k = l := by omega
      simp [h1, h2, h3, insW]
    · by_cases h2 : k < l
      · have h3 : ¬ l = k := by omega
        simp [h1, h2, h3, insW]
      · have h3 : l = k := by omega
        subst h3
        simp [Int.add_comm]
  | a :: W => by
    have ih := insW_comm k z l y W
    simp only [insW]
    by_cases a1 : a.id < l
    · by_cases a2 : a.id < k
      · simp [a1, a2, insW, ih]
      · by_cases a3 : a.id = k
        · have h1 : k < l := by omega
          simp [a1, a2, a3, insW, h1]
        · have h1 : k < l := by omega
          simp [a1, a2, a3, insW, h1]
    · by_cases a2 : a.id < k
      · by_cases a3 : a.id = l
        · have h1 : l < k := by omega
          simp [a1, a2, a3, insW, h1]
        · have h1 : l < k := by omega
          simp [a1, a2, a3, insW, h1]
      · by_cases a3 : a.id = l
        · by_cases a4 : a.id = k
          · have h1 : l = k := by omega
            subst h1
            simp [a1, a2, a3, insW]
            omega
          · have h1 : ¬ l < k := by omega
            have h2 : ¬ l = k := by omega
            have h3 : k < l := by omega
            simp [a1, a2, a3, a4, insW, h1, h2, h3]
        · by_cases a4 : a.id = k
          · have h1 : ¬ k < l := by omega
            have h2 : ¬ k = l := by omega
            have h3 : l < k := by omega
            simp [a1, a2, a3, a4, insW, h1, h2, h3]
          · by_cases h1 : l < k
            · have h2 : ¬ k < l := by omega
              have h3 : ¬ k = l := by omega
              simp [a1, a2, a3, a4, insW, h1, h2, h3]
            · by_cases h2 : k < l
              · have h3 : ¬ l = k := by omega
                simp [a1, a2, a3, a4, insW, h1, h2, h3]
              · have h3 : l = k := by omega
                subst h3
                simp [a1, a2, a3, a4, insW, Int.add_comm]

def wgF (d : Nat) (W : List Wd) (L : List Osd) : List Wd := L.foldl (fun W o => insW (kO d o) (wO o) W) W
def wg (d : Nat) (L : List Osd) : List Wd := wgF d [] L

theorem wgF_nil (d : Nat) (W : List Wd) : wgF d W [] = W := rfl
theorem wgF_cons (d : Nat) (W : List Wd) (o : Osd) (L : List Osd) : wgF d W (o :: L) = wgF d (insW (kO d o) (wO o) W) L := rfl
theorem wg_snoc (d : Nat) (L : List Osd) (o : Osd) : wg d (L ++ [o]) = insW (kO d o) (wO o) (wg d L) := by simp [wg, wgF]

theorem wgF_perm (d : Nat) {L K : List Osd} (h : L.Perm K) : ∀ W, wgF d W L = wgF d W K := by
  induction h with
  | nil => intro W; rfl
  | cons o _ ih => intro W; rw [wgF_cons, wgF_cons, ih]
  | swap o p l => intro W; rw [wgF_cons, wgF_cons, wgF_cons, wgF_cons, insW_comm]
  | trans _ _ h1 h2 => intro W; rw [h1, h2]

theorem wg_perm (d : Nat) {L K : List Osd} (h : L.Perm K) : wg d L = wg d K := wgF_perm d h []

/- Which numbers there are. -/
def Has (W : List Wd) (k : Int) : Prop := ∃ a ∈ W, a.id = k

theorem ins_has (k z j : Int) : ∀ W, Has (insW k z W) j ↔ j = k ∨ Has W j
  | [] => by simp [insW, Has]; exact ⟨fun h => h.symm, fun h => h.symm⟩
  | a :: W => by
    have ih := ins_has k z j W
    unfold Has at ih ⊢
    simp only [insW]
    by_cases a1 : a.id < k
    · simp only [a1, if_true, List.mem_cons, exists_eq_or_imp, ih]
      constructor
      · rintro (h | h | h)
        · exact .inr (.inl h)
        · exact .inl h
        · exact .inr (.inr h)
      · rintro (h | h | h)
        · exact .inr (.inl h)
        · exact .inl h
        · exact .inr (.inr h)
    · by_cases a2 : a.id = k
      · rw [if_neg a1, if_pos a2]
        simp only [List.mem_cons, exists_eq_or_imp, a2]
        constructor
        · rintro (h | h)
          · exact .inl h.symm
          · exact .inr (.inr h)
        · rintro (h | h | h)
          · exact .inl h.symm
          · exact .inl h
          · exact .inr h
      · simp only [a1, a2, if_false, List.mem_cons, exists_eq_or_imp, ih]
        constructor
        · rintro (h | h | h)
          · exact .inl h.symm
          · exact .inr (.inl h)
          · exact .inr (.inr h)
        · rintro (h | h | h)
          · exact .inl h.symm
          · exact .inr (.inl h)
          · exact .inr (.inr h)

theorem wgF_has (d : Nat) (j : Int) : ∀ (L : List Osd) (W : List Wd), Has (wgF d W L) j ↔ Has W j ∨ ∃ o ∈ L, kO d o = j
  | [], W => by simp [wgF]
  | o :: L, W => by
    rw [wgF_cons, wgF_has d j L, ins_has]
    simp only [List.mem_cons, exists_eq_or_imp]
    constructor
    · rintro ((h | h) | h)
      · exact .inr (.inl h.symm)
      · exact .inl h
      · exact .inr (.inr h)
    · rintro (h | h | h)
      · exact .inl (.inr h)
      · exact .inl (.inl h.symm)
      · exact .inr h

theorem wg_has (d : Nat) (j : Int) (L : List Osd) : Has (wg d L) j ↔ ∃ o ∈ L, kO d o = j := by
  unfold wg
  rw [wgF_has]
  simp [Has]

/- They rise. -/
def Ris (W : List Wd) : Prop := W.Pairwise (fun a b => a.id < b.id)

theorem ins_ris (k z : Int) : ∀ W, Ris W → Ris (insW k z W)
  | [], _ => by simp [insW, Ris]
  | a :: W, h => by
    unfold Ris at h ⊢
    obtain ⟨h1, h2⟩ := List.pairwise_cons.1 h
    simp only [insW]
    by_cases a1 : a.id < k
    · simp only [a1, if_true]
      refine List.pairwise_cons.2 ⟨fun b hb => ?_, ins_ris k z W h2⟩
      rcases (ins_has k z b.id W).1 ⟨b, hb, rfl⟩ with e | ⟨c, hc, e⟩
      · omega
      · have := h1 c hc; omega
    · by_cases a2 : a.id = k
      · rw [if_neg a1, if_pos a2]
        refine List.pairwise_cons.2 ⟨fun b hb => ?_, h2⟩
        have := h1 b hb
        show k < b.id
        omega
      · simp only [a1, a2, if_false]
        refine List.pairwise_cons.2 ⟨fun b hb => ?_, h⟩
        show k < b.id
        rcases List.mem_cons.1 hb with e | hb
        · subst e; omega
        · have := h1 b hb; omega

theorem wgF_ris (d : Nat) : ∀ (L : List Osd) (W : List Wd), Ris W → Ris (wgF d W L)
  | [], W, h => h
  | o :: L, W, h => wgF_ris d L _ (ins_ris _ _ W h)
theorem wg_ris (d : Nat) (L : List Osd) : Ris (wg d L) := wgF_ris d L [] List.Pairwise.nil

/- What a number weighs. -/
def look (k : Int) : List Wd → Int
  | [] => 0
  | a :: W => if a.id = k then a.wt else look k W

theorem look_no {k : Int} : ∀ {W : List Wd}, ¬ Has W k → look k W = 0
  | [], _ => rfl
  | a :: W, h => by
    have h1 : ¬ a.id = k := fun e => h ⟨a, List.mem_cons_self, e⟩
    simp only [look, h1, if_false]
    exact look_no fun ⟨b, hb, e⟩ => h ⟨b, List.mem_cons_of_mem _ hb, e⟩

theorem look_mem : ∀ {W : List Wd}, Ris W → ∀ a ∈ W, look a.id W = a.wt
  | [], _, a, h => by cases h
  | b :: W, hr, a, h => by
    obtain ⟨h1, h2⟩ := List.pairwise_cons.1 hr
    rcases List.mem_cons.1 h with e | h
    · subst e; simp [look]
    · have := h1 a h
      have h3 : ¬ b.id = a.id := by omega
      simp only [look, h3, if_false]
      exact look_mem h2 a h

theorem look_ins (k z j : Int) : ∀ W, Ris W → look j (insW k z W) = look j W + if k = j then z else 0
  | [], _ => by simp [insW, look]
  | a :: W, hr => by
    obtain ⟨h1, h2⟩ := List.pairwise_cons.1 hr
    simp only [insW]
    by_cases a1 : a.id < k
    · simp only [a1, if_true, look]
      by_cases e : a.id = j
      · have : ¬ k = j := by omega
        simp [e, this]
      · simp only [e, if_false]
        exact look_ins k z j W h2
    · by_cases a2 : a.id = k
      · rw [if_neg a1, if_pos a2]
        simp only [look, a2]
        by_cases e : k = j
        · simp [e]
        · simp [e]
      · simp only [a1, a2, if_false, look]
        by_cases e : k = j
        · have h3 : ¬ a.id = j := by omega
          have h4 : look j W = 0 := look_no fun ⟨b, hb, q⟩ => by have := h1 b hb; omega
          simp [e, h3, h4]
        · simp [e]

def sub (L : List Osd) (d : Nat) (k : Int) : List Osd := L.filter (fun o => decide (kO d o = k))
def sumW : List Osd → Int
  | [] => 0
  | o :: L => wO o + sumW L

theorem sumW_app : ∀ L K : List Osd, sumW (L ++ K) = sumW L + sumW K
  | [], K => by simp [sumW]
  | o :: L, K => by simp [sumW, sumW_app L K]; omega

theorem wgF_look (d : Nat) (j : Int) : ∀ (L : List Osd) (W : List Wd), Ris W → look j (wgF d W L) = look j W + sumW (sub L d j)
  | [], W, h => by simp [wgF, sub, sumW]
  | o :: L, W, h => by
    rw [wgF_cons, wgF_look d j L _ (ins_ris _ _ W h), look_ins _ _ _ W h]
    unfold sub
    by_cases e : kO d o = j
    · simp [e, sumW]; omega
    · simp [e]

theorem wg_look (d : Nat) (j : Int) (L : List Osd) : look j (wg d L) = sumW (sub L d j) := by
  unfold wg
  rw [wgF_look d j L [] List.Pairwise.nil]
  simp [look]

theorem wg_wt {d : Nat} {L : List Osd} {a : Wd} (h : a ∈ wg d L) : a.wt = sumW (sub L d a.id) := by
  rw [← wg_look, look_mem (wg_ris d L) a h]

/- A group behind others whose numbers are lower. -/
theorem ins_end {k z : Int} : ∀ {W : List Wd}, (∀ a ∈ W, a.id < k) → insW k z W = W ++ [⟨k, z⟩]
  | [], _ => rfl
  | a :: W, h => by
    simp only [insW, h a List.mem_cons_self, if_true, List.cons_append]
    rw [ins_end fun b hb => h b (List.mem_cons_of_mem _ hb)]
theorem ins_add {k z y : Int} : ∀ {W : List Wd}, (∀ a ∈ W, a.id < k) → insW k z (W ++ [⟨k, y⟩]) = W ++ [⟨k, y + z⟩]
  | [], _ => by simp [insW]
  | a :: W, h => by
    simp only [insW, List.cons_append, h a List.mem_cons_self, if_true]
    rw [ins_add fun b hb => h b (List.mem_cons_of_mem _ hb)]

theorem wgF_more {d : Nat} {k : Int} : ∀ (G : List Osd) (W : List Wd) (y : Int), (∀ a ∈ W, a.id < k) → (∀ o ∈ G, kO d o = k) → wgF d (W ++ [⟨k, y⟩]) G = W ++ [⟨k, y + sumW G⟩]
  | [], W, y, h, hg => by simp [wgF, sumW]
  | o :: G, W, y, h, hg => by
    rw [wgF_cons, hg o List.mem_cons_self, ins_add h, wgF_more G W _ h (fun p hp => hg p (List.mem_cons_of_mem _ hp))]
    simp only [sumW]
    rw [Int.add_assoc]

theorem wg_group {d : Nat} {k : Int} {A G : List Osd} (hA : ∀ o ∈ A, kO d o < k) (hG : ∀ o ∈ G, kO d o = k) (h0 : G ≠ []) : wg d (A ++ G) = wg d A ++ [⟨k, sumW G⟩] := by
  have hl : ∀ a ∈ wg d A, a.id < k := fun a ha => by
    obtain ⟨o, ho, e⟩ := (wg_has d a.id A).1 ⟨a, ha, rfl⟩
    have := hA o ho
    omega
  cases G with
  | nil => exact absurd rfl h0
  | cons o G =>
    have e : wg d (A ++ o :: G) = wgF d (wg d A) (o :: G) := by simp [wg, wgF]
    rw [e, wgF_cons, hG o List.mem_cons_self, ins_end hl, wgF_more G _ _ hl (fun p hp => hG p (List.mem_cons_of_mem _ hp))]
    rfl

/- A step of a descent, the whole descent. -/
structure Pa where
  rk : Int
  ho : Int
  id : Int

def lv (L : List Osd) (d x r : Nat) : Int := cho (DL (Mi.h2 x (4 - d)) r (wg d L)) (wg d L).length
def pk (L : List Osd) (d : Nat) (c : Int) : Int := (((wg d L)[c.toNat]?).map (fun a => a.id)).getD 0
def stp (L : List Osd) (d x r : Nat) : Option Int := if lv L d x r < 0 then none else some (pk L d (lv L d x r))

def dsc (L : List Osd) (x r : Nat) : Option Pa :=
  match stp L 3 x r with
  | none => none
  | some k => match stp (sub L 3 k) 2 x r with
    | none => none
    | some h => match stp (sub (sub L 3 k) 2 h) 1 x r with
      | none => none
      | some i => some ⟨k, h, i⟩

theorem stp_perm {L K : List Osd} (h : L.Perm K) (d x r : Nat) : stp L d x r = stp K d x r := by
  unfold stp lv pk
  rw [wg_perm d h]
theorem sub_perm {L K : List Osd} (h : L.Perm K) (d : Nat) (k : Int) : (sub L d k).Perm (sub K d k) := h.filter _

theorem dsc_perm {L K : List Osd} (h : L.Perm K) (x r : Nat) : dsc L x r = dsc K x r := by
  unfold dsc
  rw [stp_perm h]
  cases stp K 3 x r with
  | none => rfl
  | some k =>
    have h1 := sub_perm h 3 k
    dsimp only
    rw [stp_perm h1]
    cases stp (sub K 3 k) 2 x r with
    | none => rfl
    | some j =>
      dsimp only
      rw [stp_perm (sub_perm h1 2 j)]

/- Who is chosen at a step is there, and has weight. -/
theorem stp_some {L : List Osd} {d x r : Nat} {k : Int} (h : stp L d x r = some k) : ∃ (i : Nat) (a : Wd), lv L d x r = (i : Int) ∧ (wg d L)[i]? = some a ∧ a.id = k ∧ 1 ≤ a.wt := by
  unfold stp at h
  split at h
  · cases h
  · rename_i hn
    obtain ⟨i, hi⟩ := Int.eq_ofNat_of_zero_le (show 0 ≤ lv L d x r by omega)
    have hc := hi
    unfold lv at hc
    obtain ⟨e, h1, h2, _⟩ := Sr.cho_out hc
    obtain ⟨a, ha⟩ : ∃ a, (wg d L)[i]? = some a := ⟨_, List.getElem?_eq_getElem h1⟩
    refine ⟨i, a, hi, ha, ?_, ?_⟩
    · injection h with h
      rw [hi] at h
      unfold pk at h
      rw [show ((i : Int)).toNat = i by omega, ha] at h
      exact h
    · cases hb : okB a with
      | false => rw [Sr.DL_no ha hb] at h2; cases h2
      | true =>
        unfold okB at hb
        exact (of_decide_eq_true hb).1

theorem stp_pos {L : List Osd} {d x r : Nat} {k : Int} (h : stp L d x r = some k) : (∃ o ∈ L, kO d o = k) ∧ 1 ≤ sumW (sub L d k) := by
  obtain ⟨i, a, _, h2, h3, h4⟩ := stp_some h
  have hm := List.mem_of_getElem? h2
  refine ⟨(wg_has d k L).1 ⟨a, hm, h3⟩, ?_⟩
  rw [← h3, ← wg_wt hm]
  exact h4

theorem sum_pos : ∀ {L : List Osd}, 1 ≤ sumW L → ∃ o ∈ L, 1 ≤ wO o
  | [], h => by simp [sumW] at h
  | o :: L, h => by
    simp only [sumW] at h
    by_cases h1 : 1 ≤ wO o
    · exact ⟨o, List.mem_cons_self, h1⟩
    · obtain ⟨p, hp, q⟩ := sum_pos (L := L) (by omega)
      exact ⟨p, List.mem_cons_of_mem _ hp, q⟩

theorem mem_sub {L : List Osd} {d : Nat} {k : Int} {o : Osd} : o ∈ sub L d k ↔ o ∈ L ∧ kO d o = k := by simp [sub]

theorem dsc_some {L : List Osd} {x r : Nat} {p : Pa} (h : dsc L x r = some p) : stp L 3 x r = some p.rk ∧ stp (sub L 3 p.rk) 2 x r = some p.ho ∧ stp (sub (sub L 3 p.rk) 2 p.ho) 1 x r = some p.id := by
  unfold dsc at h
  split at h
  · cases h
  · rename_i k hk
    split at h
    · cases h
    · rename_i j hj
      split at h
      · cases h
      · rename_i i hi
        cases h
        exact ⟨hk, hj, hi⟩

theorem dsc_who {L : List Osd} {x r : Nat} {p : Pa} (h : dsc L x r = some p) : ∃ o ∈ L, o.rack = p.rk ∧ o.host = p.ho ∧ o.id = p.id ∧ 1 ≤ wO o := by
  obtain ⟨_, _, h3⟩ := dsc_some h
  obtain ⟨_, h4⟩ := stp_pos h3
  obtain ⟨o, ho, hw⟩ := sum_pos h4
  rw [mem_sub, mem_sub, mem_sub] at ho
  exact ⟨o, ho.1.1.1, ho.1.1.2, ho.1.2, ho.2, hw⟩

/- Numbers of which some OSD has weight. -/
def okW (a : Wd) : Bool := decide (0 < a.wt)
def pos (d : Nat) (L : List Osd) : List Int := ((wg d L).filter okW).map (fun a => a.id)
def rm (d : Nat) (L : List Osd) : Nat := (pos d L).length

def NN (L : List Osd) : Prop := ∀ o ∈ L, 0 ≤ wO o

theorem sum_nn : ∀ {L : List Osd}, NN L → 0 ≤ sumW L
  | [], _ => by simp [sumW]
  | o :: L, h => by
    have h1 := h o List.mem_cons_self
    have h2 := sum_nn (L := L) fun p hp => h p (List.mem_cons_of_mem _ hp)
    simp only [sumW]
    omega
theorem sum_ge : ∀ {L : List Osd}, NN L → ∀ o ∈ L, wO o ≤ sumW L
  | [], _, o, h => by cases h
  | p :: L, h, o, ho => by
    have h1 := h p List.mem_cons_self
    have hL : NN L := fun q hq => h q (List.mem_cons_of_mem _ hq)
    have h2 := sum_nn hL
    simp only [sumW]
    rcases List.mem_cons.1 ho with e | ho
    · subst e; omega
    · have := sum_ge hL o ho; omega

theorem NN.sub {L : List Osd} (h : NN L) (d : Nat) (k : Int) : NN (sub L d k) := fun o ho => h o (mem_sub.1 ho).1

theorem mem_pos {d : Nat} {L : List Osd} (h : NN L) (k : Int) : k ∈ pos d L ↔ ∃ o ∈ L, kO d o = k ∧ 1 ≤ wO o := by
  unfold pos
  simp only [List.mem_map, List.mem_filter, okW, decide_eq_true_eq]
  constructor
  · rintro ⟨a, ⟨h1, h2⟩, rfl⟩
    rw [wg_wt h1] at h2
    obtain ⟨o, ho, hw⟩ := sum_pos (show 1 ≤ sumW (sub L d a.id) by omega)
    exact ⟨o, (mem_sub.1 ho).1, (mem_sub.1 ho).2, hw⟩
  · rintro ⟨o, ho, hk, hw⟩
    obtain ⟨a, ha, e⟩ := (wg_has d k L).2 ⟨o, ho, hk⟩
    refine ⟨a, ⟨ha, ?_⟩, e⟩
    rw [wg_wt ha]
    have := sum_ge (h.sub d a.id) o (mem_sub.2 ⟨ho, by rw [hk, e]⟩)
    omega

def Inc (l : List Int) : Prop := l.Pairwise (fun a b => a < b)

theorem pos_inc (d : Nat) (L : List Osd) : Inc (pos d L) := by
  unfold Inc pos
  rw [List.pairwise_map]
  exact (wg_ris d L).filter _

/- Rising lists with the same members are the same. -/
theorem inc_ext : ∀ {l m : List Int}, Inc l → Inc m → (∀ k, k ∈ l ↔ k ∈ m) → l = m
  | [], [], _, _, _ => rfl
  | [], b :: m, _, _, h => by have := (h b).2 List.mem_cons_self; cases this
  | a :: l, [], _, _, h => by have := (h a).1 List.mem_cons_self; cases this
  | a :: l, b :: m, h1, h2, h => by
    obtain ⟨a1, a2⟩ := List.pairwise_cons.1 h1
    obtain ⟨b1, b2⟩ := List.pairwise_cons.1 h2
    have e : a = b := by
      rcases List.mem_cons.1 ((h a).1 List.mem_cons_self) with e | ha
      · exact e
      · rcases List.mem_cons.1 ((h b).2 List.mem_cons_self) with e | hb
        · exact e.symm
        · have := a1 b hb
          have := b1 a ha
          omega
    subst e
    congr 1
    refine inc_ext a2 b2 fun k => ⟨fun hk => ?_, fun hk => ?_⟩
    · rcases List.mem_cons.1 ((h k).1 (List.mem_cons_of_mem _ hk)) with e | q
      · have := a1 k hk; omega
      · exact q
    · rcases List.mem_cons.1 ((h k).2 (List.mem_cons_of_mem _ hk)) with e | q
      · have := b1 k hk; omega
      · exact q

theorem len_le : ∀ {T P : List Int}, T.Nodup → (∀ k ∈ T, k ∈ P) → T.length ≤ P.length
  | [], P, _, _ => by simp
  | a :: T, P, h, hs => by
    obtain ⟨h1, h2⟩ := List.nodup_cons.1 h
    have ha := hs a List.mem_cons_self
    have := len_le (T := T) (P := P.erase a) h2 fun k hk => (List.mem_erase_of_ne (show k ≠ a from fun e => h1 (by rw [← e]; exact hk))).2 (hs k (List.mem_cons_of_mem _ hk))
    rw [List.length_erase_of_mem ha] at this
    have := List.length_pos_of_mem ha
    simp only [List.length_cons]
    omega

/- A choice, place by place. -/
def kP (d : Nat) (p : Pa) : Int := if d = 3 then p.rk else if d = 2 then p.ho else p.id
def fnd (f : Nat → Option Pa) (d : Nat) (T : List Int) : Nat → Option Pa
  | 0 => none
  | t + 1 => match fnd f d T t with
    | some p => some p
    | none => match f t with
      | none => none
      | some p => if kP d p ∈ T then none else some p

def fT (L : List Osd) (want x k : Nat) (t : Nat) : Option Pa := dsc L x (k + t * want)
def tk (d : Nat) (l : List (Option Pa)) : List Int := l.filterMap (fun p => p.map (kP d))
def idP : Option Pa → Int
  | none => -1
  | some p => p.id
def chO (L : List Osd) (d want x : Nat) : Nat → List (Option Pa)
  | 0 => []
  | k + 1 => chO L d want x k ++ [fnd (fT L want x k) d (tk d (chO L d want x k)) 50]
def chs (L : List Osd) (d want x : Nat) : List Int := (chO L d want x want).map idP

theorem chO_len (L : List Osd) (d want x : Nat) : ∀ k, (chO L d want x k).length = k
  | 0 => rfl
  | k + 1 => by simp [chO, chO_len L d want x k]

theorem fnd_some {f : Nat → Option Pa} {d : Nat} {T : List Int} {p : Pa} : ∀ {t : Nat}, fnd f d T t = some p → kP d p ∉ T ∧ ∃ s, s < t ∧ f s = some p
  | 0, h => by cases h
  | t + 1, h => by
    simp only [fnd] at h
    split at h
    · rename_i q hq
      cases h
      obtain ⟨h1, s, h2, h3⟩ := fnd_some hq
      exact ⟨h1, s, by omega, h3⟩
    · split at h
      · cases h
      · rename_i q hq
        split at h
        · cases h
        · rename_i hn
          cases h
          exact ⟨hn, t, by omega, hq⟩

theorem fnd_none {f : Nat → Option Pa} {d : Nat} {T : List Int} (h : ∀ s p, f s = some p → kP d p ∈ T) : ∀ t, fnd f d T t = none
  | 0 => rfl
  | t + 1 => by
    simp only [fnd, fnd_none h t]
    cases hf : f t with
    | none => rfl
    | some p => simp [h t p hf]

theorem kP_of {d : Nat} {o : Osd} {p : Pa} (h1 : o.rack = p.rk) (h2 : o.host = p.ho) (h3 : o.id = p.id) : kO d o = kP d p := by
  unfold kO kP
  rw [h1, h2, h3]

theorem tk_app (d : Nat) (l : List (Option Pa)) (p : Option Pa) : tk d (l ++ [p]) = tk d l ++ (match p with | none => [] | some q => [kP d q]) := by
  cases p <;> simp [tk]

/- Whoever has a place has a domain of its own, and weight. -/
theorem tk_ok {L : List Osd} (h : NN L) (d want x : Nat) : ∀ k, (tk d (chO L d want x k)).Nodup ∧ ∀ j ∈ tk d (chO L d want x k), j ∈ pos d L
  | 0 => by simp [chO, tk]
  | k + 1 => by
    obtain ⟨h1, h2⟩ := tk_ok h d want x k
    simp only [chO]
    rw [tk_app]
    cases hf : fnd (fT L want x k) d (tk d (chO L d want x k)) 50 with
    | none => simpa using ⟨h1, h2⟩
    | some p =>
      obtain ⟨q1, s, q2, q3⟩ := fnd_some hf
      obtain ⟨o, o1, o2, o3, o4, o5⟩ := dsc_who q3
      dsimp only
      refine ⟨?_, fun j hj => ?_⟩
      · rw [List.nodup_append]
        refine ⟨h1, by simp, fun a ha b hb e => ?_⟩
        simp at hb
        subst e
        rw [hb] at ha
        exact q1 ha
      · rcases List.mem_append.1 hj with hj | hj
        · exact h2 j hj
        · simp at hj
          rw [hj]
          exact (mem_pos h _).2 ⟨o, o1, kP_of o2 o3 o4, o5⟩

theorem tk_le {L : List Osd} (h : NN L) (d want x k : Nat) : (tk d (chO L d want x k)).length ≤ rm d L := len_le (tk_ok h d want x k).1 (tk_ok h d want x k).2

/- When all domains are taken, nobody is found any more. -/
theorem full_none {L : List Osd} (h : NN L) {d want x k : Nat} (hf : (tk d (chO L d want x k)).length = rm d L) (j : Nat) : fnd (fT L want x j) d (tk d (chO L d want x k)) 50 = none := by
  refine fnd_none (fun s p hp => ?_) 50
  obtain ⟨o, o1, o2, o3, o4, o5⟩ := dsc_who hp
  have hm : kP d p ∈ pos d L := (mem_pos h _).2 ⟨o, o1, kP_of o2 o3 o4, o5⟩
  by_cases hn : kP d p ∈ tk d (chO L d want x k)
  · exact hn
  · have := len_le (T := kP d p :: tk d (chO L d want x k)) (P := pos d L) (List.nodup_cons.2 ⟨hn, (tk_ok h d want x k).1⟩) (fun j hj => by
      rcases List.mem_cons.1 hj with e | hj
      · rw [e]; exact hm
      · exact (tk_ok h d want x k).2 j hj)
    simp only [List.length_cons] at this
    unfold rm at hf
    omega

theorem full_rest {L : List Osd} (h : NN L) {d want x k : Nat} (hf : (tk d (chO L d want x k)).length = rm d L) : ∀ m, chO L d want x (k + m) = chO L d want x k ++ List.replicate m none
  | 0 => by simp
  | m + 1 => by
    have ih := full_rest h hf m
    have ht : tk d (chO L d want x (k + m)) = tk d (chO L d want x k) := by rw [ih]; simp [tk]
    show chO L d want x (k + m + 1) = _
    simp only [chO]
    rw [ht, full_none h hf, ih, List.append_assoc, ← List.replicate_succ']

end Go.Proofs.Ythlfmbijagpggaa.Cr
