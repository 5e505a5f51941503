/-
  Peering, plainly: which interval an info has or lacks; what infos come to; what was done is not lost.
  Conditions: none.
-/
import Derived.Test.YtgcjecmgjncclaaByRows
namespace Go.Proofs.Ytgcjecmgjncclaa.Pe
set_option linter.unusedVariables false
/- An interval as far as it is asked; an info. -/
structure Itv where
  fr : Int
  ac : List Int
  lv : List Int
structure Inf where
  os : Int
  li : Int
  no : Int
  he : Int
  nx : List (Int × Int)
structure Cho where
  kind : Int
  si : Int
  he : Int
  wh : List Int

def countsL : List Int → List Int → Int → Int → Bool
  | a :: A, l :: L, o, f => (a != -1 && a == o && l == f) || countsL A L o f
  | _, _, _, _ => false
def counts (x : Itv) (i : Inf) : Bool := countsL x.ac x.lv i.os i.li
def nextOf : List (Int × Int) → Int → Option Int
  | [], _ => none
  | p :: L, f => if p.1 = f then some p.2 else nextOf L f
def hasI (x : Itv) (i : Inf) : Option Int := if counts x i then (if i.no = x.fr then some i.he else nextOf i.nx x.fr) else none
def lacks (x : Itv) (i : Inf) : Bool := counts x i && (hasI x i).isNone && decide (i.no < x.fr)
def many (x : Itv) : Nat := (x.ac.filter (· != -1)).length

/- Those that count, of several of one OSD the first alone. -/
def sel (x : Itv) : List Inf → List Int → List Inf
  | [], _ => []
  | i :: L, met => if counts x i && !met.contains i.os then i :: sel x L (i.os :: met) else sel x L met
/- Up to where, and who. -/
def pairs (x : Itv) (S : List Inf) : List (Int × Int) := S.filterMap fun i => (hasI x i).map fun h => (h, i.os)
def heads (x : Itv) (S : List Inf) : List Int := S.filterMap (hasI x)
theorem pairs_heads (x : Itv) : ∀ S : List Inf, (pairs x S).map (·.1) = heads x S
  | [] => rfl
  | i :: S => by
    have := pairs_heads x S
    unfold pairs heads at this ⊢
    rw [List.filterMap_cons, List.filterMap_cons]
    cases hasI x i with
    | none => simpa using this
    | some h => simpa using this

def atLeast (H : List Int) (h : Int) : Nat := (H.filter fun g => decide (h ≤ g)).length
/- The greatest that k have, or more: none, if there is none. -/
def bestF (H : List Int) (k : Int) : List Int → Option Int → Option Int
  | [], b => b
  | h :: L, b => bestF H k L (if k ≤ (atLeast H h : Int) ∧ (b.isNone = true ∨ b.getD 0 < h) then some h else b)
def best (H : List Int) (k : Int) : Option Int := bestF H k H none

def insR (o : Int) : List Int → List Int
  | [] => [o]
  | a :: L => if o < a then o :: a :: L else a :: insR o L
def whoR : List (Int × Int) → Int → List Int → List Int
  | [], _, W => W
  | p :: L, b, W => whoR L b (if p.1 < b then W else insR p.2 W)
def stateC (f : Int) (P : List (Int × Int)) (k : Int) : Cho := ⟨1, f, (best (P.map (·.1)) k).getD 0, whoR P ((best (P.map (·.1)) k).getD 0) []⟩

def falls : List Itv → Bool
  | x :: y :: L => decide (y.fr < x.fr) && falls (y :: L)
  | _ => true
def zC : Cho := ⟨0, 0, 0, []⟩
def goes (kS kW kE : Int) (infos : List Inf) (k : Int) : List Itv → Cho
  | [] => ⟨kE, 0, 0, []⟩
  | x :: L => if (many x : Int) < k then goes kS kW kE infos k L else
    if k ≤ ((pairs x (sel x infos [])).length : Int) then { stateC x.fr (pairs x (sel x infos [])) k with kind := kS } else
    if (sel x infos []).any (lacks x) then goes kS kW kE infos k L else ⟨kW, 0, 0, []⟩

theorem falls_lt : ∀ {L : List Itv} {x : Itv}, falls (x :: L) = true → ∀ y ∈ L, y.fr < x.fr
  | [], x, _, y, hy => by cases hy
  | z :: L, x, h, y, hy => by
    unfold falls at h
    simp only [Bool.and_eq_true, decide_eq_true_eq] at h
    rcases List.mem_cons.1 hy with e | e
    · rw [e]; exact h.1
    · exact Int.lt_trans (falls_lt h.2 y e) h.1
theorem falls_tail {x : Itv} : ∀ {L : List Itv}, falls (x :: L) = true → falls L = true
  | [], _ => rfl
  | z :: L, h => by unfold falls at h; simp only [Bool.and_eq_true] at h; exact h.2

theorem bestF_mem (H : List Int) (k : Int) : ∀ (L : List Int) (b : Option Int) (v : Int), bestF H k L b = some v → v ∈ L ∨ b = some v
  | [], b, v, h => .inr h
  | a :: L, b, v, h => by
    unfold bestF at h
    rcases bestF_mem H k L _ v h with e | e
    · exact .inl (List.mem_cons_of_mem _ e)
    · split at e
      · injection e with e; subst e; exact .inl (List.mem_cons_self ..)
      · exact .inr e
theorem bestF_keep (H : List Int) (k : Int) : ∀ (L : List Int) (b : Option Int), b.isSome = true → (bestF H k L b).isSome = true
  | [], b, h => h
  | a :: L, b, h => by
    unfold bestF
    apply bestF_keep H k L
    split
    · rfl
    · exact h
theorem bestF_some (H : List Int) (k : Int) : ∀ (L : List Int) (b : Option Int) (a : Int), a ∈ L → k ≤ (atLeast H a : Int) → (bestF H k L b).isSome = true
  | [], b, a, h, _ => by cases h
  | c :: L, b, a, h, hk => by
    unfold bestF
    rcases List.mem_cons.1 h with e | e
    · subst e
      apply bestF_keep H k L
      split
      · rfl
      · rename_i hn
        cases b with
        | none => exact absurd ⟨hk, .inl rfl⟩ hn
        | some _ => rfl
    · exact bestF_some H k L _ a e hk
theorem min_ex : ∀ (H : List Int), H ≠ [] → ∃ a ∈ H, ∀ b ∈ H, a ≤ b
  | [], h => absurd rfl h
  | [a], _ => ⟨a, List.mem_cons_self .., fun b hb => by rcases List.mem_cons.1 hb with e | e; exact Int.le_of_eq e.symm; cases e⟩
  | a :: c :: L, _ => by
    obtain ⟨m, hm, h⟩ := min_ex (c :: L) (by simp)
    by_cases e : a ≤ m
    · refine ⟨a, List.mem_cons_self .., fun b hb => ?_⟩
      rcases List.mem_cons.1 hb with q | q
      · exact Int.le_of_eq q.symm
      · exact Int.le_trans e (h b q)
    · refine ⟨m, List.mem_cons_of_mem _ hm, fun b hb => ?_⟩
      rcases List.mem_cons.1 hb with q | q
      · subst q; omega
      · exact h b q
theorem best_mem {H : List Int} {k : Int} (h1 : 1 ≤ k) (hk : k ≤ (H.length : Int)) : ∃ v, best H k = some v ∧ v ∈ H := by
  have hne : H ≠ [] := fun e => by subst e; simp at hk; omega
  obtain ⟨a, ha, hm⟩ := min_ex H hne
  have : atLeast H a = H.length := by
    unfold atLeast
    rw [List.filter_eq_self.2 (fun b hb => by simpa using hm b hb)]
  have hs := bestF_some H k H none a ha (by rw [this]; exact hk)
  cases e : best H k with
  | none => unfold best at e; rw [e] at hs; cases hs
  | some v =>
    refine ⟨v, rfl, ?_⟩
    rcases bestF_mem H k H none v e with q | q
    · exact q
    · cases q

theorem sel_in (x : Itv) : ∀ (L : List Inf) (met : List Int) (i : Inf), i ∈ sel x L met → i ∈ L ∧ counts x i = true
  | [], _, i, h => by cases h
  | j :: L, met, i, h => by
    unfold sel at h
    split at h
    · rename_i hc
      simp only [Bool.and_eq_true] at hc
      rcases List.mem_cons.1 h with e | e
      · subst e; exact ⟨List.mem_cons_self .., hc.1⟩
      · have := sel_in x L _ i e; exact ⟨List.mem_cons_of_mem _ this.1, this.2⟩
    · have := sel_in x L _ i h; exact ⟨List.mem_cons_of_mem _ this.1, this.2⟩
theorem sel_app (x : Itv) (M : List Inf) : ∀ (L : List Inf) (met : List Int), ∃ R, sel x (L ++ M) met = sel x L met ++ R
  | [], met => ⟨sel x M met, rfl⟩
  | i :: L, met => by
    rw [List.cons_append]
    unfold sel
    split
    · obtain ⟨R, h⟩ := sel_app x M L (i.os :: met)
      exact ⟨R, by rw [h]; rfl⟩
    · exact sel_app x M L met
theorem pairs_app (x : Itv) (S R : List Inf) : pairs x (S ++ R) = pairs x S ++ pairs x R := by unfold pairs; rw [List.filterMap_append]

/- The theorem of peering. -/
theorem keeps {kS kW kE : Int} {infos : List Inf} {k head : Int} {x : Itv} (h1 : 1 ≤ k) (hm : k ≤ (many x : Int)) (hi : ∀ i ∈ infos, counts x i = true → i.no = x.fr ∧ head ≤ i.he) :
    ∀ {L : List Itv}, falls L = true → x ∈ L → (goes kS kW kE infos k L).kind = kW ∨ ((goes kS kW kE infos k L).kind = kS ∧ (x.fr < (goes kS kW kE infos k L).si ∨ ((goes kS kW kE infos k L).si = x.fr ∧ head ≤ (goes kS kW kE infos k L).he)))
  | [], _, hx => by cases hx
  | y :: L, hf, hx => by
    unfold goes
    have has : ∀ i ∈ sel x infos [], hasI x i = some i.he ∧ head ≤ i.he := fun i h => by
      obtain ⟨q1, q2⟩ := sel_in x infos [] i h
      obtain ⟨q3, q4⟩ := hi i q1 q2
      exact ⟨by unfold hasI; rw [if_pos q2, if_pos q3], q4⟩
    by_cases e : y = x
    · subst e
      rw [if_neg (by omega)]
      split
      · rename_i hk
        refine .inr ⟨rfl, .inr ⟨rfl, ?_⟩⟩
        obtain ⟨v, hv, hm⟩ := best_mem (H := (pairs y (sel y infos [])).map (·.1)) h1 (by simpa using hk)
        show head ≤ (best _ k).getD 0
        rw [hv]
        rw [pairs_heads] at hm
        obtain ⟨i, hi1, hi2⟩ := List.mem_filterMap.1 hm
        rw [(has i hi1).1] at hi2
        injection hi2 with hi2
        subst hi2
        exact (has i hi1).2
      · rw [if_neg]
        · exact .inl rfl
        · intro h
          obtain ⟨i, hi1, hi2⟩ := List.any_eq_true.1 h
          unfold lacks at hi2
          rw [(has i hi1).1] at hi2
          simp at hi2
    · have hx2 : x ∈ L := by rcases List.mem_cons.1 hx with q | q; exact absurd q.symm e; exact q
      have ih := keeps (kS := kS) (kW := kW) (kE := kE) h1 hm hi (falls_tail hf) hx2
      split
      · exact ih
      · split
        · exact .inr ⟨rfl, .inl (falls_lt hf x hx2)⟩
        · split
          · exact ih
          · exact .inl rfl

/- Infos more never lead back. -/
theorem goes_in (kS kW kE : Int) (infos : List Inf) (k : Int) : ∀ (L : List Itv), (goes kS kW kE infos k L).kind = kS → kS ≠ kW → kS ≠ kE → ∃ y ∈ L, (goes kS kW kE infos k L).si = y.fr
  | [], h, _, h2 => absurd h.symm h2
  | y :: L, h, h1, h2 => by
    unfold goes at h ⊢
    by_cases c1 : (many y : Int) < k
    · rw [if_pos c1] at h ⊢
      obtain ⟨z, hz, e⟩ := goes_in kS kW kE infos k L h h1 h2
      exact ⟨z, List.mem_cons_of_mem _ hz, e⟩
    · rw [if_neg c1] at h ⊢
      by_cases c2 : k ≤ ((pairs y (sel y infos [])).length : Int)
      · rw [if_pos c2]
        exact ⟨y, List.mem_cons_self .., rfl⟩
      · rw [if_neg c2] at h ⊢
        by_cases c3 : (sel y infos []).any (lacks y) = true
        · rw [if_pos c3] at h ⊢
          obtain ⟨z, hz, e⟩ := goes_in kS kW kE infos k L h h1 h2
          exact ⟨z, List.mem_cons_of_mem _ hz, e⟩
        · rw [if_neg c3] at h
          exact absurd h.symm h1
theorem more {kS kW kE : Int} (hw : kS ≠ kW) (he : kS ≠ kE) {infos M : List Inf} {k : Int} : ∀ {L : List Itv}, falls L = true → (goes kS kW kE infos k L).kind = kS →
    (goes kS kW kE (infos ++ M) k L).kind = kS ∧ (goes kS kW kE infos k L).si ≤ (goes kS kW kE (infos ++ M) k L).si
  | [], _, h => absurd h.symm he
  | y :: L, hf, h => by
    obtain ⟨R, hR⟩ := sel_app y M infos []
    have hin := goes_in kS kW kE infos k L
    have ih := more hw he (infos := infos) (M := M) (k := k) (falls_tail hf)
    unfold goes at h ⊢
    by_cases c1 : (many y : Int) < k
    · rw [if_pos c1] at h ⊢
      rw [if_pos c1]
      exact ih h
    · rw [if_neg c1] at h ⊢
      rw [if_neg c1]
      have hp : (pairs y (sel y (infos ++ M) [])).length = (pairs y (sel y infos [])).length + (pairs y R).length := by rw [hR, pairs_app, List.length_append]
      by_cases c2 : k ≤ ((pairs y (sel y infos [])).length : Int)
      · rw [if_pos c2, if_pos (by rw [hp]; omega)]
        exact ⟨rfl, Int.le_refl _⟩
      · rw [if_neg c2] at h ⊢
        by_cases c3 : (sel y infos []).any (lacks y) = true
        · rw [if_pos c3] at h ⊢
          obtain ⟨z, hz, e⟩ := hin h hw he
          have lt := falls_lt hf z hz
          by_cases c4 : k ≤ ((pairs y (sel y (infos ++ M) [])).length : Int)
          · rw [if_pos c4]
            refine ⟨rfl, ?_⟩
            show _ ≤ y.fr
            omega
          · rw [if_neg c4, if_pos (by rw [hR, List.any_append, c3]; rfl)]
            exact ih h
        · rw [if_neg c3] at h
          exact absurd h.symm hw

/- When nothing is taken for the state. -/
theorem empties {kS kW kE : Int} (h1 : kE ≠ kS) (h2 : kE ≠ kW) {infos : List Inf} {k : Int} : ∀ {L : List Itv}, (goes kS kW kE infos k L).kind = kE ↔ ∀ x ∈ L, k ≤ (many x : Int) → (sel x infos []).any (lacks x) = true ∧ ((pairs x (sel x infos [])).length : Int) < k
  | [] => ⟨fun _ x hx => (by cases hx), fun _ => rfl⟩
  | y :: L => by
    have ih := empties h1 h2 (infos := infos) (k := k) (L := L)
    unfold goes
    by_cases c1 : (many y : Int) < k
    · rw [if_pos c1, ih]
      refine ⟨fun h x hx hk => ?_, fun h x hx => h x (List.mem_cons_of_mem _ hx)⟩
      rcases List.mem_cons.1 hx with e | e
      · subst e; omega
      · exact h x e hk
    · rw [if_neg c1]
      by_cases c2 : k ≤ ((pairs y (sel y infos [])).length : Int)
      · rw [if_pos c2]
        refine ⟨fun h => absurd h.symm h1, fun h => ?_⟩
        have := (h y (List.mem_cons_self ..) (by omega)).2
        omega
      · rw [if_neg c2]
        by_cases c3 : (sel y infos []).any (lacks y) = true
        · rw [if_pos c3, ih]
          refine ⟨fun h x hx hk => ?_, fun h x hx => h x (List.mem_cons_of_mem _ hx)⟩
          rcases List.mem_cons.1 hx with e | e
          · subst e; exact ⟨c3, by omega⟩
          · exact h x e hk
        · rw [if_neg c3]
          refine ⟨fun h => absurd h.symm h2, fun h => ?_⟩
          exact absurd (h y (List.mem_cons_self ..) (by omega)).1 c3
end Go.Proofs.Ytgcjecmgjncclaa.Pe
