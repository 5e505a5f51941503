/-
  The k-th greatest of a rising list is the greatest that k have; who is told, in rising order.
  Conditions: none.
-/
import Derived.Test.YtgcjecmgjncclaaPeIns
import Derived.Test.YtgcjecmgjncclaaPePlain
namespace Go.Proofs.Ytgcjecmgjncclaa.Pe
set_option linter.unusedVariables false

theorem ins_perm (o : Int) : ∀ W : List Int, (insR o W).Perm (o :: W)
  | [] => List.Perm.refl _
  | a :: W => by
    unfold insR
    split
    · exact List.Perm.refl _
    · exact ((ins_perm o W).cons a).trans (List.Perm.swap o a W)
theorem who_ris (b : Int) : ∀ (P : List (Int × Int)) (W : List Int), Rising W → Rising (whoR P b W)
  | [], W, h => h
  | p :: P, W, h => by
    unfold whoR
    apply who_ris b P
    split
    · exact h
    · exact ins_ris h
theorem who_perm (b : Int) : ∀ (P : List (Int × Int)) (W : List Int), (whoR P b W).Perm (W ++ (P.filter fun p => decide (b ≤ p.1)).map (·.2))
  | [], W => by simp [whoR]
  | p :: P, W => by
    unfold whoR
    by_cases h : p.1 < b
    · rw [if_pos h, List.filter_cons, if_neg (by simpa using h)]
      exact who_perm b P W
    · rw [if_neg h, List.filter_cons, if_pos (by simpa using h)]
      refine (who_perm b P (insR p.2 W)).trans ?_
      refine ((ins_perm p.2 W).append_right _).trans ?_
      exact List.perm_middle.symm
theorem who_is {P : List (Int × Int)} {b : Int} {s : List Int} (hp : s.Perm ((P.filter fun p => decide (b ≤ p.1)).map (·.2))) (hs : s.Pairwise (· ≤ ·)) : s = whoR P b [] :=
  List.Perm.eq_of_pairwise (fun x y _ _ h1 h2 => Int.le_antisymm h1 h2) hs (who_ris b P [] List.Pairwise.nil) (hp.trans (by simpa using (who_perm b P []).symm))

theorem bestF_enough (H : List Int) (k : Int) : ∀ (L : List Int) (b : Option Int) (v : Int), bestF H k L b = some v → k ≤ (atLeast H v : Int) ∨ b = some v
  | [], b, v, h => .inr h
  | a :: L, b, v, h => by
    unfold bestF at h
    rcases bestF_enough H k L _ v h with e | e
    · exact .inl e
    · split at e
      · rename_i hc
        injection e with e
        subst e
        exact .inl hc.1
      · exact .inr e
theorem bestF_top (H : List Int) (k : Int) : ∀ (L : List Int) (b : Option Int) (v : Int), bestF H k L b = some v → (∀ a ∈ L, k ≤ (atLeast H a : Int) → a ≤ v) ∧ ∀ u, b = some u → u ≤ v
  | [], b, v, h => ⟨fun a ha => (by cases ha), fun u hu => by
    have : some u = some v := hu.symm.trans h
    injection this with this
    omega⟩
  | c :: L, b, v, h => by
    unfold bestF at h
    obtain ⟨h1, h2⟩ := bestF_top H k L _ v h
    by_cases q : k ≤ (atLeast H c : Int) ∧ (b.isNone = true ∨ b.getD 0 < c)
    · have hcv := h2 c (if_pos q)
      refine ⟨fun a ha hk => ?_, fun u hu => ?_⟩
      · rcases List.mem_cons.1 ha with e | e
        · rw [e]; exact hcv
        · exact h1 a e hk
      · subst hu
        rcases q.2 with e | e
        · cases e
        · have e' : u < c := e
          omega
    · have hb : ∀ u, b = some u → u ≤ v := fun u hu => h2 u (by rw [if_neg q]; exact hu)
      refine ⟨fun a ha hk => ?_, hb⟩
      rcases List.mem_cons.1 ha with e | e
      · subst e
        cases b with
        | none => exact absurd ⟨hk, .inl rfl⟩ q
        | some u =>
          have := hb u rfl
          have hn : ¬ u < a := fun hlt => q ⟨hk, .inr hlt⟩
          omega
      · exact h1 a e hk

theorem at_perm {s H : List Int} (hp : s.Perm H) (h : Int) : atLeast H h = atLeast s h := by
  unfold atLeast
  exact ((hp.filter _).length_eq).symm

theorem best_at {H s : List Int} {k : Int} {q : Nat} {z : Int} (hp : s.Perm H) (hs : s.Pairwise (· ≤ ·)) (h1 : 1 ≤ k) (hq : (q : Int) + k = (H.length : Int)) (hz : s[q]? = some z) : best H k = some z := by
  have hlen := hp.length_eq
  obtain ⟨v, hv, hvm⟩ := best_mem (H := H) h1 (by omega)
  have hzm : z ∈ H := hp.mem_iff.1 (List.mem_of_getElem? hz)
  have hge : k ≤ (atLeast H z : Int) := by
    rw [at_perm hp]
    unfold atLeast
    have e : s.filter (fun g => decide (z ≤ g)) = (s.take q).filter (fun g => decide (z ≤ g)) ++ (s.drop q).filter (fun g => decide (z ≤ g)) := by rw [← List.filter_append, List.take_append_drop]
    have e2 : (s.drop q).filter (fun g => decide (z ≤ g)) = s.drop q := List.filter_eq_self.2 (fun a ha => by
      obtain ⟨j, hj⟩ := List.mem_iff_getElem?.1 ha
      rw [List.getElem?_drop] at hj
      exact decide_eq_true (ris_le hs (Nat.le_add_right q j) hz hj))
    rw [e, List.length_append, e2, List.length_drop]
    omega
  have hzv : z ≤ v := (bestF_top H k H none v hv).1 z hzm hge
  have hvk : k ≤ (atLeast H v : Int) := by
    rcases bestF_enough H k H none v hv with e | e
    · exact e
    · cases e
  have hvz : v ≤ z := by
    by_cases q2 : v ≤ z
    · exact q2
    · exfalso
      rw [at_perm hp] at hvk
      unfold atLeast at hvk
      have e : s.filter (fun g => decide (v ≤ g)) = (s.take (q + 1)).filter (fun g => decide (v ≤ g)) ++ (s.drop (q + 1)).filter (fun g => decide (v ≤ g)) := by rw [← List.filter_append, List.take_append_drop]
      have e2 : (s.take (q + 1)).filter (fun g => decide (v ≤ g)) = [] := by
        rw [List.filter_eq_nil_iff]
        intro a ha
        obtain ⟨j, hj⟩ := List.mem_iff_getElem?.1 ha
        rw [List.getElem?_take] at hj
        split at hj
        · have := ris_le hs (show j ≤ q by omega) hj hz
          simp
          omega
        · cases hj
      have e3 := List.length_filter_le (fun g => decide (v ≤ g)) (s.drop (q + 1))
      rw [e, e2, List.nil_append] at hvk
      rw [List.length_drop] at e3
      omega
  rw [hv]
  exact congrArg some (Int.le_antisymm hvz hzv)

/- One more is seen. -/
theorem pairs_take {x : Itv} {S : List Inf} {t : Nat} {i : Inf} (h : S[t]? = some i) : pairs x (S.take (t + 1)) = pairs x (S.take t) ++ ((hasI x i).map fun h => (h, i.os)).toList := by
  have e : pairs x [i] = ((hasI x i).map fun h => (h, i.os)).toList := by
    unfold pairs
    rw [List.filterMap_cons]
    cases hasI x i <;> rfl
  rw [List.take_add_one, h, pairs_app, ← e]
  rfl
def wl (b : Int) (P : List (Int × Int)) : List Int := (P.filter fun p => decide (b ≤ p.1)).map (·.2)
theorem wl_app (b : Int) (P R : List (Int × Int)) : wl b (P ++ R) = wl b P ++ wl b R := by
  unfold wl
  rw [List.filter_append, List.map_append]
theorem pairs_le (x : Itv) (S : List Inf) (t : Nat) : (pairs x (S.take t)).length ≤ t := by
  unfold pairs
  exact Nat.le_trans (List.length_filterMap_le (fun i => (hasI x i).map fun h => (h, i.os)) (S.take t)) (by rw [List.length_take]; omega)
theorem wl_le (b : Int) (P : List (Int × Int)) : (wl b P).length ≤ P.length := by
  unfold wl
  rw [List.length_map]
  exact List.length_filter_le _ _
end Go.Proofs.Ytgcjecmgjncclaa.Pe
