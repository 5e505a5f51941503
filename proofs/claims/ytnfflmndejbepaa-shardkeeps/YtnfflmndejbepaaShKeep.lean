/-
  What may be stays so, and no fence falls, plainly.
  Conditions: none.
-/
import Derived.Test.YtnfflmndejbepaaShLawP
namespace Go.Proofs.Ytnfflmndejbepaa.Sh
set_option linter.unusedSectionVars false
variable [Inhabited DZ]
set_option linter.unusedVariables false
set_option linter.unusedSimpArgs false
set_option maxRecDepth 100000

def Kept (H K : Hld) : Prop := okH K ∧ H.fe ≤ K.fe

theorem keep_ask {H : Hld} (h : okH H) (since : Int) : Kept H (askP H since).1 := by
  by_cases q : (askP H since).2 = 0
  · obtain ⟨_, hw, hf, e⟩ := ask_yes q
    rw [e]
    exact ⟨ask_ok h hw.1 hw.2 hf, hf⟩
  · unfold askP at q ⊢
    rw [bz_true h] at q ⊢
    simp only [if_true] at q ⊢
    by_cases h2 : decide (1 ≤ since ∧ since ≤ 1048576) = true
    · rw [if_pos h2] at q ⊢
      by_cases h3 : since < H.fe
      · rw [if_pos h3]
        exact ⟨h, Int.le_refl _⟩
      · rw [if_neg h3] at q
        exact absurd rfl q
    · rw [if_neg h2]
      exact ⟨h, Int.le_refl _⟩

theorem act_fe {H : Hld} {since : Int} (h : (actP H since).2 = 0) : H.fe ≤ since := by
  by_cases ha : (askP H since).2 = 0
  · exact (ask_yes ha).2.2.1
  · rw [act_no ha] at h
    exact absurd h ha

theorem keep_act {H : Hld} (h : okH H) (since : Int) : Kept H (actP H since).1 := by
  by_cases q : (actP H since).2 = 0
  · obtain ⟨h1, _, h3, _⟩ := act_yes q
    exact ⟨h1, by rw [h3]; exact act_fe q⟩
  · by_cases ha : (askP H since).2 = 0
    · unfold actP at q ⊢
      rw [if_neg (by simp [ha])] at q ⊢
      cases hs : atH H since with
      | none => exact ⟨h, Int.le_refl _⟩
      | some s => rw [hs] at q; exact absurd rfl q
    · rw [act_no ha]
      exact keep_ask h since

theorem keep_stage {H : Hld} (h : okH H) (s : Shd) : Kept H (stageP H s).1 := by
  unfold stageP
  rw [bz_true h]
  simp only [if_true]
  by_cases h1 : bz (s.si ≠ 0 ∧ okS s) = true
  · rw [if_pos h1]
    by_cases h2 : s.si < H.fe ∨ s.si ≤ H.now.si
    · rw [if_pos h2]
      exact ⟨h, Int.le_refl _⟩
    · rw [if_neg h2]
      have hf : H.fe ≤ s.si := by have : ¬ s.si < H.fe := fun e => h2 (.inl e); omega
      have hn : H.now.si < s.si := by have : ¬ s.si ≤ H.now.si := fun e => h2 (.inr e); omega
      by_cases h3 : (H.nx.filter fun x => decide (x.si < s.si)).length < 64
      · rw [if_pos h3]
        exact ⟨stage_ok h (bz_of h1).2 (bz_of h1).1 hf hn h3, hf⟩
      · rw [if_neg h3]
        exact ⟨h, Int.le_refl _⟩
  · rw [if_neg h1]
    exact ⟨h, Int.le_refl _⟩

theorem keep_write {H : Hld} (h : okH H) (since : Int) (e : Ent) (c : Chk) : Kept H (writeP H since e c).1 := by
  unfold writeP
  by_cases q : (actP H since).2 = 0
  · rw [if_neg (by simp [q])]
    obtain ⟨h1, h2, h3, _⟩ := act_yes q
    have hk : Kept H (actP H since).1 := ⟨h1, by rw [h3]; exact act_fe q⟩
    have hs1 : 1 ≤ since := by
      by_cases ha : (askP H since).2 = 0
      · exact (ask_yes ha).2.1.1
      · rw [act_no ha] at q
        exact absurd q ha
    by_cases hb : (bz (okE e) && bz (okC c)) = true
    · rw [if_pos hb]
      split
      · exact hk
      · split
        · rename_i hq
          have hb' := Bool.and_eq_true _ _ ▸ hb
          have he := bz_of hb'.1
          have hc := bz_of hb'.2
          exact ⟨now_ok (s := (actP H since).1.now) h1 (do_ok h1.2.1 (by rw [h2]; omega) he hc (by rw [hq]; simp)) rfl, hk.2⟩
        · split <;> exact hk
    · rw [if_neg hb]
      exact ⟨h, Int.le_refl _⟩
  · rw [if_pos q]
    exact keep_act h since

theorem keep_commit {H : Hld} (h : okH H) (since head : Int) : Kept H (commitP H since head).1 := by
  unfold commitP
  by_cases q : (actP H since).2 = 0
  · rw [if_neg (by simp [q])]
    obtain ⟨h1, h2, h3, _⟩ := act_yes q
    have hs1 : 1 ≤ since := by
      by_cases ha : (askP H since).2 = 0
      · exact (ask_yes ha).2.1.1
      · rw [act_no ha] at q
        exact absurd q ha
    split
    · exact ⟨now_ok (s := (actP H since).1.now) h1 (commit_ok head h1.2.1 (by rw [h2]; omega)) rfl, by show H.fe ≤ (actP H since).1.fe; rw [h3]; exact act_fe q⟩
    · exact ⟨h, Int.le_refl _⟩
  · rw [if_pos q]
    exact keep_act h since

theorem small_stage {H : Hld} {s : Shd} (h : Small H) (hs : SmallS s) (hz : Small zH) : Small (stageP H s).1 := by
  unfold stageP
  split
  · split
    · split
      · exact h
      · split
        · intro t ht
          rcases List.mem_cons.1 ht with e | e
          · rw [e]; exact h _ (List.mem_cons_self ..)
          · rcases List.mem_append.1 e with e | e
            · exact h t (List.mem_cons_of_mem _ (List.mem_filter.1 e).1)
            · rw [List.mem_singleton.1 e]; exact hs
        · exact h
    · exact h
  · exact hz

theorem zH_small : Small zH := fun t ht => by
  rcases List.mem_cons.1 ht with e | e
  · rw [e]; exact ⟨by decide, by decide, by decide⟩
  · cases e

end Go.Proofs.Ytnfflmndejbepaa.Sh
