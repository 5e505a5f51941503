/-
  2 texts of this proof, one behind the other: ShKeep, ShUnd.
-/
import Derived.Test.YtnfflmndejbepaaShLawP
/-
  What may be stays so, and no fence falls, plainly.
  Conditions: none.
-/
namespace Go.Proofs.Ytnfflmndejbepaa.Sh
set_option linter.unusedSectionVars false
variable [Inhabited DZ]
set_option linter.unusedVariables false
set_option linter.unusedSimpArgs false
set_option maxRecDepth 100000

def Kept (H K : Hld) : Prop := okH K ∧ H.fe ≤ K.fe

theorem keep_ask {H : Hld} (h : okH H) (since : Int) : Kept H (askP H since).1 := by
  by_cases q : (askP H since).2 = 0
  · obtain ⟨_, hw, hf, e⟩ := ask_yes q
    rw [e]
    exact ⟨ask_ok h hw.1 hw.2 hf, hf⟩
  · unfold askP at q ⊢
    rw [bz_true h] at q ⊢
    simp only [if_true] at q ⊢
    by_cases h2 : decide (1 ≤ since ∧ since ≤ 1048576) = true
    · rw [if_pos h2] at q ⊢
      by_cases h3 : since < H.fe
      · rw [if_pos h3]
        exact ⟨h, Int.le_refl _⟩
      · rw [if_neg h3] at q
        exact absurd rfl q
    · rw [if_neg h2]
      exact ⟨h, Int.le_refl _⟩

theorem act_fe {H : Hld} {since : Int} (h : (actP H since).2 = 0) : H.fe ≤ since := by
  by_cases ha : (askP H since).2 = 0
  · exact (ask_yes ha).2.2.1
  · rw [act_no ha] at h
    exact absurd h ha

theorem keep_act {H : Hld} (h : okH H) (since : Int) : Kept H (actP H since).1 := by
  by_cases q : (actP H since).2 = 0
  · obtain ⟨h1, _, h3, _⟩ := act_yes q
    exact ⟨h1, by rw [h3]; exact act_fe q⟩
  · by_cases ha : (askP H since).2 = 0
    · unfold actP at q ⊢
      rw [if_neg (by simp [ha])] at q ⊢
      cases hs : atH H since with
      | none => exact ⟨h, Int.le_refl _⟩
      | some s => rw [hs] at q; exact absurd rfl q
    · rw [act_no ha]
      exact keep_ask h since

theorem keep_stage {H : Hld} (h : okH H) (s : Shd) : Kept H (stageP H s).1 := by
  unfold stageP
  rw [bz_true h]
  simp only [if_true]
  by_cases h1 : bz (s.si ≠ 0 ∧ okS s) = true
  · rw [if_pos h1]
    by_cases h2 : s.si < H.fe ∨ s.si ≤ H.now.si
    · rw [if_pos h2]
      exact ⟨h, Int.le_refl _⟩
    · rw [if_neg h2]
      have hf : H.fe ≤ s.si := by have : ¬ s.si < H.fe := fun e => h2 (.inl e); omega
      have hn : H.now.si < s.si := by have : ¬ s.si ≤ H.now.si := fun e => h2 (.inr e); omega
      by_cases h3 : (H.nx.filter fun x => decide (x.si < s.si)).length < 64
      · rw [if_pos h3]
        exact ⟨stage_ok h (bz_of h1).2 (bz_of h1).1 hf hn h3, hf⟩
      · rw [if_neg h3]
        exact ⟨h, Int.le_refl _⟩
  · rw [if_neg h1]
    exact ⟨h, Int.le_refl _⟩

theorem keep_write {H : Hld} (h : okH H) (since : Int) (e : Ent) (c : Chk) : Kept H (writeP H since e c).1 := by
  unfold writeP
  by_cases q : (actP H since).2 = 0
  · rw [if_neg (by simp [q])]
    obtain ⟨h1, h2, h3, _⟩ := act_yes q
    have hk : Kept H (actP H since).1 := ⟨h1, by rw [h3]; exact act_fe q⟩
    have hs1 : 1 ≤ since := by
      by_cases ha : (askP H since).2 = 0
      · exact (ask_yes ha).2.1.1
      · rw [act_no ha] at q
        exact absurd q ha
    by_cases hb : (bz (okE e) && bz (okC c)) = true
    · rw [if_pos hb]
      split
      · exact hk
      · split
        · rename_i hq
          have hb' := Bool.and_eq_true _ _ ▸ hb
          have he := bz_of hb'.1
          have hc := bz_of hb'.2
          exact ⟨now_ok (s := (actP H since).1.now) h1 (do_ok h1.2.1 (by rw [h2]; omega) he hc (by rw [hq]; simp)) rfl, hk.2⟩
        · split <;> exact hk
    · rw [if_neg hb]
      exact ⟨h, Int.le_refl _⟩
  · rw [if_pos q]
    exact keep_act h since

theorem keep_commit {H : Hld} (h : okH H) (since head : Int) : Kept H (commitP H since head).1 := by
  unfold commitP
  by_cases q : (actP H since).2 = 0
  · rw [if_neg (by simp [q])]
    obtain ⟨h1, h2, h3, _⟩ := act_yes q
    have hs1 : 1 ≤ since := by
      by_cases ha : (askP H since).2 = 0
      · exact (ask_yes ha).2.1.1
      · rw [act_no ha] at q
        exact absurd q ha
    split
    · exact ⟨now_ok (s := (actP H since).1.now) h1 (commit_ok head h1.2.1 (by rw [h2]; omega)) rfl, by show H.fe ≤ (actP H since).1.fe; rw [h3]; exact act_fe q⟩
    · exact ⟨h, Int.le_refl _⟩
  · rw [if_pos q]
    exact keep_act h since

theorem small_stage {H : Hld} {s : Shd} (h : Small H) (hs : SmallS s) (hz : Small zH) : Small (stageP H s).1 := by
  unfold stageP
  split
  · split
    · split
      · exact h
      · split
        · intro t ht
          rcases List.mem_cons.1 ht with e | e
          · rw [e]; exact h _ (List.mem_cons_self ..)
          · rcases List.mem_append.1 e with e | e
            · exact h t (List.mem_cons_of_mem _ (List.mem_filter.1 e).1)
            · rw [List.mem_singleton.1 e]; exact hs
        · exact h
    · exact h
  · exact hz

theorem zH_small : Small zH := fun t ht => by
  rcases List.mem_cons.1 ht with e | e
  · rw [e]; exact ⟨by decide, by decide, by decide⟩
  · cases e

end Go.Proofs.Ytnfflmndejbepaa.Sh

/-
  Entries done one behind the other, and the way back, plainly.
  Conditions: none.
-/
namespace Go.Proofs.Ytnfflmndejbepaa.Sh
set_option linter.unusedSectionVars false
variable [Inhabited DZ]
set_option linter.unusedVariables false
set_option linter.unusedSimpArgs false
set_option maxRecDepth 100000

theorem und_write {H : Hld} {e : Ent} {c : Chk} (h : okH H) (hf : H.fe = H.now.si) (h0 : H.now.si ≠ 0) (hq : e.seq = (H.now.log.length : Int) + 1) :
    writeP H H.now.si e c = if bz (okE e) && bz (okC c) then (⟨H.fe, doE H.now e c, H.nx⟩, 0) else (H, 1) := by
  have hs : 1 ≤ H.now.si ∧ H.now.si ≤ 1048576 := by
    rcases h.2.1 with q | q
    · exact absurd q.1 h0
    · exact q.2.1
  have ha : askP H H.now.si = (⟨H.now.si, H.now, H.nx⟩, 0) := by
    unfold askP
    rw [bz_true h, decide_eq_true hs, if_pos rfl, if_pos rfl, if_neg (by omega)]
  have hact : actP H H.now.si = (⟨H.now.si, H.now, H.nx⟩, 0) := act_now (by rw [ha]) rfl
  unfold writeP
  rw [hact]
  simp only [ne_eq, not_true_eq_false, if_false]
  by_cases hb : (bz (okE e) && bz (okC c)) = true
  · rw [if_pos hb, if_pos hb, if_neg (by omega), if_pos hq, hf]
  · rw [if_neg hb, if_neg hb]

def UInv (S0 : Shd) (N0 : List Shd) (n : Nat) (H : Hld) : Prop := okH H ∧ H.fe = H.now.si ∧ H.now.si = S0.si ∧ H.nx = N0 ∧ Did S0 n H.now ∧ H.now.its.length ≤ S0.its.length + n ∧ H.now.log.length = S0.log.length + n ∧ H.now.und.length = S0.und.length + n

theorem UInv.start {H : Hld} (h : okH H) (hf : H.fe = H.now.si) : UInv H.now H.nx 0 H := ⟨h, hf, rfl, rfl, rfl, Nat.le_refl _, rfl, rfl⟩

theorem UInv.step {S0 : Shd} {N0 : List Shd} {n : Nat} {H : Hld} {e : Ent} {c : Chk} (h : UInv S0 N0 n H) (h0 : S0.si ≠ 0) (hq : e.seq = (H.now.log.length : Int) + 1) (hok : (writeP H H.now.si e c).2 = 0) : UInv S0 N0 (n + 1) (writeP H H.now.si e c).1 := by
  obtain ⟨q1, q2, q3, q4, q5, q6, q7, q8⟩ := h
  have hk := (keep_write q1 H.now.si e c).1
  rw [und_write q1 q2 (by rw [q3]; exact h0) hq] at hk hok ⊢
  by_cases hb : (bz (okE e) && bz (okC c)) = true
  · rw [if_pos hb] at hk ⊢
    refine ⟨hk, q2, q3, q4, ⟨_, _, _, q5, rfl⟩, ?_, ?_, ?_⟩
    · show (doE H.now e c).its.length ≤ _
      have e1 : (doE H.now e c).its = if e.code = 0 then setI H.now.its e.nm (!e.gone) c else H.now.its := rfl
      rw [e1]
      split
      · unfold setI
        have := set_len (nm := e.nm) (c := c) (!!e.gone) H.now.its
        have h9 : (if (!!e.gone) = true then 0 else 1) ≤ 1 := by split <;> omega
        omega
      · omega
    · show (H.now.log ++ [e]).length = _
      rw [List.length_append, List.length_singleton]; omega
    · show (H.now.und ++ [undOf H.now e]).length = _
      rw [List.length_append, List.length_singleton]; omega
  · rw [if_neg hb] at hok
    cases hok

theorem UInv.back {S0 : Shd} {N0 : List Shd} {n : Nat} {H : Hld} (h : UInv S0 N0 n H) (hr : Rise S0.its) : backP H.now (S0.log.length : Int) = (S0, 0) := by
  obtain ⟨q1, q2, q3, q4, q5, q6, q7, q8⟩ := h
  unfold backP
  rw [bz_true q1.2.1, decide_eq_true (show (0 : Int) ≤ (S0.log.length : Int) ∧ (S0.log.length : Int) ≤ (H.now.log.length : Int) by omega)]
  simp only [if_true]
  rw [if_neg (by omega), Int.toNat_natCast, show H.now.log.length - S0.log.length = n by omega, (did_back hr q5).1]

theorem UInv.small {S0 : Shd} {N0 : List Shd} {n : Nat} {H : Hld} (h : UInv S0 N0 n H) (hn : n ≤ 50) (h1 : S0.its.length ≤ 1048576) (h2 : S0.log.length ≤ 1048576) (h3 : S0.und.length ≤ 1048576) (hN : ∀ s ∈ N0, SmallS s) : Small H := fun s hs => by
  obtain ⟨q1, q2, q3, q4, q5, q6, q7, q8⟩ := h
  rcases List.mem_cons.1 hs with e | e
  · rw [e]; exact ⟨by omega, by omega, by omega⟩
  · rw [q4] at e; exact hN s e

end Go.Proofs.Ytnfflmndejbepaa.Sh
