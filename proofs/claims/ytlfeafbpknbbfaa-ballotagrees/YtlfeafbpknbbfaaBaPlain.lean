/-
  One decree, plainly: ballots as pairs, what acceptors promise and accept, and why no two values are chosen.
  Conditions: none.
-/
import Derived.Below
namespace Go.Proofs.Ytlfeafbpknbbfaa.Ba
set_option linter.unusedVariables false
set_option linter.unusedSimpArgs false
set_option maxRecDepth 100000

abbrev Bt := Int × Int
def lt (a b : Bt) : Prop := a.1 < b.1 ∨ (a.1 = b.1 ∧ a.2 < b.2)
def z0 : Bt := (0, 0)

theorem bt_ext {a b : Bt} (h1 : a.1 = b.1) (h2 : a.2 = b.2) : a = b := Prod.ext h1 h2
theorem lt_irr (a : Bt) : ¬ lt a a := fun h => by rcases h with h | h <;> omega
theorem lt_trans {a b c : Bt} (h : lt a b) (k : lt b c) : lt a c := by
  unfold lt at *
  omega
theorem lt_asym {a b : Bt} (h : lt a b) (k : lt b a) : False := lt_irr a (lt_trans h k)
theorem lt_tri (a b : Bt) : lt a b ∨ a = b ∨ lt b a := by
  by_cases h : a = b
  · exact .inr (.inl h)
  · have : ¬ (a.1 = b.1 ∧ a.2 = b.2) := fun e => h (bt_ext e.1 e.2)
    unfold lt
    omega
def le (a b : Bt) : Prop := ¬ lt b a
theorem le_refl (a : Bt) : le a a := lt_irr a
theorem le_trans {a b c : Bt} (h : le a b) (k : le b c) : le a c := by
  unfold le lt at *
  omega
theorem lt_le {a b : Bt} (h : lt a b) : le a b := fun k => lt_asym h k
theorem lt_of_lt_le {a b c : Bt} (h : lt a b) (k : le b c) : lt a c := by
  unfold le lt at *
  omega
theorem lt_of_le_lt {a b c : Bt} (h : le a b) (k : lt b c) : lt a c := by
  unfold le lt at *
  omega
theorem le_ne {a b : Bt} (h : le a b) (k : a ≠ b) : lt a b := by
  rcases lt_tri a b with h1 | h1 | h1
  · exact h1
  · exact absurd h1 k
  · exact absurd h1 h

def cnt (q : Nat → Bool) : Nat → Nat
  | 0 => 0
  | n + 1 => cnt q n + (if q n = true then 1 else 0)

theorem cnt_le (q : Nat → Bool) : ∀ n, cnt q n ≤ n
  | 0 => by simp [cnt]
  | n + 1 => by
    have := cnt_le q n
    unfold cnt
    split <;> omega

theorem cnt_congr {q r : Nat → Bool} : ∀ {n}, (∀ k, k < n → q k = r k) → cnt q n = cnt r n
  | 0, _ => rfl
  | n + 1, h => by
    unfold cnt
    rw [cnt_congr (n := n) (fun k hk => h k (by omega)), h n (by omega)]

theorem cnt_meet (q r : Nat → Bool) : ∀ n, cnt q n + cnt r n ≤ n + cnt (fun k => q k && r k) n
  | 0 => by simp [cnt]
  | n + 1 => by
    have := cnt_meet q r n
    unfold cnt
    cases hq : q n <;> cases hr : r n <;> simp <;> omega

theorem cnt_pos {q : Nat → Bool} : ∀ {n}, 0 < cnt q n → ∃ k, k < n ∧ q k = true
  | 0, h => by simp [cnt] at h
  | n + 1, h => by
    unfold cnt at h
    by_cases hq : q n = true
    · exact ⟨n, by omega, hq⟩
    · rw [if_neg hq] at h
      obtain ⟨k, hk, e⟩ := cnt_pos (n := n) h
      exact ⟨k, by omega, e⟩

def Maj (n : Nat) (p : Nat → Prop) : Prop := ∃ q : Nat → Bool, n < 2 * cnt q n ∧ ∀ k, k < n → q k = true → p k

theorem Maj.meet {n : Nat} {p p' : Nat → Prop} (h : Maj n p) (k : Maj n p') : ∃ i, i < n ∧ p i ∧ p' i := by
  obtain ⟨q, h1, h2⟩ := h
  obtain ⟨r, k1, k2⟩ := k
  have := cnt_meet q r n
  obtain ⟨i, hi, e⟩ := cnt_pos (q := fun k => q k && r k) (n := n) (by omega)
  simp only [Bool.and_eq_true] at e
  exact ⟨i, hi, h2 i hi e.1, k2 i hi e.2⟩

theorem Maj.mono {n : Nat} {p p' : Nat → Prop} (h : Maj n p) (k : ∀ i, i < n → p i → p' i) : Maj n p' := by
  obtain ⟨q, h1, h2⟩ := h
  exact ⟨q, h1, fun i hi e => k i hi (h2 i hi e)⟩

def up {α : Type} (f : Nat → α) (k : Nat) (v : α) : Nat → α := fun i => if i = k then v else f i
theorem up_same {α : Type} (f : Nat → α) (k : Nat) (v : α) : up f k v k = v := by simp [up]
theorem up_other {α : Type} (f : Nat → α) {k i : Nat} (v : α) (h : i ≠ k) : up f k v i = f i := by simp [up, h]

abbrev Rec := Option (Bt × List Nat)

structure Inv (n : Nat) (seen : Bt) (P A : Nat → Bt) (D : Nat → List Nat) (PB : Nat → Bt) (PM : Nat → Nat → Rec) (PV : Nat → Option (List Nat)) (V : Bt → Option (List Nat)) (vt : Nat → Bt → Prop) : Prop where
  acc : ∀ k, k < n → A k = z0 ∨ (vt k (A k) ∧ V (A k) = some (D k))
  most : ∀ k, k < n → ∀ b, vt k b → le b (A k)
  accp : ∀ k, k < n → le (A k) (P k)
  prs : ∀ k, k < n → le (P k) seen
  vtv : ∀ k, k < n → ∀ b, vt k b → V b ≠ none
  vpos : ∀ b, V b ≠ none → lt z0 b ∧ le b seen
  safe : ∀ b v, V b = some v → ∀ b', lt b' b → V b' = some v ∨ Maj n (fun k => ¬ vt k b' ∧ lt b' (P k))
  pbs : ∀ m, m < 7 → PB m = z0 ∨ (lt z0 (PB m) ∧ le (PB m) seen ∧ (PB m).2 = (m : Int))
  pm0 : ∀ m, m < 7 → PB m = z0 → (∀ k, PM m k = none) ∧ PV m = none
  pm : ∀ m, m < 7 → ∀ k, k < n → ∀ a d, PM m k = some (a, d) → le (PB m) (P k) ∧ lt a (PB m) ∧ (a = z0 ∨ (vt k a ∧ V a = some d)) ∧ ∀ b, vt k b → lt b (PB m) → le b a
  pv : ∀ m, m < 7 → PB m ≠ z0 → V (PB m) = PV m

def Good (n : Nat) (seen : Bt) (P A : Nat → Bt) (D : Nat → List Nat) (PB : Nat → Bt) (PM : Nat → Nat → Rec) (PV : Nat → Option (List Nat)) (F : Option (List Nat)) : Prop :=
  ∃ V vt, Inv n seen P A D PB PM PV V vt ∧ ∀ f, F = some f → ∃ b, V b = some f ∧ Maj n (fun k => vt k b)

section
variable {n : Nat} {seen : Bt} {P A : Nat → Bt} {D : Nat → List Nat} {PB : Nat → Bt} {PM : Nat → Nat → Rec} {PV : Nat → Option (List Nat)} {F : Option (List Nat)}

theorem Good.init (n : Nat) : Good n z0 (fun _ => z0) (fun _ => z0) (fun _ => []) (fun _ => z0) (fun _ _ => none) (fun _ => none) none :=
  ⟨fun _ => none, fun _ _ => False, ⟨fun k hk => .inl rfl, fun k hk b h => h.elim, fun k hk => le_refl _, fun k hk => le_refl _, fun k hk b h => h.elim, fun b h => absurd rfl h, (fun b v h => by cases h), fun m hm => .inl rfl, fun m hm _ => ⟨fun _ => rfl, rfl⟩,
    (fun m hm k hk a d h => by cases h), fun m hm h => rfl⟩, (fun f h => by cases h)⟩

/- A new ballot, above all that were seen. -/
theorem Good.start (h : Good n seen P A D PB PM PV F) (m : Nat) (hm : m < 7) (b : Bt) (hb : lt seen b) (hz : lt z0 b) (hbm : b.2 = (m : Int)) : Good n b P A D (up PB m b) (up PM m (fun _ => none)) (up PV m none) F := by
  obtain ⟨V, vt, h, hF⟩ := h
  have hne : b ≠ z0 := fun e => lt_irr z0 (e ▸ hz)
  refine ⟨V, vt, ⟨h.acc, h.most, h.accp, fun k hk => le_trans (h.prs k hk) (lt_le hb), h.vtv, fun c hc => ⟨(h.vpos c hc).1, le_trans (h.vpos c hc).2 (lt_le hb)⟩, h.safe, fun i hi => ?_, fun i hi e => ?_, fun i hi k hk a d e => ?_, fun i hi e => ?_⟩, hF⟩
  · by_cases e : i = m
    · subst e
      rw [up_same]
      exact .inr ⟨hz, le_refl _, hbm⟩
    · rw [up_other _ _ e]
      rcases h.pbs i hi with h1 | ⟨h1, h2, h3⟩
      · exact .inl h1
      · exact .inr ⟨h1, le_trans h2 (lt_le hb), h3⟩
  · by_cases e1 : i = m
    · subst e1
      rw [up_same] at e
      exact absurd e hne
    · rw [up_other _ _ e1] at e
      rw [up_other _ _ e1, up_other _ _ e1]
      exact h.pm0 i hi e
  · by_cases e1 : i = m
    · subst e1
      rw [up_same] at e
      cases e
    · rw [up_other _ _ e1] at e
      rw [up_other _ _ e1]
      exact h.pm i hi k hk a d e
  · by_cases e1 : i = m
    · subst e1
      rw [up_same, up_same]
      cases hV : V b with
      | none => rfl
      | some v => exact absurd hb (h.vpos b (by rw [hV]; simp)).2
    · rw [up_other _ _ e1] at e
      rw [up_other _ _ e1, up_other _ _ e1]
      exact h.pv i hi e

/- One of the acceptors promises it. -/
theorem Good.promise (h : Good n seen P A D PB PM PV F) (m : Nat) (hm : m < 7) (hb : PB m = seen) (hz : lt z0 seen) (hv : PV m = none) (k : Nat) (hk : k < n) : Good n seen (up P k seen) A D PB (up PM m (up (PM m) k (some (A k, D k)))) PV F := by
  obtain ⟨V, vt, h, hF⟩ := h
  have hne : PB m ≠ z0 := fun e => lt_irr z0 (by rw [hb] at e; rw [e] at hz; exact hz)
  have hVs : V seen = none := by rw [← hb, h.pv m hm hne, hv]
  have hle : ∀ i, i < n → le (P i) (up P k seen i) := fun i hi => by
    by_cases e : i = k
    · subst e
      rw [up_same]
      exact h.prs i hi
    · rw [up_other _ _ e]
      exact le_refl _
  refine ⟨V, vt, ⟨h.acc, h.most, fun i hi => le_trans (h.accp i hi) (hle i hi), fun i hi => ?_, h.vtv, h.vpos, fun b v hV b' hb' => ?_, h.pbs, fun i hi e => ?_, fun i hi j hj a d e => ?_, h.pv⟩, hF⟩
  · by_cases e : i = k
    · subst e
      rw [up_same]
      exact le_refl _
    · rw [up_other _ _ e]
      exact h.prs i hi
  · rcases h.safe b v hV b' hb' with h1 | h1
    · exact .inl h1
    · exact .inr (h1.mono fun i hi ⟨q1, q2⟩ => ⟨q1, lt_of_lt_le q2 (hle i hi)⟩)
  · have hi2 : i ≠ m := fun e1 => hne (e1 ▸ e)
    rw [up_other _ _ hi2]
    exact h.pm0 i hi e
  · by_cases e1 : i = m
    · subst e1
      rw [up_same] at e
      by_cases e2 : j = k
      · subst e2
        rw [up_same] at e
        injection e with e
        injection e with e3 e4
        subst e3
        subst e4
        rw [up_same]
        refine ⟨by rw [hb]; exact le_refl _, ?_, h.acc j hj, fun b q _ => h.most j hj b q⟩
        rw [hb]
        refine le_ne (le_trans (h.accp j hj) (h.prs j hj)) (fun e5 => ?_)
        rcases h.acc j hj with q | ⟨_, q⟩
        · rw [← e5, q] at hz
          exact lt_irr _ hz
        · rw [e5, hVs] at q
          cases q
      · rw [up_other _ _ e2] at e
        rw [up_other _ _ e2]
        exact h.pm i hi j hj a d e
    · rw [up_other _ _ e1] at e
      obtain ⟨q1, q2⟩ := h.pm i hi j hj a d e
      exact ⟨le_trans q1 (hle j hj), q2⟩

/- What Pick says of those that promised. -/
def Picked (n : Nat) (M : Nat → Rec) (v : List Nat) : Prop :=
  (∀ k, k < n → ∀ a d, M k = some (a, d) → a = z0) ∨ ∃ k a, k < n ∧ M k = some (a, v) ∧ a ≠ z0 ∧ ∀ i, i < n → ∀ a' d', M i = some (a', d') → a' = z0 ∨ le a' a

/- A value is asked for. -/
theorem Good.ask (h : Good n seen P A D PB PM PV F) (m : Nat) (hm : m < 7) (hv : PV m = none) (hq : Maj n (fun k => PM m k ≠ none)) (v : List Nat) (hp : Picked n (PM m) v) : Good n seen P A D PB PM (up PV m (some v)) F := by
  obtain ⟨V, vt, h, hF⟩ := h
  have hne : PB m ≠ z0 := fun e => by
    obtain ⟨i, hi, q, _⟩ := hq.meet hq
    exact q ((h.pm0 m hm e).1 i)
  obtain ⟨hz, hs, hmon⟩ := (h.pbs m hm).resolve_left hne
  obtain ⟨b, hbe⟩ : ∃ b, PB m = b := ⟨_, rfl⟩
  have hVb : V b = none := by rw [← hbe, h.pv m hm hne, hv]
  have old : ∀ c u, V c = some u → (if c = b then some v else V c) = some u := fun c u hc => by
    by_cases e : c = b
    · subst e
      rw [hVb] at hc
      cases hc
    · rw [if_neg e]
      exact hc
  have oldne : ∀ c, V c ≠ none → (if c = b then some v else V c) ≠ none := fun c hc => by
    by_cases e : c = b
    · rw [if_pos e]
      simp
    · rw [if_neg e]
      exact hc
  have all : ∀ b', lt b' b → (∀ k, k < n → ∀ a d, PM m k = some (a, d) → lt a b' ∨ a = z0) → lt z0 b' → Maj n (fun k => ¬ vt k b' ∧ lt b' (P k)) := fun b' hb' hall hb0 => hq.mono fun k hk q => by
    cases e : PM m k with
    | none => exact absurd e q
    | some x =>
      obtain ⟨a, d⟩ := x
      obtain ⟨q1, q2, q3, q4⟩ := h.pm m hm k hk a d e
      rw [hbe] at q1 q2 q4
      refine ⟨fun hvt => ?_, lt_of_lt_le hb' q1⟩
      have := q4 b' hvt hb'
      rcases hall k hk a d e with h1 | h1
      · exact this h1
      · subst h1
        exact this hb0
  have low : ∀ b', ¬ lt z0 b' → lt b' b → Maj n (fun k => ¬ vt k b' ∧ lt b' (P k)) := fun b' h0 hb' => hq.mono fun k hk q => by
    cases e : PM m k with
    | none => exact absurd e q
    | some x =>
      obtain ⟨a, d⟩ := x
      obtain ⟨q1, q2, q3, q4⟩ := h.pm m hm k hk a d e
      rw [hbe] at q1
      exact ⟨fun hvt => h0 (h.vpos b' (h.vtv k hk b' hvt)).1, lt_of_lt_le hb' q1⟩
  refine ⟨fun c => if c = b then some v else V c, vt, ⟨fun k hk => ?_, h.most, h.accp, h.prs, fun k hk c q => oldne c (h.vtv k hk c q), fun c hc => ?_, fun c u hc b' hb' => ?_, h.pbs, fun i hi e => ?_, fun i hi k hk a d e => ?_, fun i hi e => ?_⟩, fun f hf => ?_⟩
  · rcases h.acc k hk with q | ⟨q1, q2⟩
    · exact .inl q
    · exact .inr ⟨q1, old _ _ q2⟩
  · by_cases e : c = b
    · subst e
      rw [← hbe]
      exact ⟨hz, hs⟩
    · simp only [if_neg e] at hc
      exact h.vpos c hc
  · by_cases e : c = b
    · subst e
      simp only [if_true] at hc
      injection hc with hc
      subst hc
      by_cases h0 : lt z0 b'
      · rcases hp with hp | ⟨k, a, hk, ha, hane, hmax⟩
        · exact .inr (all b' hb' (fun k hk a d e => .inr (hp k hk a d e)) h0)
        · obtain ⟨q1, q2, q3, q4⟩ := h.pm m hm k hk a v ha
          have hVa := (q3.resolve_left hane).2
          rcases lt_tri b' a with t | t | t
          · rcases h.safe a v hVa b' t with s | s
            · exact .inl (old _ _ s)
            · exact .inr s
          · subst t
            exact .inl (old _ _ hVa)
          · exact .inr (all b' hb' (fun i hi a' d' e => by
              rcases hmax i hi a' d' e with r | r
              · exact .inr r
              · exact .inl (lt_of_le_lt r t)) h0)
      · exact .inr (low b' h0 hb')
    · simp only [if_neg e] at hc
      rcases h.safe c u hc b' hb' with s | s
      · exact .inl (old _ _ s)
      · exact .inr s
  · have hi2 : i ≠ m := fun e1 => hne (e1 ▸ e)
    rw [up_other _ _ hi2]
    exact h.pm0 i hi e
  · obtain ⟨q1, q2, q3, q4⟩ := h.pm i hi k hk a d e
    refine ⟨q1, q2, ?_, q4⟩
    rcases q3 with q | ⟨q5, q6⟩
    · exact .inl q
    · exact .inr ⟨q5, old _ _ q6⟩
  · by_cases e1 : i = m
    · subst e1
      rw [up_same, hbe]
      simp
    · rw [up_other _ _ e1, ← h.pv i hi e]
      refine if_neg fun e2 => e1 ?_
      obtain ⟨_, _, q⟩ := (h.pbs i hi).resolve_left e
      rw [e2, ← hbe, hmon] at q
      omega
  · obtain ⟨c, q1, q2⟩ := hF f hf
    exact ⟨c, old _ _ q1, q2⟩

/- One of the acceptors accepts. -/
theorem Good.accept (h : Good n seen P A D PB PM PV F) (m : Nat) (hm : m < 7) (hne : PB m ≠ z0) (v : List Nat) (hv : PV m = some v) (k : Nat) (hk : k < n) (hb : le (P k) (PB m)) : Good n seen (up P k (PB m)) (up A k (PB m)) (up D k v) PB PM PV F := by
  obtain ⟨V, vt, h, hF⟩ := h
  obtain ⟨hz, hs, hmon⟩ := (h.pbs m hm).resolve_left hne
  have hVb : V (PB m) = some v := by rw [h.pv m hm hne, hv]
  generalize PB m = b at *
  have hle : ∀ i, i < n → le (P i) (up P k b i) := fun i hi => by
    by_cases e : i = k
    · subst e
      rw [up_same]
      exact hb
    · rw [up_other _ _ e]
      exact le_refl _
  refine ⟨V, fun i c => vt i c ∨ (i = k ∧ c = b), ⟨fun i hi => ?_, fun i hi c q => ?_, fun i hi => ?_, fun i hi => ?_, fun i hi c q => ?_, h.vpos, fun c u hc b' hb' => ?_, h.pbs, h.pm0, fun i hi j hj a d e => ?_, h.pv⟩, fun f hf => ?_⟩
  · by_cases e : i = k
    · subst e
      rw [up_same, up_same]
      exact .inr ⟨.inr ⟨rfl, rfl⟩, hVb⟩
    · rw [up_other _ _ e, up_other _ _ e]
      rcases h.acc i hi with q | ⟨q1, q2⟩
      · exact .inl q
      · exact .inr ⟨.inl q1, q2⟩
  · by_cases e : i = k
    · subst e
      rw [up_same]
      rcases q with q | ⟨_, q⟩
      · exact le_trans (h.most i hi c q) (le_trans (h.accp i hi) hb)
      · rw [q]
        exact le_refl _
    · rw [up_other _ _ e]
      rcases q with q | ⟨q, _⟩
      · exact h.most i hi c q
      · exact absurd q e
  · by_cases e : i = k
    · subst e
      rw [up_same, up_same]
      exact le_refl _
    · rw [up_other _ _ e, up_other _ _ e]
      exact h.accp i hi
  · by_cases e : i = k
    · subst e
      rw [up_same]
      exact hs
    · rw [up_other _ _ e]
      exact h.prs i hi
  · rcases q with q | ⟨_, q⟩
    · exact h.vtv i hi c q
    · rw [q, hVb]
      simp
  · rcases h.safe c u hc b' hb' with s | s
    · exact .inl s
    · refine .inr (s.mono fun i hi ⟨q1, q2⟩ => ⟨fun q => ?_, lt_of_lt_le q2 (hle i hi)⟩)
      rcases q with q | ⟨q3, q4⟩
      · exact q1 q
      · subst q3
        subst q4
        exact hb q2
  · obtain ⟨q1, q2, q3, q4⟩ := h.pm i hi j hj a d e
    refine ⟨le_trans q1 (hle j hj), q2, ?_, fun c hc hlt => ?_⟩
    · rcases q3 with q | ⟨q5, q6⟩
      · exact .inl q
      · exact .inr ⟨.inl q5, q6⟩
    · rcases hc with hc | ⟨hc1, hc2⟩
      · exact q4 c hc hlt
      · subst hc1
        subst hc2
        exact absurd hlt (le_trans q1 hb)
  · obtain ⟨c, q1, q2⟩ := hF f hf
    exact ⟨c, q1, q2.mono fun i hi q => .inl q⟩

/- What is chosen is what was chosen. -/
theorem Good.chosen (h : Good n seen P A D PB PM PV F) (b : Bt) (hb : b ≠ z0) (hq : Maj n (fun k => A k = b)) (k : Nat) (hk : k < n) (ha : A k = b) : (∀ f, F = some f → f = D k) ∧ Good n seen P A D PB PM PV (some (D k)) := by
  obtain ⟨V, vt, h, hF⟩ := h
  have hV : V b = some (D k) := by
    rcases h.acc k hk with q | ⟨_, q⟩
    · rw [ha] at q
      exact absurd q hb
    · rwa [ha] at q
  have hM : Maj n (fun i => vt i b) := hq.mono fun i hi e => by
    rcases h.acc i hi with q | ⟨q, _⟩
    · rw [e] at q
      exact absurd q hb
    · rwa [e] at q
  refine ⟨fun f hf => ?_, V, vt, h, fun f hf => ?_⟩
  · obtain ⟨c, q1, q2⟩ := hF f hf
    rcases lt_tri c b with t | t | t
    · rcases h.safe b _ hV c t with s | s
      · rw [q1] at s
        injection s
      · obtain ⟨i, hi, r1, r2⟩ := q2.meet s
        exact absurd r1 r2.1
    · subst t
      rw [q1] at hV
      injection hV
    · rcases h.safe c _ q1 b t with s | s
      · rw [hV] at s
        injection s with s
        exact s.symm
      · obtain ⟨i, hi, r1, r2⟩ := hM.meet s
        exact absurd r1 r2.1
  · injection hf with hf
    subst hf
    exact ⟨b, hV, hM⟩

end

end Go.Proofs.Ytlfeafbpknbbfaa.Ba
