/-
  3 texts of this proof, one behind the other: BaPlain, BaMem, BaCalls.
-/
import Derived.Below
import Derived.Test.YtdlajpjigddbhaaGreatJ01
import Derived.Laws.StructEq
/-
  One decree, plainly: ballots as pairs, what acceptors promise and accept, and why no two values are chosen.
  Conditions: none.
-/
namespace Go.Proofs.YtdlajpjigddbhaaGreat.Ba
set_option linter.unusedVariables false
set_option linter.unusedSimpArgs false
set_option maxRecDepth 100000

abbrev Bt := Int × Int
def lt (a b : Bt) : Prop := a.1 < b.1 ∨ (a.1 = b.1 ∧ a.2 < b.2)
def z0 : Bt := (0, 0)

theorem bt_ext {a b : Bt} (h1 : a.1 = b.1) (h2 : a.2 = b.2) : a = b := Prod.ext h1 h2
theorem lt_irr (a : Bt) : ¬ lt a a := fun h => by rcases h with h | h <;> omega
theorem lt_trans {a b c : Bt} (h : lt a b) (k : lt b c) : lt a c := by
  unfold lt at *
  omega
theorem lt_asym {a b : Bt} (h : lt a b) (k : lt b a) : False := lt_irr a (lt_trans h k)
theorem lt_tri (a b : Bt) : lt a b ∨ a = b ∨ lt b a := by
  by_cases h : a = b
  · exact .inr (.inl h)
  · have : ¬ (a.1 = b.1 ∧ a.2 = b.2) := fun e => h (bt_ext e.1 e.2)
    unfold lt
    omega
def le (a b : Bt) : Prop := ¬ lt b a
theorem le_refl (a : Bt) : le a a := lt_irr a
theorem le_trans {a b c : Bt} (h : le a b) (k : le b c) : le a c := by
  unfold le lt at *
  omega
theorem lt_le {a b : Bt} (h : lt a b) : le a b := fun k => lt_asym h k
theorem lt_of_lt_le {a b c : Bt} (h : lt a b) (k : le b c) : lt a c := by
  unfold le lt at *
  omega
theorem lt_of_le_lt {a b c : Bt} (h : le a b) (k : lt b c) : lt a c := by
  unfold le lt at *
  omega
theorem le_ne {a b : Bt} (h : le a b) (k : a ≠ b) : lt a b := by
  rcases lt_tri a b with h1 | h1 | h1
  · exact h1
  · exact absurd h1 k
  · exact absurd h1 h

def cnt (q : Nat → Bool) : Nat → Nat
  | 0 => 0
  | n + 1 => cnt q n + (if q n = true then 1 else 0)

theorem cnt_le (q : Nat → Bool) : ∀ n, cnt q n ≤ n
  | 0 => by simp [cnt]
  | n + 1 => by
    have := cnt_le q n
    unfold cnt
    split <;> omega

theorem cnt_congr {q r : Nat → Bool} : ∀ {n}, (∀ k, k < n → q k = r k) → cnt q n = cnt r n
  | 0, _ => rfl
  | n + 1, h => by
    unfold cnt
    rw [cnt_congr (n := n) (fun k hk => h k (by omega)), h n (by omega)]

theorem cnt_meet (q r : Nat → Bool) : ∀ n, cnt q n + cnt r n ≤ n + cnt (fun k => q k && r k) n
  | 0 => by simp [cnt]
  | n + 1 => by
    have := cnt_meet q r n
    unfold cnt
    cases hq : q n <;> cases hr : r n <;> simp <;> omega

theorem cnt_pos {q : Nat → Bool} : ∀ {n}, 0 < cnt q n → ∃ k, k < n ∧ q k = true
  | 0, h => by simp [cnt] at h
  | n + 1, h => by
    unfold cnt at h
    by_cases hq : q n = true
    · exact ⟨n, by omega, hq⟩
    · rw [if_neg hq] at h
      obtain ⟨k, hk, e⟩ := cnt_pos (n := n) h
      exact ⟨k, by omega, e⟩

def Maj (n : Nat) (p : Nat → Prop) : Prop := ∃ q : Nat → Bool, n < 2 * cnt q n ∧ ∀ k, k < n → q k = true → p k

theorem Maj.meet {n : Nat} {p p' : Nat → Prop} (h : Maj n p) (k : Maj n p') : ∃ i, i < n ∧ p i ∧ p' i := by
  obtain ⟨q, h1, h2⟩ := h
  obtain ⟨r, k1, k2⟩ := k
  have := cnt_meet q r n
  obtain ⟨i, hi, e⟩ := cnt_pos (q := fun k => q k && r k) (n := n) (by omega)
  simp only [Bool.and_eq_true] at e
  exact ⟨i, hi, h2 i hi e.1, k2 i hi e.2⟩

theorem Maj.mono {n : Nat} {p p' : Nat → Prop} (h : Maj n p) (k : ∀ i, i < n → p i → p' i) : Maj n p' := by
  obtain ⟨q, h1, h2⟩ := h
  exact ⟨q, h1, fun i hi e => k i hi (h2 i hi e)⟩

def up {α : Type} (f : Nat → α) (k : Nat) (v : α) : Nat → α := fun i => if i = k then v else f i
theorem up_same {α : Type} (f : Nat → α) (k : Nat) (v : α) : up f k v k = v := by simp [up]
theorem up_other {α : Type} (f : Nat → α) {k i : Nat} (v : α) (h : i ≠ k) : up f k v i = f i := by simp [up, h]

abbrev Rec := Option (Bt × List Nat)

structure Inv (n : Nat) (seen : Bt) (P A : Nat → Bt) (D : Nat → List Nat) (PB : Nat → Bt) (PM : Nat → Nat → Rec) (PV : Nat → Option (List Nat)) (V : Bt → Option (List Nat)) (vt : Nat → Bt → Prop) : Prop where
  acc : ∀ k, k < n → A k = z0 ∨ (vt k (A k) ∧ V (A k) = some (D k))
  most : ∀ k, k < n → ∀ b, vt k b → le b (A k)
  accp : ∀ k, k < n → le (A k) (P k)
  prs : ∀ k, k < n → le (P k) seen
  vtv : ∀ k, k < n → ∀ b, vt k b → V b ≠ none
  vpos : ∀ b, V b ≠ none → lt z0 b ∧ le b seen
  safe : ∀ b v, V b = some v → ∀ b', lt b' b → V b' = some v ∨ Maj n (fun k => ¬ vt k b' ∧ lt b' (P k))
  pbs : ∀ m, m < 7 → PB m = z0 ∨ (lt z0 (PB m) ∧ le (PB m) seen ∧ (PB m).2 = (m : Int))
  pm0 : ∀ m, m < 7 → PB m = z0 → (∀ k, PM m k = none) ∧ PV m = none
  pm : ∀ m, m < 7 → ∀ k, k < n → ∀ a d, PM m k = some (a, d) → le (PB m) (P k) ∧ lt a (PB m) ∧ (a = z0 ∨ (vt k a ∧ V a = some d)) ∧ ∀ b, vt k b → lt b (PB m) → le b a
  pv : ∀ m, m < 7 → PB m ≠ z0 → V (PB m) = PV m

def Good (n : Nat) (seen : Bt) (P A : Nat → Bt) (D : Nat → List Nat) (PB : Nat → Bt) (PM : Nat → Nat → Rec) (PV : Nat → Option (List Nat)) (F : Option (List Nat)) : Prop :=
  ∃ V vt, Inv n seen P A D PB PM PV V vt ∧ ∀ f, F = some f → ∃ b, V b = some f ∧ Maj n (fun k => vt k b)

section
variable {n : Nat} {seen : Bt} {P A : Nat → Bt} {D : Nat → List Nat} {PB : Nat → Bt} {PM : Nat → Nat → Rec} {PV : Nat → Option (List Nat)} {F : Option (List Nat)}

theorem Good.init (n : Nat) : Good n z0 (fun _ => z0) (fun _ => z0) (fun _ => []) (fun _ => z0) (fun _ _ => none) (fun _ => none) none :=
  ⟨fun _ => none, fun _ _ => False, ⟨fun k hk => .inl rfl, fun k hk b h => h.elim, fun k hk => le_refl _, fun k hk => le_refl _, fun k hk b h => h.elim, fun b h => absurd rfl h, (fun b v h => by cases h), fun m hm => .inl rfl, fun m hm _ => ⟨fun _ => rfl, rfl⟩,
    (fun m hm k hk a d h => by cases h), fun m hm h => rfl⟩, (fun f h => by cases h)⟩

/- A new ballot, above all that were seen. -/
theorem Good.start (h : Good n seen P A D PB PM PV F) (m : Nat) (hm : m < 7) (b : Bt) (hb : lt seen b) (hz : lt z0 b) (hbm : b.2 = (m : Int)) : Good n b P A D (up PB m b) (up PM m (fun _ => none)) (up PV m none) F := by
  obtain ⟨V, vt, h, hF⟩ := h
  have hne : b ≠ z0 := fun e => lt_irr z0 (e ▸ hz)
  refine ⟨V, vt, ⟨h.acc, h.most, h.accp, fun k hk => le_trans (h.prs k hk) (lt_le hb), h.vtv, fun c hc => ⟨(h.vpos c hc).1, le_trans (h.vpos c hc).2 (lt_le hb)⟩, h.safe, fun i hi => ?_, fun i hi e => ?_, fun i hi k hk a d e => ?_, fun i hi e => ?_⟩, hF⟩
  · by_cases e : i = m
    · subst e
      rw [up_same]
      exact .inr ⟨hz, le_refl _, hbm⟩
    · rw [up_other _ _ e]
      rcases h.pbs i hi with h1 | ⟨h1, h2, h3⟩
      · exact .inl h1
      · exact .inr ⟨h1, le_trans h2 (lt_le hb), h3⟩
  · by_cases e1 : i = m
    · subst e1
      rw [up_same] at e
      exact absurd e hne
    · rw [up_other _ _ e1] at e
      rw [up_other _ _ e1, up_other _ _ e1]
      exact h.pm0 i hi e
  · by_cases e1 : i = m
    · subst e1
      rw [up_same] at e
      cases e
    · rw [up_other _ _ e1] at e
      rw [up_other _ _ e1]
      exact h.pm i hi k hk a d e
  · by_cases e1 : i = m
    · subst e1
      rw [up_same, up_same]
      cases hV : V b with
      | none => rfl
      | some v => exact absurd hb (h.vpos b (by rw [hV]; simp)).2
    · rw [up_other _ _ e1] at e
      rw [up_other _ _ e1, up_other _ _ e1]
      exact h.pv i hi e

/- One of the acceptors promises it. -/
theorem Good.promise (h : Good n seen P A D PB PM PV F) (m : Nat) (hm : m < 7) (hb : PB m = seen) (hz : lt z0 seen) (hv : PV m = none) (k : Nat) (hk : k < n) : Good n seen (up P k seen) A D PB (up PM m (up (PM m) k (some (A k, D k)))) PV F := by
  obtain ⟨V, vt, h, hF⟩ := h
  have hne : PB m ≠ z0 := fun e => lt_irr z0 (by rw [hb] at e; rw [e] at hz; exact hz)
  have hVs : V seen = none := by rw [← hb, h.pv m hm hne, hv]
  have hle : ∀ i, i < n → le (P i) (up P k seen i) := fun i hi => by
    by_cases e : i = k
    · subst e
      rw [up_same]
      exact h.prs i hi
    · rw [up_other _ _ e]
      exact le_refl _
  refine ⟨V, vt, ⟨h.acc, h.most, fun i hi => le_trans (h.accp i hi) (hle i hi), fun i hi => ?_, h.vtv, h.vpos, fun b v hV b' hb' => ?_, h.pbs, fun i hi e => ?_, fun i hi j hj a d e => ?_, h.pv⟩, hF⟩
  · by_cases e : i = k
    · subst e
      rw [up_same]
      exact le_refl _
    · rw [up_other _ _ e]
      exact h.prs i hi
  · rcases h.safe b v hV b' hb' with h1 | h1
    · exact .inl h1
    · exact .inr (h1.mono fun i hi ⟨q1, q2⟩ => ⟨q1, lt_of_lt_le q2 (hle i hi)⟩)
  · have hi2 : i ≠ m := fun e1 => hne (e1 ▸ e)
    rw [up_other _ _ hi2]
    exact h.pm0 i hi e
  · by_cases e1 : i = m
    · subst e1
      rw [up_same] at e
      by_cases e2 : j = k
      · subst e2
        rw [up_same] at e
        injection e with e
        injection e with e3 e4
        subst e3
        subst e4
        rw [up_same]
        refine ⟨by rw [hb]; exact le_refl _, ?_, h.acc j hj, fun b q _ => h.most j hj b q⟩
        rw [hb]
        refine le_ne (le_trans (h.accp j hj) (h.prs j hj)) (fun e5 => ?_)
        rcases h.acc j hj with q | ⟨_, q⟩
        · rw [← e5, q] at hz
          exact lt_irr _ hz
        · rw [e5, hVs] at q
          cases q
      · rw [up_other _ _ e2] at e
        rw [up_other _ _ e2]
        exact h.pm i hi j hj a d e
    · rw [up_other _ _ e1] at e
      obtain ⟨q1, q2⟩ := h.pm i hi j hj a d e
      exact ⟨le_trans q1 (hle j hj), q2⟩

/- What Pick says of those that promised. -/
def Picked (n : Nat) (M : Nat → Rec) (v : List Nat) : Prop :=
  (∀ k, k < n → ∀ a d, M k = some (a, d) → a = z0) ∨ ∃ k a, k < n ∧ M k = some (a, v) ∧ a ≠ z0 ∧ ∀ i, i < n → ∀ a' d', M i = some (a', d') → a' = z0 ∨ le a' a

/- A value is asked for. -/
theorem Good.ask (h : Good n seen P A D PB PM PV F) (m : Nat) (hm : m < 7) (hv : PV m = none) (hq : Maj n (fun k => PM m k ≠ none)) (v : List Nat) (hp : Picked n (PM m) v) : Good n seen P A D PB PM (up PV m (some v)) F := by
  obtain ⟨V, vt, h, hF⟩ := h
  have hne : PB m ≠ z0 := fun e => by
    obtain ⟨i, hi, q, _⟩ := hq.meet hq
    exact q ((h.pm0 m hm e).1 i)
  obtain ⟨hz, hs, hmon⟩ := (h.pbs m hm).resolve_left hne
  obtain ⟨b, hbe⟩ : ∃ b, PB m = b := ⟨_, rfl⟩
  have hVb : V b = none := by rw [← hbe, h.pv m hm hne, hv]
  have old : ∀ c u, V c = some u → (if c = b then some v else V c) = some u := fun c u hc => by
    by_cases e : c = b
    · subst e
      rw [hVb] at hc
      cases hc
    · rw [if_neg e]
      exact hc
  have oldne : ∀ c, V c ≠ none → (if c = b then some v else V c) ≠ none := fun c hc => by
    by_cases e : c = b
    · rw [if_pos e]
      simp
    · rw [if_neg e]
      exact hc
  have all : ∀ b', lt b' b → (∀ k, k < n → ∀ a d, PM m k = some (a, d) → lt a b' ∨ a = z0) → lt z0 b' → Maj n (fun k => ¬ vt k b' ∧ lt b' (P k)) := fun b' hb' hall hb0 => hq.mono fun k hk q => by
    cases e : PM m k with
    | none => exact absurd e q
    | some x =>
      obtain ⟨a, d⟩ := x
      obtain ⟨q1, q2, q3, q4⟩ := h.pm m hm k hk a d e
      rw [hbe] at q1 q2 q4
      refine ⟨fun hvt => ?_, lt_of_lt_le hb' q1⟩
      have := q4 b' hvt hb'
      rcases hall k hk a d e with h1 | h1
      · exact this h1
      · subst h1
        exact this hb0
  have low : ∀ b', ¬ lt z0 b' → lt b' b → Maj n (fun k => ¬ vt k b' ∧ lt b' (P k)) := fun b' h0 hb' => hq.mono fun k hk q => by
    cases e : PM m k with
    | none => exact absurd e q
    | some x =>
      obtain ⟨a, d⟩ := x
      obtain ⟨q1, q2, q3, q4⟩ := h.pm m hm k hk a d e
      rw [hbe] at q1
      exact ⟨fun hvt => h0 (h.vpos b' (h.vtv k hk b' hvt)).1, lt_of_lt_le hb' q1⟩
  refine ⟨fun c => if c = b then some v else V c, vt, ⟨fun k hk => ?_, h.most, h.accp, h.prs, fun k hk c q => oldne c (h.vtv k hk c q), fun c hc => ?_, fun c u hc b' hb' => ?_, h.pbs, fun i hi e => ?_, fun i hi k hk a d e => ?_, fun i hi e => ?_⟩, fun f hf => ?_⟩
  · rcases h.acc k hk with q | ⟨q1, q2⟩
    · exact .inl q
    · exact .inr ⟨q1, old _ _ q2⟩
  · by_cases e : c = b
    · subst e
      rw [← hbe]
      exact ⟨hz, hs⟩
    · simp only [if_neg e] at hc
      exact h.vpos c hc
  · by_cases e : c = b
    · subst e
      simp only [if_true] at hc
      injection hc with hc
      subst hc
      by_cases h0 : lt z0 b'
      · rcases hp with hp | ⟨k, a, hk, ha, hane, hmax⟩
        · exact .inr (all b' hb' (fun k hk a d e => .inr (hp k hk a d e)) h0)
        · obtain ⟨q1, q2, q3, q4⟩ := h.pm m hm k hk a v ha
          have hVa := (q3.resolve_left hane).2
          rcases lt_tri b' a with t | t | t
          · rcases h.safe a v hVa b' t with s | s
            · exact .inl (old _ _ s)
            · exact .inr s
          · subst t
            exact .inl (old _ _ hVa)
          · exact .inr (all b' hb' (fun i hi a' d' e => by
              rcases hmax i hi a' d' e with r | r
              · exact .inr r
              · exact .inl (lt_of_le_lt r t)) h0)
      · exact .inr (low b' h0 hb')
    · simp only [if_neg e] at hc
      rcases h.safe c u hc b' hb' with s | s
      · exact .inl (old _ _ s)
      · exact .inr s
  · have hi2 : i ≠ m := fun e1 => hne (e1 ▸ e)
    rw [up_other _ _ hi2]
    exact h.pm0 i hi e
  · obtain ⟨q1, q2, q3, q4⟩ := h.pm i hi k hk a d e
    refine ⟨q1, q2, ?_, q4⟩
    rcases q3 with q | ⟨q5, q6⟩
    · exact .inl q
    · exact .inr ⟨q5, old _ _ q6⟩
  · by_cases e1 : i = m
    · subst e1
      rw [up_same, hbe]
      simp
    · rw [up_other _ _ e1, ← h.pv i hi e]
      refine if_neg fun e2 => e1 ?_
      obtain ⟨_, _, q⟩ := (h.pbs i hi).resolve_left e
      rw [e2, ← hbe, hmon] at q
      omega
  · obtain ⟨c, q1, q2⟩ := hF f hf
    exact ⟨c, old _ _ q1, q2⟩

/- One of the acceptors accepts. -/
theorem Good.accept (h : Good n seen P A D PB PM PV F) (m : Nat) (hm : m < 7) (hne : PB m ≠ z0) (v : List Nat) (hv : PV m = some v) (k : Nat) (hk : k < n) (hb : le (P k) (PB m)) : Good n seen (up P k (PB m)) (up A k (PB m)) (up D k v) PB PM PV F := by
  obtain ⟨V, vt, h, hF⟩ := h
  obtain ⟨hz, hs, hmon⟩ := (h.pbs m hm).resolve_left hne
  have hVb : V (PB m) = some v := by rw [h.pv m hm hne, hv]
  generalize PB m = b at *
  have hle : ∀ i, i < n → le (P i) (up P k b i) := fun i hi => by
    by_cases e : i = k
    · subst e
      rw [up_same]
      exact hb
    · rw [up_other _ _ e]
      exact le_refl _
  refine ⟨V, fun i c => vt i c ∨ (i = k ∧ c = b), ⟨fun i hi => ?_, fun i hi c q => ?_, fun i hi => ?_, fun i hi => ?_, fun i hi c q => ?_, h.vpos, fun c u hc b' hb' => ?_, h.pbs, h.pm0, fun i hi j hj a d e => ?_, h.pv⟩, fun f hf => ?_⟩
  · by_cases e : i = k
    · subst e
      rw [up_same, up_same]
      exact .inr ⟨.inr ⟨rfl, rfl⟩, hVb⟩
    · rw [up_other _ _ e, up_other _ _ e]
      rcases h.acc i hi with q | ⟨q1, q2⟩
      · exact .inl q
      · exact .inr ⟨.inl q1, q2⟩
  · by_cases e : i = k
    · subst e
      rw [up_same]
      rcases q with q | ⟨_, q⟩
      · exact le_trans (h.most i hi c q) (le_trans (h.accp i hi) hb)
      · rw [q]
        exact le_refl _
    · rw [up_other _ _ e]
      rcases q with q | ⟨q, _⟩
      · exact h.most i hi c q
      · exact absurd q e
  · by_cases e : i = k
    · subst e
      rw [up_same, up_same]
      exact le_refl _
    · rw [up_other _ _ e, up_other _ _ e]
      exact h.accp i hi
  · by_cases e : i = k
    · subst e
      rw [up_same]
      exact hs
    · rw [up_other _ _ e]
      exact h.prs i hi
  · rcases q with q | ⟨_, q⟩
    · exact h.vtv i hi c q
    · rw [q, hVb]
      simp
  · rcases h.safe c u hc b' hb' with s | s
    · exact .inl s
    · refine .inr (s.mono fun i hi ⟨q1, q2⟩ => ⟨fun q => ?_, lt_of_lt_le q2 (hle i hi)⟩)
      rcases q with q | ⟨q3, q4⟩
      · exact q1 q
      · subst q3
        subst q4
        exact hb q2
  · obtain ⟨q1, q2, q3, q4⟩ := h.pm i hi j hj a d e
    refine ⟨le_trans q1 (hle j hj), q2, ?_, fun c hc hlt => ?_⟩
    · rcases q3 with q | ⟨q5, q6⟩
      · exact .inl q
      · exact .inr ⟨.inl q5, q6⟩
    · rcases hc with hc | ⟨hc1, hc2⟩
      · exact q4 c hc hlt
      · subst hc1
        subst hc2
        exact absurd hlt (le_trans q1 hb)
  · obtain ⟨c, q1, q2⟩ := hF f hf
    exact ⟨c, q1, q2.mono fun i hi q => .inl q⟩

/- What is chosen is what was chosen. -/
theorem Good.chosen (h : Good n seen P A D PB PM PV F) (b : Bt) (hb : b ≠ z0) (hq : Maj n (fun k => A k = b)) (k : Nat) (hk : k < n) (ha : A k = b) : (∀ f, F = some f → f = D k) ∧ Good n seen P A D PB PM PV (some (D k)) := by
  obtain ⟨V, vt, h, hF⟩ := h
  have hV : V b = some (D k) := by
    rcases h.acc k hk with q | ⟨_, q⟩
    · rw [ha] at q
      exact absurd q hb
    · rwa [ha] at q
  have hM : Maj n (fun i => vt i b) := hq.mono fun i hi e => by
    rcases h.acc i hi with q | ⟨q, _⟩
    · rw [e] at q
      exact absurd q hb
    · rwa [e] at q
  refine ⟨fun f hf => ?_, V, vt, h, fun f hf => ?_⟩
  · obtain ⟨c, q1, q2⟩ := hF f hf
    rcases lt_tri c b with t | t | t
    · rcases h.safe b _ hV c t with s | s
      · rw [q1] at s
        injection s
      · obtain ⟨i, hi, r1, r2⟩ := q2.meet s
        exact absurd r1 r2.1
    · subst t
      rw [q1] at hV
      injection hV
    · rcases h.safe c _ q1 b t with s | s
      · rw [hV] at s
        injection s with s
        exact s.symm
      · obtain ⟨i, hi, r1, r2⟩ := hM.meet s
        exact absurd r1 r2.1
  · injection hf with hf
    subst hf
    exact ⟨b, hV, hM⟩

end

end Go.Proofs.YtdlajpjigddbhaaGreat.Ba

/-
  Ballots and acceptors as they lie in memory; what the smallest calls answer.
  Conditions: none.
-/
namespace Go.Proofs.YtdlajpjigddbhaaGreat.Ba
open Go.RowKit By Fl
set_option linter.unusedVariables false
set_option linter.unusedSimpArgs false
set_option maxRecDepth 100000

def wfi (a : Int) : Prop := (Lit.int .i64 a).wf = true

theorem keep {w v : World} {b o : Nat} {x : Value} (hb : Below w.heap.size w v) (h : w.cell? ⟨b, o, none⟩ = some x) : v.cell? ⟨b, o, none⟩ = some x := (hb.cell (p := ⟨b, o, none⟩) (cell_lt' h)).trans h

theorem on {a b c : World} (h : Below a.heap.size a b) (k : Below b.heap.size b c) : Below a.heap.size a c := h.trans (k.mono h.size)

theorem nz (n : Nat) : ((n : Int) == 0) = decide (n = 0) := by
  by_cases h : n = 0
  · subst h; rfl
  · have h2 : ¬ (n : Int) = 0 := by omega
    simp [h, h2]

def bt (b : Bt) : Value := .agg #[.int .i64 b.1, .int .i64 b.2]

def ltb (a b : Bt) : Bool := if a.1 = b.1 then decide (a.2 < b.2) else decide (a.1 < b.1)
def mayb (b : Bt) : Bool := decide (1 ≤ b.1) && decide (b.1 ≤ 2147483647) && decide (0 ≤ b.2) && decide (b.2 < 7)
def zb (b : Bt) : Bool := decide (b.1 = 0) && decide (b.2 = 0)
def mzb (b : Bt) : Bool := zb b || mayb b

theorem eq_bt (a b c d : Int) (w : World) : (binOp .eql 111 (.agg #[.int .i64 a, .int .i64 b]) (.agg #[.int .i64 c, .int .i64 d])).run Tryz.prog w = .ok (.bool (decide (a = c) && decide (b = d))) w := by
  go_simp
  by_cases e1 : a = c <;> by_cases e2 : b = d <;> simp [e1, e2]

theorem less_any (a b : Bt) (w : World) : Calls Tryz.prog 86 #[bt a, bt b] w fun e w' => e = .returned (.bool (ltb a b)) ∧ Below w.heap.size w w' := by
  obtain ⟨r, m⟩ := a
  obtain ⟨s, n⟩ := b
  unfold ltb bt
  have hB : ∀ x y, Below w.heap.size w ((w.alloc x).alloc y) := fun x y => ((Below.refl _ w).alloc (Nat.le_refl _) _).alloc (by simp) _
  by_cases h : r = s
  · subst h
    go_enter Tryz.func86, Tryz.ntmps86
    go_wp2_with fail
    go_ret
    exact ⟨by simp, hB _ _⟩
  · have h2 : r ≠ s := h
    go_enter Tryz.func86, Tryz.ntmps86
    go_wp2_with fail
    go_ret
    exact ⟨by simp [h], hB _ _⟩

theorem may_any (b : Bt) (w : World) : Calls Tryz.prog 145 #[bt b] w fun e w' => e = .returned (.bool (mayb b)) ∧ Below w.heap.size w w' := by
  obtain ⟨r, m⟩ := b
  unfold mayb bt
  dsimp only
  have hB : ∀ x, Below w.heap.size w (w.alloc x) := fun x => (Below.refl _ w).alloc (Nat.le_refl _) _
  by_cases h1 : 1 ≤ r
  · by_cases h2 : r ≤ 2147483647
    · by_cases h3 : 0 ≤ m
      · go_enter Tryz.func145, Tryz.ntmps145
        go_wp2_with fail
        go_ret
        exact ⟨by simp [h1, h2, h3], hB _⟩
      · go_enter Tryz.func145, Tryz.ntmps145
        go_wp2_with fail
        go_ret
        exact ⟨by simp [h1, h2, h3]; omega, hB _⟩
    · go_enter Tryz.func145, Tryz.ntmps145
      go_wp2_with fail
      go_ret
      exact ⟨by simp [h1, h2]; omega, hB _⟩
  · go_enter Tryz.func145, Tryz.ntmps145
    go_wp2_with fail
    go_ret
    exact ⟨by simp [h1]; omega, hB _⟩

theorem none_any (b : Bt) (w : World) : Calls Tryz.prog 160 #[bt b] w fun e w' => e = .returned (.bool (zb b)) ∧ Below w.heap.size w w' := by
  obtain ⟨r, m⟩ := b
  unfold zb bt
  dsimp only
  have hB : ∀ x, Below w.heap.size w (w.alloc x) := fun x => (Below.refl _ w).alloc (Nat.le_refl _) _
  have hE := fun W => eq_bt r m 0 0 W
  go_enter Tryz.func160, Tryz.ntmps160
  go_wp2_with fail
  go_ret
  exact ⟨rfl, hB _⟩

theorem mzb_any (b : Bt) (w : World) : Calls Tryz.prog 153 #[bt b] w fun e w' => e = .returned (.bool (mzb b)) ∧ Below w.heap.size w w' := by
  obtain ⟨r, m⟩ := b
  have hN := fun W => none_any (r, m) W
  have hM := fun W => may_any (r, m) W
  unfold mzb
  generalize zb (r, m) = z at *
  generalize mayb (r, m) = t at *
  unfold bt at *
  dsimp only at *
  have b0 : ∀ x, Below w.heap.size w (w.alloc x) := fun x => (Below.refl _ w).alloc (Nat.le_refl _) _
  cases z with
  | true =>
    go_enter Tryz.func153, Tryz.ntmps153
    go_wp2_with (go_at_call 160; refine (hN _).mono ?_; rintro e w1 ⟨rfl, hb1⟩; clear hN)
    go_ret
    exact ⟨rfl, on (b0 _) hb1⟩
  | false =>
    go_enter Tryz.func153, Tryz.ntmps153
    go_wp2_with (first
      | (go_at_call 160; refine (hN _).mono ?_; rintro e w1 ⟨rfl, hb1⟩; clear hN
         have k0 := keep hb1 (b := w.heap.size) (o := 0) (x := .int .i64 r) (by go_simp)
         have k1 := keep hb1 (b := w.heap.size) (o := 1) (x := .int .i64 m) (by go_simp)
         have B1 := on (b0 _) hb1; clear hb1)
      | (go_at_call 145; refine (hM _).mono ?_; rintro e w2 ⟨rfl, hb2⟩; clear hM))
    go_ret
    exact ⟨by simp, on B1 hb2⟩

end Go.Proofs.YtdlajpjigddbhaaGreat.Ba

/-
  What acceptors answer: May, free, Prepare, Accept; the document's own.
  Conditions: none.
-/
namespace Go.Proofs.YtdlajpjigddbhaaGreat.Ba
open Go.RowKit By Fl
set_option linter.unusedVariables false
set_option linter.unusedSimpArgs false
set_option maxRecDepth 100000

def mayA (p a : Bt) (n : Nat) : Bool := mzb p && mzb a && !ltb p a && (!zb a || decide (n = 0))
def freeb (p a : Bt) (n : Nat) (b : Bt) : Bool := mayA p a n && mayb b && !ltb b p
def ac (p a : Bt) (x : Option Addr) (n c : Nat) : Value := .agg #[.int .i64 p.1, .int .i64 p.2, .int .i64 a.1, .int .i64 a.2, .slice x n c]

theorem mayA_any (p a : Bt) (x : Option Addr) (n c : Nat) (w : World) : Calls Tryz.prog 142 #[ac p a x n c] w fun e w' => e = .returned (.bool (mayA p a n)) ∧ Below w.heap.size w w' := by
  obtain ⟨p1, p2⟩ := p
  obtain ⟨a1, a2⟩ := a
  have hP := fun W => mzb_any (p1, p2) W
  have hA := fun W => mzb_any (a1, a2) W
  have hL := fun W => less_any (p1, p2) (a1, a2) W
  have hZ := fun W => none_any (a1, a2) W
  unfold mayA
  generalize mzb (p1, p2) = tp at *
  generalize mzb (a1, a2) = ta at *
  generalize ltb (p1, p2) (a1, a2) = tl at *
  generalize zb (a1, a2) = tz at *
  unfold bt at *
  unfold ac
  dsimp only at *
  have b0 : ∀ x, Below w.heap.size w (w.alloc x) := fun x => (Below.refl _ w).alloc (Nat.le_refl _) _
  cases tp with
  | false =>
    go_enter Tryz.func142, Tryz.ntmps142
    go_wp2_with (first
      | (
         go_at_call 153; refine (hP _).mono ?_; rintro e w1 ⟨rfl, hb1⟩; clear hP))
    go_ret
    exact ⟨by simp, on (b0 _) hb1⟩
  | true =>
  cases ta with
  | false =>
    go_enter Tryz.func142, Tryz.ntmps142
    go_wp2_with (first
      | (
         go_at_call 153; refine (hP _).mono ?_; rintro e w1 ⟨rfl, hb1⟩; clear hP
         have k0 := keep hb1 (b := w.heap.size) (o := 0) (x := .int .i64 p1) (by first | assumption | go_simp)
         have k1 := keep hb1 (b := w.heap.size) (o := 1) (x := .int .i64 p2) (by first | assumption | go_simp)
         have k2 := keep hb1 (b := w.heap.size) (o := 2) (x := .int .i64 a1) (by first | assumption | go_simp)
         have k3 := keep hb1 (b := w.heap.size) (o := 3) (x := .int .i64 a2) (by first | assumption | go_simp)
         have k4 := keep hb1 (b := w.heap.size) (o := 4) (x := .slice x n c) (by first | assumption | go_simp)
         have B1 := on (b0 _) hb1; clear hb1)
      | (
         go_at_call 153; refine (hA _).mono ?_; rintro e w2 ⟨rfl, hb2⟩; clear hA
         have B2 := on B1 hb2; clear hb2))
    go_ret
    exact ⟨by simp, B2⟩
  | true =>
  cases tl with
  | true =>
    go_enter Tryz.func142, Tryz.ntmps142
    go_wp2_with (first
      | (
         go_at_call 153; refine (hP _).mono ?_; rintro e w1 ⟨rfl, hb1⟩; clear hP
         have k0 := keep hb1 (b := w.heap.size) (o := 0) (x := .int .i64 p1) (by first | assumption | go_simp)
         have k1 := keep hb1 (b := w.heap.size) (o := 1) (x := .int .i64 p2) (by first | assumption | go_simp)
         have k2 := keep hb1 (b := w.heap.size) (o := 2) (x := .int .i64 a1) (by first | assumption | go_simp)
         have k3 := keep hb1 (b := w.heap.size) (o := 3) (x := .int .i64 a2) (by first | assumption | go_simp)
         have k4 := keep hb1 (b := w.heap.size) (o := 4) (x := .slice x n c) (by first | assumption | go_simp)
         have B1 := on (b0 _) hb1; clear hb1)
      | (
         go_at_call 153; refine (hA _).mono ?_; rintro e w2 ⟨rfl, hb2⟩; clear hA
         have l0 := keep hb2 (b := w.heap.size) (o := 0) (x := .int .i64 p1) (by first | assumption | go_simp)
         have l1 := keep hb2 (b := w.heap.size) (o := 1) (x := .int .i64 p2) (by first | assumption | go_simp)
         have l2 := keep hb2 (b := w.heap.size) (o := 2) (x := .int .i64 a1) (by first | assumption | go_simp)
         have l3 := keep hb2 (b := w.heap.size) (o := 3) (x := .int .i64 a2) (by first | assumption | go_simp)
         have l4 := keep hb2 (b := w.heap.size) (o := 4) (x := .slice x n c) (by first | assumption | go_simp)
         have B2 := on B1 hb2; clear hb2 k0 k1 k2 k3 k4)
      | (
         go_at_call 86; refine (hL _).mono ?_; rintro e w3 ⟨rfl, hb3⟩; clear hL
         have B3 := on B2 hb3; clear hb3))
    go_ret
    exact ⟨by simp, B3⟩
  | false =>
  cases tz with
  | false =>
    go_enter Tryz.func142, Tryz.ntmps142
    go_wp2_with (first
      | (
         go_at_call 153; refine (hP _).mono ?_; rintro e w1 ⟨rfl, hb1⟩; clear hP
         have k0 := keep hb1 (b := w.heap.size) (o := 0) (x := .int .i64 p1) (by first | assumption | go_simp)
         have k1 := keep hb1 (b := w.heap.size) (o := 1) (x := .int .i64 p2) (by first | assumption | go_simp)
         have k2 := keep hb1 (b := w.heap.size) (o := 2) (x := .int .i64 a1) (by first | assumption | go_simp)
         have k3 := keep hb1 (b := w.heap.size) (o := 3) (x := .int .i64 a2) (by first | assumption | go_simp)
         have k4 := keep hb1 (b := w.heap.size) (o := 4) (x := .slice x n c) (by first | assumption | go_simp)
         have B1 := on (b0 _) hb1; clear hb1)
      | (
         go_at_call 153; refine (hA _).mono ?_; rintro e w2 ⟨rfl, hb2⟩; clear hA
         have l0 := keep hb2 (b := w.heap.size) (o := 0) (x := .int .i64 p1) (by first | assumption | go_simp)
         have l1 := keep hb2 (b := w.heap.size) (o := 1) (x := .int .i64 p2) (by first | assumption | go_simp)
         have l2 := keep hb2 (b := w.heap.size) (o := 2) (x := .int .i64 a1) (by first | assumption | go_simp)
         have l3 := keep hb2 (b := w.heap.size) (o := 3) (x := .int .i64 a2) (by first | assumption | go_simp)
         have l4 := keep hb2 (b := w.heap.size) (o := 4) (x := .slice x n c) (by first | assumption | go_simp)
         have B2 := on B1 hb2; clear hb2 k0 k1 k2 k3 k4)
      | (
         go_at_call 86; refine (hL _).mono ?_; rintro e w3 ⟨rfl, hb3⟩; clear hL
         have m0 := keep hb3 (b := w.heap.size) (o := 0) (x := .int .i64 p1) (by first | assumption | go_simp)
         have m1 := keep hb3 (b := w.heap.size) (o := 1) (x := .int .i64 p2) (by first | assumption | go_simp)
         have m2 := keep hb3 (b := w.heap.size) (o := 2) (x := .int .i64 a1) (by first | assumption | go_simp)
         have m3 := keep hb3 (b := w.heap.size) (o := 3) (x := .int .i64 a2) (by first | assumption | go_simp)
         have m4 := keep hb3 (b := w.heap.size) (o := 4) (x := .slice x n c) (by first | assumption | go_simp)
         have B3 := on B2 hb3; clear hb3 l0 l1 l2 l3 l4)
      | (
         go_at_call 160; refine (hZ _).mono ?_; rintro e w4 ⟨rfl, hb4⟩; clear hZ
         have B4 := on B3 hb4; clear hb4))
    go_ret
    exact ⟨by simp, B4⟩
  | true =>
    go_enter Tryz.func142, Tryz.ntmps142
    go_wp2_with (first
      | (
         go_at_call 153; refine (hP _).mono ?_; rintro e w1 ⟨rfl, hb1⟩; clear hP
         have k0 := keep hb1 (b := w.heap.size) (o := 0) (x := .int .i64 p1) (by first | assumption | go_simp)
         have k1 := keep hb1 (b := w.heap.size) (o := 1) (x := .int .i64 p2) (by first | assumption | go_simp)
         have k2 := keep hb1 (b := w.heap.size) (o := 2) (x := .int .i64 a1) (by first | assumption | go_simp)
         have k3 := keep hb1 (b := w.heap.size) (o := 3) (x := .int .i64 a2) (by first | assumption | go_simp)
         have k4 := keep hb1 (b := w.heap.size) (o := 4) (x := .slice x n c) (by first | assumption | go_simp)
         have B1 := on (b0 _) hb1; clear hb1)
      | (
         go_at_call 153; refine (hA _).mono ?_; rintro e w2 ⟨rfl, hb2⟩; clear hA
         have l0 := keep hb2 (b := w.heap.size) (o := 0) (x := .int .i64 p1) (by first | assumption | go_simp)
         have l1 := keep hb2 (b := w.heap.size) (o := 1) (x := .int .i64 p2) (by first | assumption | go_simp)
         have l2 := keep hb2 (b := w.heap.size) (o := 2) (x := .int .i64 a1) (by first | assumption | go_simp)
         have l3 := keep hb2 (b := w.heap.size) (o := 3) (x := .int .i64 a2) (by first | assumption | go_simp)
         have l4 := keep hb2 (b := w.heap.size) (o := 4) (x := .slice x n c) (by first | assumption | go_simp)
         have B2 := on B1 hb2; clear hb2 k0 k1 k2 k3 k4)
      | (
         go_at_call 86; refine (hL _).mono ?_; rintro e w3 ⟨rfl, hb3⟩; clear hL
         have m0 := keep hb3 (b := w.heap.size) (o := 0) (x := .int .i64 p1) (by first | assumption | go_simp)
         have m1 := keep hb3 (b := w.heap.size) (o := 1) (x := .int .i64 p2) (by first | assumption | go_simp)
         have m2 := keep hb3 (b := w.heap.size) (o := 2) (x := .int .i64 a1) (by first | assumption | go_simp)
         have m3 := keep hb3 (b := w.heap.size) (o := 3) (x := .int .i64 a2) (by first | assumption | go_simp)
         have m4 := keep hb3 (b := w.heap.size) (o := 4) (x := .slice x n c) (by first | assumption | go_simp)
         have B3 := on B2 hb3; clear hb3 l0 l1 l2 l3 l4)
      | (
         go_at_call 160; refine (hZ _).mono ?_; rintro e w4 ⟨rfl, hb4⟩; clear hZ
         have q0 := keep hb4 (b := w.heap.size) (o := 0) (x := .int .i64 p1) (by first | assumption | go_simp)
         have q1 := keep hb4 (b := w.heap.size) (o := 1) (x := .int .i64 p2) (by first | assumption | go_simp)
         have q2 := keep hb4 (b := w.heap.size) (o := 2) (x := .int .i64 a1) (by first | assumption | go_simp)
         have q3 := keep hb4 (b := w.heap.size) (o := 3) (x := .int .i64 a2) (by first | assumption | go_simp)
         have q4 := keep hb4 (b := w.heap.size) (o := 4) (x := .slice x n c) (by first | assumption | go_simp)
         have B4 := on B3 hb4; clear hb4))
    go_ret
    exact ⟨by simp [nz], B4⟩

theorem free_any (p a : Bt) (x : Option Addr) (n c : Nat) (b : Bt) (w : World) : Calls Tryz.prog 117 #[ac p a x n c, bt b] w fun e w' => e = .returned (.bool (freeb p a n b)) ∧ Below w.heap.size w w' := by
  have hM := fun W => mayA_any p a x n c W
  have hB := fun W => may_any b W
  have hL := fun W => less_any b p W
  unfold freeb
  generalize mayA p a n = tm at *
  generalize mayb b = tb at *
  generalize ltb b p = tl at *
  obtain ⟨p1, p2⟩ := p
  obtain ⟨a1, a2⟩ := a
  obtain ⟨b1, b2⟩ := b
  unfold bt ac at *
  dsimp only at *
  have b0 : ∀ x y, Below w.heap.size w ((w.alloc x).alloc y) := fun x y => ((Below.refl _ w).alloc (Nat.le_refl _) _).alloc (by simp) _
  cases tm with
  | false =>
    go_enter Tryz.func117, Tryz.ntmps117
    go_wp2_with (first
      | (
         go_at_call 142; refine (hM _).mono ?_; rintro e w1 ⟨rfl, hb1⟩; clear hM))
    go_ret
    exact ⟨by simp, on (b0 _ _) hb1⟩
  | true =>
  cases tb with
  | false =>
    go_enter Tryz.func117, Tryz.ntmps117
    go_wp2_with (first
      | (
         go_at_call 142; refine (hM _).mono ?_; rintro e w1 ⟨rfl, hb1⟩; clear hM
         have k0 := keep hb1 (b := w.heap.size) (o := 0) (x := .int .i64 p1) (by first | assumption | go_simp)
         have k1 := keep hb1 (b := w.heap.size) (o := 1) (x := .int .i64 p2) (by first | assumption | go_simp)
         have j0 := keep hb1 (b := w.heap.size + 1) (o := 0) (x := .int .i64 b1) (by first | assumption | go_simp)
         have j1 := keep hb1 (b := w.heap.size + 1) (o := 1) (x := .int .i64 b2) (by first | assumption | go_simp)
         have B1 := on (b0 _ _) hb1; clear hb1)
      | (
         go_at_call 145; refine (hB _).mono ?_; rintro e w2 ⟨rfl, hb2⟩; clear hB))
    go_ret
    exact ⟨by simp, on B1 hb2⟩
  | true =>
    go_enter Tryz.func117, Tryz.ntmps117
    go_wp2_with (first
      | (
         go_at_call 142; refine (hM _).mono ?_; rintro e w1 ⟨rfl, hb1⟩; clear hM
         have k0 := keep hb1 (b := w.heap.size) (o := 0) (x := .int .i64 p1) (by first | assumption | go_simp)
         have k1 := keep hb1 (b := w.heap.size) (o := 1) (x := .int .i64 p2) (by first | assumption | go_simp)
         have j0 := keep hb1 (b := w.heap.size + 1) (o := 0) (x := .int .i64 b1) (by first | assumption | go_simp)
         have j1 := keep hb1 (b := w.heap.size + 1) (o := 1) (x := .int .i64 b2) (by first | assumption | go_simp)
         have B1 := on (b0 _ _) hb1; clear hb1)
      | (
         go_at_call 145; refine (hB _).mono ?_; rintro e w2 ⟨rfl, hb2⟩; clear hB
         have l0 := keep hb2 (b := w.heap.size) (o := 0) (x := .int .i64 p1) (by first | assumption | go_simp)
         have l1 := keep hb2 (b := w.heap.size) (o := 1) (x := .int .i64 p2) (by first | assumption | go_simp)
         have m0 := keep hb2 (b := w.heap.size + 1) (o := 0) (x := .int .i64 b1) (by first | assumption | go_simp)
         have m1 := keep hb2 (b := w.heap.size + 1) (o := 1) (x := .int .i64 b2) (by first | assumption | go_simp)
         have B2 := on B1 hb2; clear hb2 k0 k1 j0 j1)
      | (
         go_at_call 86; refine (hL _).mono ?_; rintro e w3 ⟨rfl, hb3⟩; clear hL))
    go_ret
    exact ⟨by simp, on B2 hb3⟩

/- bytes.Clone. -/
theorem clone_sl (x : Option Addr) (n c : Nat) (l : List Nat) (w : World) (hl : Sl w x n c l) (hn : n ≤ 140737488355328) :
    Calls Tryz.prog 109 #[.slice x n c] w fun e w' => ∃ y cy, e = .returned (.slice y n cy) ∧ Hid (Below w.heap.size w w' ∧ Sl w' y n cy l ∧ (∀ a, y = some a → w.heap.size ≤ a.block ∧ Tb w' a.block 5 ∧ (∀ j, w'.frozen? ⟨a.block, j, none⟩ = false) ∧ a = ⟨a.block, 0, none⟩)) := by
  cases x with
  | none =>
    obtain ⟨rfl, rfl⟩ := hl.nil' rfl
    have h0 : l = [] := List.eq_nil_of_length_eq_zero hl.len
    subst h0
    exact (clone_nil w).mono fun e w' h => ⟨none, 0, h.1, by rw [h.2]; exact Below.refl _ _, Sl.empty _, fun a ha => by cases ha⟩
  | some ad =>
    obtain ⟨g, cy, w', hrun, h1, h0, h2, h3, h4, h5⟩ := bytes_copy w (some ad) n c (gl l) hl.row (fun h => by cases h) hn
    have hcy : n ≤ cy ∧ Tb w' g 5 ∧ ∀ j, w'.frozen? ⟨g, j, none⟩ = false := by
      rcases h0.2 with ⟨h, _⟩ | ⟨g', c', cur, h, _, hg, hc, _⟩
      · cases h
      · injection h with h _ e
        injection h with h
        injection h with h _ _
        subst h
        subst e
        exact ⟨hc, ⟨_, _, hg⟩, fun j => by simp [World.frozen?, hg]⟩
    have H1 : Hid (Below w.heap.size w w' ∧ Sl w' (some ⟨g, 0, none⟩) n cy l ∧ Tb w' g 5 ∧ (∀ j, w'.frozen? ⟨g, j, none⟩ = false) ∧ w.heap.size ≤ g) := ⟨h1, ⟨hl.len, hcy.1, (fun h => by cases h), h5, hl.lt⟩, hcy.2.1, hcy.2.2, h2⟩
    have he : ∀ w : World, (binOp .eql 73 (.slice (some ad) n c) (.slice none 0 0)).run Tryz.prog w = .ok (.bool false) w := fun _ => by kernel_rfl
    clear h1 h0 h4 h5 hl hcy h2 h3
    go_enter Tryz.func109, Tryz.ntmps109
    go_wp2_with (at_builtin; refine wpList_append_run rfl _ _ 73 rfl _ _ rfl rfl hrun ?_; clear hrun)
    go_ret
    exact ⟨some ⟨g, 0, none⟩, cy, rfl, H1.out.1, H1.out.2.1, fun a ha => by cases ha; exact ⟨H1.out.2.2.2.2, H1.out.2.2.1, H1.out.2.2.2.1, rfl⟩⟩

theorem keepf {w v : World} {b o : Nat} (hb : Below w.heap.size w v) (hlt : b < w.heap.size) (h : w.frozen? ⟨b, o, none⟩ = false) : v.frozen? ⟨b, o, none⟩ = false := by
  rw [← h]
  unfold World.frozen?
  rw [hb.block b hlt]

/- What an acceptor that is told is like: its value lies in memory of its own. -/
def Vl (w w' : World) (y : Option Addr) (n c : Nat) (l : List Nat) : Prop := Below w.heap.size w w' ∧ Sl w' y n c l ∧ ∀ a, y = some a → w.heap.size ≤ a.block ∧ Tb w' a.block 5

theorem results_cell2 {fn : Func} {p q : Tmp} {ty : TypeId} (h : fn.results = #[.cell p ty, .tmp q]) (tmps : Array Value) (P : Program) (w : World) :
    (results fn tmps).run P w = ((asAddr (tmps.getD p undef)).run P w).andThen fun a w₁ => ((loadVar ty a).run P w₁).andThen fun v w₂ => .ok (.tuple #[v, tmps.getD q undef]) w₂ := by
  simp only [results, h]
  simp [Sem.run_bind, Result.andThen]

end Go.Proofs.YtdlajpjigddbhaaGreat.Ba

namespace Go.Proofs.YtdlajpjigddbhaaGreat.Fl
open Go.RowKit By

theorem Turns.set2 {F : Nat → Prop} {a w : World} (h : Turns F a w) (g : Nat) (hg : F g) (u0 u1 : Value) : Turns F a ((w.setCell ⟨g, 0, none⟩ u0).setCell ⟨g, 1, none⟩ u1) :=
  (h.setCell (p := ⟨g, 0, none⟩) (.inl hg) _).setCell (p := ⟨g, 1, none⟩) (.inl hg) _
theorem Turns.set5 {F : Nat → Prop} {a w : World} (h : Turns F a w) (g : Nat) (hg : F g) (u0 u1 u2 u3 u4 : Value) : Turns F a (((((w.setCell ⟨g, 0, none⟩ u0).setCell ⟨g, 1, none⟩ u1).setCell ⟨g, 2, none⟩ u2).setCell ⟨g, 3, none⟩ u3).setCell ⟨g, 4, none⟩ u4) :=
  ((((h.setCell (p := ⟨g, 0, none⟩) (.inl hg) _).setCell (p := ⟨g, 1, none⟩) (.inl hg) _).setCell (p := ⟨g, 2, none⟩) (.inl hg) _).setCell (p := ⟨g, 3, none⟩) (.inl hg) _).setCell (p := ⟨g, 4, none⟩) (.inl hg) _

end Go.Proofs.YtdlajpjigddbhaaGreat.Fl

namespace Go.Proofs.YtdlajpjigddbhaaGreat.Ba
open Go.RowKit By Fl
set_option linter.unusedVariables false
set_option linter.unusedSimpArgs false

theorem Vl.turns {w W0 w1 wF : World} {y : Option Addr} {n c : Nat} {l : List Nat} (b : Below w.heap.size w W0) (h : Vl W0 w1 y n c l) (t : Turns (fun k => w.heap.size ≤ k ∧ k < W0.heap.size) w1 wF) : Vl w wF y n c l := by
  obtain ⟨h1, h2, h3⟩ := h
  refine ⟨(on b h1).trans (t.below (fun k hk => hk.1) (Nat.le_trans b.size h1.size)), h2.turns t (fun _ a ha hg => ?_), fun a ha => ⟨?_, (h3 a ha).2.of_heap (t.block _ (h3 a ha).2.lt (fun hg => ?_))⟩⟩
  · have := (h3 a ha).1
    omega
  · have := (h3 a ha).1
    have := b.size
    omega
  · have := (h3 a ha).1
    omega

theorem clone_vl (x : Option Addr) (n c : Nat) (l : List Nat) (w : World) (hl : Sl w x n c l) (hn : n ≤ 140737488355328) :
    Calls Tryz.prog 109 #[.slice x n c] w fun e w' => ∃ y cy, e = .returned (.slice y n cy) ∧ Hid (Vl w w' y n cy l) :=
  (clone_sl x n c l w hl hn).mono fun e w' ⟨y, cy, h1, h2⟩ => ⟨y, cy, h1, h2.out.1, h2.out.2.1, fun a ha => ⟨(h2.out.2.2 a ha).1, (h2.out.2.2 a ha).2.1⟩⟩

theorem prepare_no (p a : Bt) (x : Option Addr) (n c : Nat) (l : List Nat) (b : Bt) (w : World) (hl : Sl w x n c l) (hn : n ≤ 140737488355328) (hf : freeb p a n b = false) :
    Calls Tryz.prog 83 #[ac p a x n c, bt b] w fun e w' => ∃ y cy, e = .returned (.tuple #[ac p a y n cy, .bool false]) ∧ Hid (Vl w w' y n cy l) := by
  have hF := fun y cy W => free_any p a y n cy b W
  rw [hf] at hF
  clear hf
  have HC := fun W h => clone_vl x n c l W h hn
  clear hn
  obtain ⟨p1, p2⟩ := p
  obtain ⟨a1, a2⟩ := a
  obtain ⟨b1, b2⟩ := b
  unfold bt ac at *
  dsimp only at *
  have b0 : ∀ x y z, Below w.heap.size w (((w.alloc x).alloc y).alloc z) := fun x y z => (((Below.refl _ w).alloc (Nat.le_refl _) _).alloc (by simp) _).alloc (by simp; omega) _
  go_enter Tryz.func83, Tryz.ntmps83
  go_wp2_with (first
    | (
       go_at_call 109; refine (HC _ (hl.below (b0 _ _ _))).mono ?_; rintro e w1 ⟨y, cy, rfl, H1⟩; clear HC
       have k0 := keep H1.out.1 (b := w.heap.size) (o := 0) (x := .int .i64 p1) (by first | assumption | go_simp)
       have k1 := keep H1.out.1 (b := w.heap.size) (o := 1) (x := .int .i64 p2) (by first | assumption | go_simp)
       have k2 := keep H1.out.1 (b := w.heap.size) (o := 2) (x := .int .i64 a1) (by first | assumption | go_simp)
       have k3 := keep H1.out.1 (b := w.heap.size) (o := 3) (x := .int .i64 a2) (by first | assumption | go_simp)
       have k4 := keep H1.out.1 (b := w.heap.size) (o := 4) (x := .slice x n c) (by first | assumption | go_simp)
       have j0 := keep H1.out.1 (b := w.heap.size + 1) (o := 0) (x := .int .i64 b1) (by first | assumption | go_simp)
       have j1 := keep H1.out.1 (b := w.heap.size + 1) (o := 1) (x := .int .i64 b2) (by first | assumption | go_simp)
       have r0 := keep H1.out.1 (b := w.heap.size + 1 + 1) (o := 0) (x := .int .i64 0) (by first | assumption | go_simp)
       have r1 := keep H1.out.1 (b := w.heap.size + 1 + 1) (o := 1) (x := .int .i64 0) (by first | assumption | go_simp)
       have r2 := keep H1.out.1 (b := w.heap.size + 1 + 1) (o := 2) (x := .int .i64 0) (by first | assumption | go_simp)
       have r3 := keep H1.out.1 (b := w.heap.size + 1 + 1) (o := 3) (x := .int .i64 0) (by first | assumption | go_simp)
       have r4 := keep H1.out.1 (b := w.heap.size + 1 + 1) (o := 4) (x := .slice none 0 0) (by first | assumption | go_simp)
       have f4 := keepf H1.out.1 (b := w.heap.size) (o := 4) (by first | (simp <;> omega) | exact cell_lt' (a := ⟨w.heap.size, 4, none⟩) (by assumption) | (simp; exact cell_lt' (a := ⟨w.heap.size, 4, none⟩) (by assumption))) (by first | assumption | go_simp)
       have g0 := keepf H1.out.1 (b := w.heap.size + 1 + 1) (o := 0) (by first | (simp <;> omega) | exact cell_lt' (a := ⟨w.heap.size + 1 + 1, 0, none⟩) (by assumption) | (simp; exact cell_lt' (a := ⟨w.heap.size + 1 + 1, 0, none⟩) (by assumption))) (by first | assumption | go_simp)
       have g1 := keepf H1.out.1 (b := w.heap.size + 1 + 1) (o := 1) (by first | (simp <;> omega) | exact cell_lt' (a := ⟨w.heap.size + 1 + 1, 1, none⟩) (by assumption) | (simp; exact cell_lt' (a := ⟨w.heap.size + 1 + 1, 1, none⟩) (by assumption))) (by first | assumption | go_simp)
       have g2 := keepf H1.out.1 (b := w.heap.size + 1 + 1) (o := 2) (by first | (simp <;> omega) | exact cell_lt' (a := ⟨w.heap.size + 1 + 1, 2, none⟩) (by assumption) | (simp; exact cell_lt' (a := ⟨w.heap.size + 1 + 1, 2, none⟩) (by assumption))) (by first | assumption | go_simp)
       have g3 := keepf H1.out.1 (b := w.heap.size + 1 + 1) (o := 3) (by first | (simp <;> omega) | exact cell_lt' (a := ⟨w.heap.size + 1 + 1, 3, none⟩) (by assumption) | (simp; exact cell_lt' (a := ⟨w.heap.size + 1 + 1, 3, none⟩) (by assumption))) (by first | assumption | go_simp)
       have g4 := keepf H1.out.1 (b := w.heap.size + 1 + 1) (o := 4) (by first | (simp <;> omega) | exact cell_lt' (a := ⟨w.heap.size + 1 + 1, 4, none⟩) (by assumption) | (simp; exact cell_lt' (a := ⟨w.heap.size + 1 + 1, 4, none⟩) (by assumption))) (by first | assumption | go_simp)
       have T0 := Turns.refl (fun k => w.heap.size ≤ k ∧ k < w.heap.size + 1 + 1 + 1) w1
       have T1 := T0.setCell (p := ⟨w.heap.size, 4, none⟩) (.inl ⟨Nat.le_refl _, by show w.heap.size < _; omega⟩) (.slice y n cy)
       clear T0)
    | (
       go_at_call 117; refine (hF y cy _).mono ?_; rintro e w2 ⟨rfl, hb2⟩; clear hF
       have k0 := keep hb2 (b := w.heap.size) (o := 0) (x := .int .i64 p1) (by first | assumption | go_simp)
       have k1 := keep hb2 (b := w.heap.size) (o := 1) (x := .int .i64 p2) (by first | assumption | go_simp)
       have k2 := keep hb2 (b := w.heap.size) (o := 2) (x := .int .i64 a1) (by first | assumption | go_simp)
       have k3 := keep hb2 (b := w.heap.size) (o := 3) (x := .int .i64 a2) (by first | assumption | go_simp)
       have k4 := keep hb2 (b := w.heap.size) (o := 4) (x := .slice y n cy) (by first | assumption | go_simp)
       have r0 := keep hb2 (b := w.heap.size + 1 + 1) (o := 0) (x := .int .i64 0) (by first | assumption | go_simp)
       have r1 := keep hb2 (b := w.heap.size + 1 + 1) (o := 1) (x := .int .i64 0) (by first | assumption | go_simp)
       have r2 := keep hb2 (b := w.heap.size + 1 + 1) (o := 2) (x := .int .i64 0) (by first | assumption | go_simp)
       have r3 := keep hb2 (b := w.heap.size + 1 + 1) (o := 3) (x := .int .i64 0) (by first | assumption | go_simp)
       have r4 := keep hb2 (b := w.heap.size + 1 + 1) (o := 4) (x := .slice none 0 0) (by first | assumption | go_simp)
       have g0 := keepf hb2 (b := w.heap.size + 1 + 1) (o := 0) (by first | (simp <;> omega) | exact cell_lt' (a := ⟨w.heap.size + 1 + 1, 0, none⟩) (by assumption) | (simp; exact cell_lt' (a := ⟨w.heap.size + 1 + 1, 0, none⟩) (by assumption))) (by first | assumption | go_simp)
       have g1 := keepf hb2 (b := w.heap.size + 1 + 1) (o := 1) (by first | (simp <;> omega) | exact cell_lt' (a := ⟨w.heap.size + 1 + 1, 1, none⟩) (by assumption) | (simp; exact cell_lt' (a := ⟨w.heap.size + 1 + 1, 1, none⟩) (by assumption))) (by first | assumption | go_simp)
       have g2 := keepf hb2 (b := w.heap.size + 1 + 1) (o := 2) (by first | (simp <;> omega) | exact cell_lt' (a := ⟨w.heap.size + 1 + 1, 2, none⟩) (by assumption) | (simp; exact cell_lt' (a := ⟨w.heap.size + 1 + 1, 2, none⟩) (by assumption))) (by first | assumption | go_simp)
       have g3 := keepf hb2 (b := w.heap.size + 1 + 1) (o := 3) (by first | (simp <;> omega) | exact cell_lt' (a := ⟨w.heap.size + 1 + 1, 3, none⟩) (by assumption) | (simp; exact cell_lt' (a := ⟨w.heap.size + 1 + 1, 3, none⟩) (by assumption))) (by first | assumption | go_simp)
       have g4 := keepf hb2 (b := w.heap.size + 1 + 1) (o := 4) (by first | (simp <;> omega) | exact cell_lt' (a := ⟨w.heap.size + 1 + 1, 4, none⟩) (by assumption) | (simp; exact cell_lt' (a := ⟨w.heap.size + 1 + 1, 4, none⟩) (by assumption))) (by first | assumption | go_simp)
       have T2 := T1.trans (Turns.of_below hb2)
       clear T1 hb2))
  refine bodyPost_ret (v := .tuple #[.agg #[.int .i64 p1, .int .i64 p2, .int .i64 a1, .int .i64 a2, .slice y n cy], .bool false]) ?_ rfl ⟨y, cy, rfl, Vl.turns (b0 _ _ _) H1.out ?_⟩
  · rw [results_cell2 rfl]
    go_simp
  · exact (T2.set5 (w.heap.size + 1 + 1) ⟨by omega, by omega⟩ _ _ _ _ _).weak fun k hk => by simpa using hk

theorem prepare_yes (p a : Bt) (x : Option Addr) (n c : Nat) (l : List Nat) (b : Bt) (w : World) (hl : Sl w x n c l) (hn : n ≤ 140737488355328) (hf : freeb p a n b = true) :
    Calls Tryz.prog 83 #[ac p a x n c, bt b] w fun e w' => ∃ y cy, e = .returned (.tuple #[ac b a y n cy, .bool true]) ∧ Hid (Vl w w' y n cy l) := by
  have hF := fun y cy W => free_any p a y n cy b W
  rw [hf] at hF
  clear hf
  have HC := fun W h => clone_vl x n c l W h hn
  clear hn
  obtain ⟨p1, p2⟩ := p
  obtain ⟨a1, a2⟩ := a
  obtain ⟨b1, b2⟩ := b
  unfold bt ac at *
  dsimp only at *
  have b0 : ∀ x y z, Below w.heap.size w (((w.alloc x).alloc y).alloc z) := fun x y z => (((Below.refl _ w).alloc (Nat.le_refl _) _).alloc (by simp) _).alloc (by simp; omega) _
  go_enter Tryz.func83, Tryz.ntmps83
  go_wp2_with (first
    | (
       go_at_call 109; refine (HC _ (hl.below (b0 _ _ _))).mono ?_; rintro e w1 ⟨y, cy, rfl, H1⟩; clear HC
       have k0 := keep H1.out.1 (b := w.heap.size) (o := 0) (x := .int .i64 p1) (by first | assumption | go_simp)
       have k1 := keep H1.out.1 (b := w.heap.size) (o := 1) (x := .int .i64 p2) (by first | assumption | go_simp)
       have k2 := keep H1.out.1 (b := w.heap.size) (o := 2) (x := .int .i64 a1) (by first | assumption | go_simp)
       have k3 := keep H1.out.1 (b := w.heap.size) (o := 3) (x := .int .i64 a2) (by first | assumption | go_simp)
       have k4 := keep H1.out.1 (b := w.heap.size) (o := 4) (x := .slice x n c) (by first | assumption | go_simp)
       have j0 := keep H1.out.1 (b := w.heap.size + 1) (o := 0) (x := .int .i64 b1) (by first | assumption | go_simp)
       have j1 := keep H1.out.1 (b := w.heap.size + 1) (o := 1) (x := .int .i64 b2) (by first | assumption | go_simp)
       have r0 := keep H1.out.1 (b := w.heap.size + 1 + 1) (o := 0) (x := .int .i64 0) (by first | assumption | go_simp)
       have r1 := keep H1.out.1 (b := w.heap.size + 1 + 1) (o := 1) (x := .int .i64 0) (by first | assumption | go_simp)
       have r2 := keep H1.out.1 (b := w.heap.size + 1 + 1) (o := 2) (x := .int .i64 0) (by first | assumption | go_simp)
       have r3 := keep H1.out.1 (b := w.heap.size + 1 + 1) (o := 3) (x := .int .i64 0) (by first | assumption | go_simp)
       have r4 := keep H1.out.1 (b := w.heap.size + 1 + 1) (o := 4) (x := .slice none 0 0) (by first | assumption | go_simp)
       have f0 := keepf H1.out.1 (b := w.heap.size) (o := 0) (by first | (simp <;> omega) | exact cell_lt' (a := ⟨w.heap.size, 0, none⟩) (by assumption) | (simp; exact cell_lt' (a := ⟨w.heap.size, 0, none⟩) (by assumption))) (by first | assumption | go_simp)
       have f1 := keepf H1.out.1 (b := w.heap.size) (o := 1) (by first | (simp <;> omega) | exact cell_lt' (a := ⟨w.heap.size, 1, none⟩) (by assumption) | (simp; exact cell_lt' (a := ⟨w.heap.size, 1, none⟩) (by assumption))) (by first | assumption | go_simp)
       have f4 := keepf H1.out.1 (b := w.heap.size) (o := 4) (by first | (simp <;> omega) | exact cell_lt' (a := ⟨w.heap.size, 4, none⟩) (by assumption) | (simp; exact cell_lt' (a := ⟨w.heap.size, 4, none⟩) (by assumption))) (by first | assumption | go_simp)
       have g0 := keepf H1.out.1 (b := w.heap.size + 1 + 1) (o := 0) (by first | (simp <;> omega) | exact cell_lt' (a := ⟨w.heap.size + 1 + 1, 0, none⟩) (by assumption) | (simp; exact cell_lt' (a := ⟨w.heap.size + 1 + 1, 0, none⟩) (by assumption))) (by first | assumption | go_simp)
       have g1 := keepf H1.out.1 (b := w.heap.size + 1 + 1) (o := 1) (by first | (simp <;> omega) | exact cell_lt' (a := ⟨w.heap.size + 1 + 1, 1, none⟩) (by assumption) | (simp; exact cell_lt' (a := ⟨w.heap.size + 1 + 1, 1, none⟩) (by assumption))) (by first | assumption | go_simp)
       have g2 := keepf H1.out.1 (b := w.heap.size + 1 + 1) (o := 2) (by first | (simp <;> omega) | exact cell_lt' (a := ⟨w.heap.size + 1 + 1, 2, none⟩) (by assumption) | (simp; exact cell_lt' (a := ⟨w.heap.size + 1 + 1, 2, none⟩) (by assumption))) (by first | assumption | go_simp)
       have g3 := keepf H1.out.1 (b := w.heap.size + 1 + 1) (o := 3) (by first | (simp <;> omega) | exact cell_lt' (a := ⟨w.heap.size + 1 + 1, 3, none⟩) (by assumption) | (simp; exact cell_lt' (a := ⟨w.heap.size + 1 + 1, 3, none⟩) (by assumption))) (by first | assumption | go_simp)
       have g4 := keepf H1.out.1 (b := w.heap.size + 1 + 1) (o := 4) (by first | (simp <;> omega) | exact cell_lt' (a := ⟨w.heap.size + 1 + 1, 4, none⟩) (by assumption) | (simp; exact cell_lt' (a := ⟨w.heap.size + 1 + 1, 4, none⟩) (by assumption))) (by first | assumption | go_simp)
       have T0 := Turns.refl (fun k => w.heap.size ≤ k ∧ k < w.heap.size + 1 + 1 + 1) w1
       have T1 := T0.setCell (p := ⟨w.heap.size, 4, none⟩) (.inl ⟨Nat.le_refl _, by show w.heap.size < _; omega⟩) (.slice y n cy)
       clear T0)
    | (
       go_at_call 117; refine (hF y cy _).mono ?_; rintro e w2 ⟨rfl, hb2⟩; clear hF
       have k0 := keep hb2 (b := w.heap.size) (o := 0) (x := .int .i64 p1) (by first | assumption | go_simp)
       have k1 := keep hb2 (b := w.heap.size) (o := 1) (x := .int .i64 p2) (by first | assumption | go_simp)
       have k2 := keep hb2 (b := w.heap.size) (o := 2) (x := .int .i64 a1) (by first | assumption | go_simp)
       have k3 := keep hb2 (b := w.heap.size) (o := 3) (x := .int .i64 a2) (by first | assumption | go_simp)
       have k4 := keep hb2 (b := w.heap.size) (o := 4) (x := .slice y n cy) (by first | assumption | go_simp)
       have j0 := keep hb2 (b := w.heap.size + 1) (o := 0) (x := .int .i64 b1) (by first | assumption | go_simp)
       have j1 := keep hb2 (b := w.heap.size + 1) (o := 1) (x := .int .i64 b2) (by first | assumption | go_simp)
       have f0 := keepf hb2 (b := w.heap.size) (o := 0) (by first | (simp <;> omega) | exact cell_lt' (a := ⟨w.heap.size, 0, none⟩) (by assumption) | (simp; exact cell_lt' (a := ⟨w.heap.size, 0, none⟩) (by assumption))) (by first | assumption | go_simp)
       have f1 := keepf hb2 (b := w.heap.size) (o := 1) (by first | (simp <;> omega) | exact cell_lt' (a := ⟨w.heap.size, 1, none⟩) (by assumption) | (simp; exact cell_lt' (a := ⟨w.heap.size, 1, none⟩) (by assumption))) (by first | assumption | go_simp)
       have r0 := keep hb2 (b := w.heap.size + 1 + 1) (o := 0) (x := .int .i64 0) (by first | assumption | go_simp)
       have r1 := keep hb2 (b := w.heap.size + 1 + 1) (o := 1) (x := .int .i64 0) (by first | assumption | go_simp)
       have r2 := keep hb2 (b := w.heap.size + 1 + 1) (o := 2) (x := .int .i64 0) (by first | assumption | go_simp)
       have r3 := keep hb2 (b := w.heap.size + 1 + 1) (o := 3) (x := .int .i64 0) (by first | assumption | go_simp)
       have r4 := keep hb2 (b := w.heap.size + 1 + 1) (o := 4) (x := .slice none 0 0) (by first | assumption | go_simp)
       have g0 := keepf hb2 (b := w.heap.size + 1 + 1) (o := 0) (by first | (simp <;> omega) | exact cell_lt' (a := ⟨w.heap.size + 1 + 1, 0, none⟩) (by assumption) | (simp; exact cell_lt' (a := ⟨w.heap.size + 1 + 1, 0, none⟩) (by assumption))) (by first | assumption | go_simp)
       have g1 := keepf hb2 (b := w.heap.size + 1 + 1) (o := 1) (by first | (simp <;> omega) | exact cell_lt' (a := ⟨w.heap.size + 1 + 1, 1, none⟩) (by assumption) | (simp; exact cell_lt' (a := ⟨w.heap.size + 1 + 1, 1, none⟩) (by assumption))) (by first | assumption | go_simp)
       have g2 := keepf hb2 (b := w.heap.size + 1 + 1) (o := 2) (by first | (simp <;> omega) | exact cell_lt' (a := ⟨w.heap.size + 1 + 1, 2, none⟩) (by assumption) | (simp; exact cell_lt' (a := ⟨w.heap.size + 1 + 1, 2, none⟩) (by assumption))) (by first | assumption | go_simp)
       have g3 := keepf hb2 (b := w.heap.size + 1 + 1) (o := 3) (by first | (simp <;> omega) | exact cell_lt' (a := ⟨w.heap.size + 1 + 1, 3, none⟩) (by assumption) | (simp; exact cell_lt' (a := ⟨w.heap.size + 1 + 1, 3, none⟩) (by assumption))) (by first | assumption | go_simp)
       have g4 := keepf hb2 (b := w.heap.size + 1 + 1) (o := 4) (by first | (simp <;> omega) | exact cell_lt' (a := ⟨w.heap.size + 1 + 1, 4, none⟩) (by assumption) | (simp; exact cell_lt' (a := ⟨w.heap.size + 1 + 1, 4, none⟩) (by assumption))) (by first | assumption | go_simp)
       have T2 := T1.trans (Turns.of_below hb2)
       clear T1 hb2))
  refine bodyPost_ret (v := .tuple #[.agg #[.int .i64 b1, .int .i64 b2, .int .i64 a1, .int .i64 a2, .slice y n cy], .bool true]) ?_ rfl ⟨y, cy, rfl, Vl.turns (b0 _ _ _) H1.out ?_⟩
  · rw [results_cell2 rfl]
    go_simp
  · exact ((T2.set2 w.heap.size ⟨by omega, by omega⟩ _ _).set5 (w.heap.size + 1 + 1) ⟨by omega, by omega⟩ _ _ _ _ _).weak fun k hk => by simpa using hk

end Go.Proofs.YtdlajpjigddbhaaGreat.Ba
