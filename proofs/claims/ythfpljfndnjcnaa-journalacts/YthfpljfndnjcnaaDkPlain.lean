/-
  A disk as plain numbers: its bytes, what was written since the last flush, what a crash leaves and what is read.
  Conditions: none.
-/
import Derived.Test.YthfpljfndnjcnaaRows
namespace Go.Proofs.Ythfpljfndnjcnaa.Dk
set_option linter.unusedVariables false
set_option linter.unusedSimpArgs false

def put (f : Nat → Nat) (a : Nat) (d : Nat → Nat) : Nat → Nat := fun k => if k / 64 = a then d (k % 64) else f k

def kept (f A : Nat → Nat) (D : Nat → Nat → Nat) (c : Nat → Bool) : Nat → Nat → Nat
  | 0 => f
  | i + 1 => if c i = true then put (kept f A D c i) (A i) (D i) else kept f A D c i

def last (A : Nat → Nat) (k : Nat) : Nat → Nat
  | 0 => 0
  | m + 1 => if A m = k then m + 1 else last A k m

def sec (f : Nat → Nat) (k : Nat) : Nat → Nat := fun j => f (64 * k + j)

def now (f A : Nat → Nat) (D : Nat → Nat → Nat) (k m : Nat) : Nat → Nat := if last A k m = 0 then sec f k else D (last A k m - 1)

def ext {α : Type} (A : Nat → α) (m : Nat) (a : α) : Nat → α := fun i => if i < m then A i else a

theorem ext_old {α : Type} (A : Nat → α) (m : Nat) (a : α) {i : Nat} (h : i < m) : ext A m a i = A i := by simp [ext, h]
theorem ext_new {α : Type} (A : Nat → α) (m : Nat) (a : α) : ext A m a m = a := by simp [ext]

theorem put_sec (f : Nat → Nat) (a : Nat) (d : Nat → Nat) (k j : Nat) (hj : j < 64) : sec (put f a d) k j = if k = a then d j else sec f k j := by
  have h1 : (64 * k + j) / 64 = k := by omega
  have h2 : (64 * k + j) % 64 = j := by omega
  simp [sec, put, h1, h2]

theorem last_le (A : Nat → Nat) (k : Nat) : ∀ m, last A k m ≤ m
  | 0 => Nat.le_refl _
  | m + 1 => by
    have := last_le A k m
    unfold last
    split <;> omega

theorem last_at (A : Nat → Nat) (k : Nat) : ∀ m, last A k m ≠ 0 → A (last A k m - 1) = k
  | 0, h => absurd rfl h
  | m + 1, h => by
    unfold last at h ⊢
    split
    · rename_i e; simpa using e
    · rename_i e
      rw [if_neg e] at h
      exact last_at A k m h

theorem last_congr {A B : Nat → Nat} (k : Nat) : ∀ m, (∀ i, i < m → A i = B i) → last A k m = last B k m
  | 0, _ => rfl
  | m + 1, h => by
    unfold last
    rw [h m (Nat.lt_succ_self m), last_congr k m fun i hi => h i (Nat.lt_succ_of_lt hi)]

theorem last_ext (A : Nat → Nat) (m a k : Nat) : last (ext A m a) k (m + 1) = if a = k then m + 1 else last A k m := by
  rw [last, ext_new]
  rw [last_congr k m (fun i hi => ext_old A m a hi)]

theorem last_none {A : Nat → Nat} {k : Nat} : ∀ m, (∀ i, i < m → A i ≠ k) → last A k m = 0
  | 0, _ => rfl
  | m + 1, h => by
    unfold last
    rw [if_neg (h m (Nat.lt_succ_self m))]
    exact last_none m fun i hi => h i (Nat.lt_succ_of_lt hi)

theorem last_hit {A : Nat → Nat} {k : Nat} : ∀ m i, i < m → A i = k → last A k m ≠ 0
  | m + 1, i, hi, e => by
    unfold last
    split
    · omega
    · rename_i h
      refine last_hit m i ?_ e
      rcases Nat.lt_succ_iff_lt_or_eq.1 hi with h1 | h1
      · exact h1
      · subst h1; exact absurd e h

theorem kept_lt {f A : Nat → Nat} {D : Nat → Nat → Nat} (c : Nat → Bool) (hf : ∀ i, f i < 256) (hD : ∀ i j, D i j < 256) : ∀ m k, kept f A D c m k < 256
  | 0, k => hf k
  | m + 1, k => by
    unfold kept
    split
    · unfold put
      split
      · exact hD _ _
      · exact kept_lt c hf hD m k
    · exact kept_lt c hf hD m k

theorem now_lt {f A : Nat → Nat} {D : Nat → Nat → Nat} (hf : ∀ i, f i < 256) (hD : ∀ i j, D i j < 256) (k m j : Nat) : now f A D k m j < 256 := by
  unfold now
  split
  · exact hf _
  · exact hD _ _

/- Where nothing was written all is as it was. -/
theorem kept_away {f A : Nat → Nat} {D : Nat → Nat → Nat} (c : Nat → Bool) (k : Nat) : ∀ m, (∀ i, i < m → A i ≠ k) → ∀ j, j < 64 → sec (kept f A D c m) k j = sec f k j
  | 0, _, _, _ => rfl
  | m + 1, h, j, hj => by
    unfold kept
    split
    · rw [put_sec _ _ _ _ _ hj, if_neg (fun e => h m (Nat.lt_succ_self m) e.symm)]
      exact kept_away c k m (fun i hi => h i (Nat.lt_succ_of_lt hi)) j hj
    · exact kept_away c k m (fun i hi => h i (Nat.lt_succ_of_lt hi)) j hj

/- What is flushed is what was read. -/
theorem kept_all (f A : Nat → Nat) (D : Nat → Nat → Nat) (k : Nat) : ∀ m, ∀ j, j < 64 → sec (kept f A D (fun _ => true) m) k j = now f A D k m j
  | 0, _, _ => rfl
  | m + 1, j, hj => by
    have ih := kept_all f A D k m j hj
    unfold kept now
    rw [if_pos rfl, put_sec _ _ _ _ _ hj, last]
    by_cases e : A m = k
    · simp [e]
    · rw [if_neg (fun h => e h.symm), if_neg e, ih]
      rfl

theorem now_ext (f A : Nat → Nat) (D : Nat → Nat → Nat) (m a : Nat) (d : Nat → Nat) (k : Nat) : now f (ext A m a) (ext D m d) k (m + 1) = if a = k then d else now f A D k m := by
  unfold now
  rw [last_ext]
  by_cases e : a = k
  · simp [e, ext_new]
  · simp only [e, if_false]
    by_cases h : last A k m = 0
    · simp [h]
    · have := last_le A k m
      simp only [h, if_false]
      rw [ext_old D m d (by omega)]

theorem kept_congr {f f' A B : Nat → Nat} {D E : Nat → Nat → Nat} {c c' : Nat → Bool} (hf : ∀ k, f k = f' k) : ∀ m, (∀ i, i < m → A i = B i ∧ (∀ j, j < 64 → D i j = E i j) ∧ c i = c' i) → ∀ k, kept f A D c m k = kept f' B E c' m k
  | 0, _, k => hf k
  | m + 1, h, k => by
    have ih := kept_congr hf m (fun i hi => h i (Nat.lt_succ_of_lt hi))
    obtain ⟨h1, h2, h3⟩ := h m (Nat.lt_succ_self m)
    unfold kept
    rw [h3, h1]
    split
    · unfold put
      rw [ih k, h2 _ (Nat.mod_lt _ (by omega))]
    · exact ih k

end Go.Proofs.Ythfpljfndnjcnaa.Dk
