/-
  Rows of a Cauchy matrix beside the identity are independent: the theorem of the code's matrix, over numbers.
  Conditions: as many rows, each another one, as there are columns; all together below 256.
-/
import Derived.Test.YtmlaloadeeohbaaMxInvPlain
namespace Go.Proofs.Ytmlaloadeeohbaa
open Gf
set_option linter.unusedVariables false

def xsum : List Nat → (Nat → Nat) → Nat
  | [], _ => 0
  | j :: J, h => h j ^^^ xsum J h

theorem xsum_congr {J : List Nat} {h k : Nat → Nat} (e : ∀ j ∈ J, h j = k j) : xsum J h = xsum J k := by
  induction J with
  | nil => rfl
  | cons j J ih => unfold xsum; rw [e j (by simp), ih (fun i hi => e i (by simp [hi]))]

theorem xsum_lt {J : List Nat} {h : Nat → Nat} (e : ∀ j ∈ J, h j < 256) : xsum J h < 256 := by
  induction J with
  | nil => unfold xsum; omega
  | cons j J ih => unfold xsum; exact xor_lt _ _ (e j (by simp)) (ih (fun i hi => e i (by simp [hi])))

theorem xsum_add (J : List Nat) (h k : Nat → Nat) : xsum J (fun j => h j ^^^ k j) = xsum J h ^^^ xsum J k := by
  induction J with
  | nil => simp [xsum]
  | cons j J ih => simp only [xsum]; rw [ih, xor_exch]

theorem xsum_mul {J : List Nat} {h : Nat → Nat} (e : ∀ j ∈ J, h j < 256) {c : Nat} (hc : c < 256) : xsum J (fun j => tmul c (h j)) = tmul c (xsum J h) := by
  induction J with
  | nil => simp only [xsum]; rw [tmul_zero_right]
  | cons j J ih =>
    simp only [xsum]
    rw [ih (fun i hi => e i (by simp [hi])), tmul_xor _ _ _ hc (e j (by simp)) (xsum_lt (fun i hi => e i (by simp [hi])))]

theorem xsum_zero {J : List Nat} {h : Nat → Nat} (e : ∀ j ∈ J, h j = 0) : xsum J h = 0 := by
  induction J with
  | nil => rfl
  | cons j J ih => simp only [xsum]; rw [e j (by simp), ih (fun i hi => e i (by simp [hi]))]; rfl

theorem xsum_append (J K : List Nat) (h : Nat → Nat) : xsum (J ++ K) h = xsum J h ^^^ xsum K h := by
  induction J with
  | nil => simp [xsum]
  | cons j J ih => simp only [List.cons_append, xsum]; rw [ih, Nat.xor_assoc]

theorem xsum_filter (J : List Nat) (h : Nat → Nat) (p : Nat → Bool) (e : ∀ j ∈ J, p j = false → h j = 0) : xsum (J.filter p) h = xsum J h := by
  induction J with
  | nil => rfl
  | cons j J ih =>
    have ih := ih (fun i hi => e i (by simp [hi]))
    by_cases hp : p j = true
    · rw [List.filter_cons_of_pos hp]; simp only [xsum]; rw [ih]
    · have hp' : p j = false := by simpa using hp
      rw [List.filter_cons_of_neg (by simp [hp'])]; simp only [xsum]; rw [ih, e j (by simp) hp', Nat.zero_xor]

theorem dot_xsum (f v : Nat → Nat) : ∀ k, dot f v k = xsum (List.range k) (fun j => tmul (f j) (v j))
  | 0 => rfl
  | k + 1 => by
    rw [List.range_succ, xsum_append, ← dot_xsum f v k]
    simp [dot, xsum]

theorem tmul_zero_of {a b : Nat} (h : tmul a b = 0) : a = 0 ∨ b = 0 := by
  by_cases e : a = 0 ∨ b = 0
  · exact e
  · exact absurd h (tmul_ne a b e)

theorem xor_ne {a b : Nat} (h : a ≠ b) : a ^^^ b ≠ 0 := fun e => h (by
  have : a ^^^ b ^^^ b = 0 ^^^ b := by rw [e]
  rwa [Nat.xor_assoc, Nat.xor_self, Nat.xor_zero, Nat.zero_xor] at this)

theorem key1 {p q : Nat} (hp : p < 256) (hq : q < 256) (p0 : p ≠ 0) (q0 : q ≠ 0) : tmul (p ^^^ q) (tmul (tinv p) (tinv q)) = tinv q ^^^ tinv p := by
  have hpi := tinv_lt p
  have hqi := tinv_lt q
  rw [tmul_xor' p q _ hp hq (tmul_lt _ _ hpi hqi), ← tmul_assoc, tmul_tinv p hp p0, one_tmul _ hqi, tmul_comm (tinv p), ← tmul_assoc, tmul_tinv q hq q0, one_tmul _ hpi]

theorem key2 {q r : Nat} (hq : q < 256) (hr : r < 256) (q0 : q ≠ 0) : tmul (r ^^^ q) (tinv q) = tmul r (tinv q) ^^^ 1 := by
  rw [tmul_xor' r q _ hr hq (tinv_lt q), tmul_tinv q hq q0]

theorem xor_tri (a b c : Nat) : (a ^^^ c) ^^^ (b ^^^ c) = a ^^^ b := by
  rw [Nat.xor_comm b c, ← Nat.xor_assoc, Nat.xor_assoc a c c, Nat.xor_self, Nat.xor_zero]

theorem cauchy_zero (y : Nat → Nat) : ∀ (J xs : List Nat) (v : Nat → Nat), J.Nodup → xs.Nodup → J.length ≤ xs.length → (∀ j ∈ J, y j < 256) → (∀ x ∈ xs, x < 256) → (∀ i ∈ J, ∀ j ∈ J, y i = y j → i = j) → (∀ x ∈ xs, ∀ j ∈ J, x ≠ y j) →
    (∀ j ∈ J, v j < 256) → (∀ x ∈ xs, xsum J (fun j => tmul (v j) (tinv (x ^^^ y j))) = 0) → ∀ j ∈ J, v j = 0
  | [], _, _, _, _, _, _, _, _, _, _, _ => fun j hj => by cases hj
  | t :: J, [], v, _, _, hl, _, _, _, _, _, _ => by simp at hl
  | t :: J, x1 :: xs, v, hJ, hX, hl, hy, hx, hinj, hne, hv, hs => by
    have hJ' := List.nodup_cons.1 hJ
    have hX' := List.nodup_cons.1 hX
    have hx1 := hx x1 (by simp)
    have hsub : ∀ j, j ∈ J → j ∈ t :: J := fun j hj => by simp [hj]
    have hp : ∀ j ∈ t :: J, x1 ^^^ y j < 256 ∧ x1 ^^^ y j ≠ 0 := fun j hj => ⟨xor_lt _ _ hx1 (hy j hj), xor_ne (hne x1 (by simp) j hj)⟩
    let u : Nat → Nat := fun j => tmul (v j) (tinv (x1 ^^^ y j))
    have hu : ∀ j ∈ t :: J, u j < 256 := fun j hj => tmul_lt _ _ (hv j hj) (tinv_lt _)
    have hS : xsum (t :: J) u = 0 := hs x1 (by simp)
    have hT : ∀ x ∈ xs, xsum (t :: J) (fun j => tmul (u j) (tinv (x ^^^ y j))) = 0 := fun x hxs => by
      have hx2 := hx x (by simp [hxs])
      have hd : x1 ^^^ x ≠ 0 := xor_ne (fun e => hX'.1 (by rw [e]; exact hxs))
      have hq : ∀ j ∈ t :: J, x ^^^ y j < 256 ∧ x ^^^ y j ≠ 0 := fun j hj => ⟨xor_lt _ _ hx2 (hy j hj), xor_ne (hne x (by simp [hxs]) j hj)⟩
      have h1 : tmul (x1 ^^^ x) (xsum (t :: J) (fun j => tmul (u j) (tinv (x ^^^ y j)))) = 0 := by
        rw [← xsum_mul (fun j hj => tmul_lt _ _ (hu j hj) (tinv_lt _)) (xor_lt _ _ hx1 hx2)]
        rw [xsum_congr (k := fun j => tmul (v j) (tinv (x ^^^ y j)) ^^^ tmul (v j) (tinv (x1 ^^^ y j))) (fun j hj => by
          show tmul (x1 ^^^ x) (tmul (tmul (v j) (tinv (x1 ^^^ y j))) (tinv (x ^^^ y j))) = _
          rw [tmul_assoc (v j), ← tmul_assoc (x1 ^^^ x), tmul_comm (x1 ^^^ x) (v j), tmul_assoc (v j), ← xor_tri x1 x (y j), key1 (hp j hj).1 (hq j hj).1 (hp j hj).2 (hq j hj).2, tmul_xor _ _ _ (hv j hj) (tinv_lt _) (tinv_lt _)])]
        rw [xsum_add, hs x (by simp [hxs]), hs x1 (by simp)]; rfl
      exact (tmul_zero_of h1).resolve_left hd
    have ih := cauchy_zero y J xs (fun j => tmul (u j) (y t ^^^ y j)) hJ'.2 hX'.2 (by simpa using hl) (fun j hj => hy j (hsub j hj)) (fun x hxs => hx x (by simp [hxs])) (fun i hi j hj => hinj i (hsub i hi) j (hsub j hj)) (fun x hxs j hj => hne x (by simp [hxs]) j (hsub j hj))
      (fun j hj => tmul_lt _ _ (hu j (hsub j hj)) (xor_lt _ _ (hy t (by simp)) (hy j (hsub j hj)))) (fun x hxs => by
        have hx2 := hx x (by simp [hxs])
        have hq : ∀ j ∈ t :: J, x ^^^ y j < 256 ∧ x ^^^ y j ≠ 0 := fun j hj => ⟨xor_lt _ _ hx2 (hy j hj), xor_ne (hne x (by simp [hxs]) j hj)⟩
        have h1 : xsum (t :: J) (fun j => tmul (tmul (u j) (y t ^^^ y j)) (tinv (x ^^^ y j))) = 0 := by
          rw [xsum_congr (k := fun j => tmul (x ^^^ y t) (tmul (u j) (tinv (x ^^^ y j))) ^^^ u j) (fun j hj => by
            have e : y t ^^^ y j = (x ^^^ y t) ^^^ (x ^^^ y j) := by rw [Nat.xor_comm x (y t), Nat.xor_comm x (y j), xor_tri]
            rw [e, tmul_assoc, key2 (hq j hj).1 (hq t (by simp)).1 (hq j hj).2, tmul_xor _ _ _ (hu j hj) (tmul_lt _ _ (hq t (by simp)).1 (tinv_lt _)) (by omega), tmul_one _ (hu j hj), ← tmul_assoc (u j), tmul_comm (u j) (x ^^^ y t), tmul_assoc])]
          rw [xsum_add, xsum_mul (fun j hj => tmul_lt _ _ (hu j hj) (tinv_lt _)) (hq t (by simp)).1, hT x hxs, hS, tmul_zero_right]; rfl
        simp only [xsum] at h1
        rw [Nat.xor_self, tmul_zero_right, tmul_zero_left, Nat.zero_xor] at h1
        exact h1)
    have hvJ : ∀ j ∈ J, v j = 0 := fun j hj => by
      have h1 : u j = 0 := (tmul_zero_of (ih j hj)).resolve_right (xor_ne (fun e => hJ'.1 (by rw [hinj t (by simp) j (hsub j hj) e]; exact hj)))
      exact (tmul_zero_of h1).resolve_right (tinv_ne _ (hp j (hsub j hj)).2)
    have hvt : v t = 0 := by
      have h1 := hS
      simp only [xsum] at h1
      rw [xsum_zero (J := J) (fun j hj => by show tmul (v j) _ = 0; rw [hvJ j hj, tmul_zero_left]), Nat.xor_zero] at h1
      exact (tmul_zero_of h1).resolve_right (tinv_ne _ (hp t (by simp)).2)
    intro j hj
    rcases List.mem_cons.1 hj with e | e
    · rw [e]; exact hvt
    · exact hvJ j e

theorem nodup_below : ∀ (k : Nat) (l : List Nat), l.Nodup → (∀ x ∈ l, x < k) → l.length ≤ k
  | 0, l, _, h => by
    cases l with
    | nil => exact Nat.le_refl _
    | cons a l => exact absurd (h a (by simp)) (Nat.not_lt_zero _)
  | k + 1, l, hn, h => by
    by_cases hk : k ∈ l
    · have h1 := nodup_below k (l.erase k) (hn.erase k) (fun x hx => by
        have h2 := (hn.mem_erase_iff).1 hx
        have := h x h2.2
        have := h2.1
        omega)
      have h2 := List.length_erase_of_mem hk
      have := List.length_pos_of_mem hk
      omega
    · have := nodup_below k l hn (fun x hx => by
        have := h x hx
        have : x ≠ k := fun e => hk (by rw [← e]; exact hx)
        omega)
      omega

theorem filter_parts (p : Nat → Bool) (l : List Nat) : (l.filter p).length + (l.filter (fun x => !p x)).length = l.length := by
  induction l with
  | nil => rfl
  | cons a l ih =>
    by_cases h : p a = true
    · rw [List.filter_cons_of_pos h, List.filter_cons_of_neg (by simp [h])]; simp only [List.length_cons]; omega
    · have h' : p a = false := by simpa using h
      rw [List.filter_cons_of_neg (by simp [h']), List.filter_cons_of_pos (by simp [h'])]; simp only [List.length_cons]; omega

def cauchyF (k m : Nat) : Nat → Nat → Nat := fun s j => if s < k then delta s j else tinv ((s - k) ^^^ (m + j))

theorem cauchyF_lt (k m s j : Nat) : cauchyF k m s j < 256 := by
  unfold cauchyF
  split
  · unfold delta; split <;> omega
  · exact tinv_lt _

theorem cauchy_free (k m : Nat) (g v : Nat → Nat) (hkm : k + m ≤ 255) (hg : ∀ r, r < k → g r < k + m) (hinj : ∀ r s, r < k → s < k → g r = g s → r = s) (hv : ∀ i, v i < 256)
    (h : ∀ r, r < k → dot (cauchyF k m (g r)) v k = 0) : ∀ j, j < k → v j = 0 := by
  have hid : ∀ r, r < k → g r < k → v (g r) = 0 := fun r hr hlt => by
    have := h r hr
    rw [show cauchyF k m (g r) = fun l => delta (g r) l by funext l; simp [cauchyF, hlt], dot_delta_row v hv (g r) k hlt] at this
    exact this
  have hJn : ((List.range k).filter (fun j => decide (v j ≠ 0))).Nodup := List.Pairwise.filter _ List.nodup_range
  have hmap : ∀ (q : Nat → Bool) (F : Nat → Nat), (∀ r s, r < k → s < k → q r = true → q s = true → F r = F s → r = s) → (((List.range k).filter q).map F).Nodup := fun q F hF => by
    unfold List.Nodup
    rw [List.pairwise_map]
    have hn : ((List.range k).filter q).Nodup := List.Pairwise.filter _ List.nodup_range
    refine List.Pairwise.imp_of_mem ?_ hn
    intro a b ha hb hne e
    have ha' := List.mem_filter.1 ha
    have hb' := List.mem_filter.1 hb
    exact hne (hF a b (List.mem_range.1 ha'.1) (List.mem_range.1 hb'.1) ha'.2 hb'.2 e)
  have hlen : ((List.range k).filter (fun j => decide (v j ≠ 0))).length ≤ (((List.range k).filter (fun r => !decide (g r < k))).map (fun r => g r - k)).length := by
    have h1 := nodup_below k (((List.range k).filter (fun j => decide (v j ≠ 0))) ++ (((List.range k).filter (fun r => decide (g r < k))).map g)) (by
      refine List.nodup_append.2 ⟨hJn, hmap _ g (fun r s hr hs _ _ e => hinj r s hr hs e), fun a ha b hb e => ?_⟩
      obtain ⟨r, hr, rfl⟩ := List.mem_map.1 hb
      have hr' := List.mem_filter.1 hr
      have ha' := (List.mem_filter.1 ha).2
      rw [e] at ha'
      exact absurd (hid r (List.mem_range.1 hr'.1) (by simpa using hr'.2)) (by simpa using ha'))
      (fun x hx => by
        rcases List.mem_append.1 hx with h | h
        · exact List.mem_range.1 (List.mem_filter.1 h).1
        · obtain ⟨r, hr, rfl⟩ := List.mem_map.1 h
          simpa using (List.mem_filter.1 hr).2)
    have h2 := filter_parts (fun r => decide (g r < k)) (List.range k)
    rw [List.length_append, List.length_map] at h1
    rw [List.length_map]
    simp only [List.length_range] at h2
    omega
  have hz := cauchy_zero (fun j => m + j) _ _ v hJn (hmap (fun r => !decide (g r < k)) (fun r => g r - k) (fun r s hr hs q1 q2 e => hinj r s hr hs (by
      have : ¬ g r < k := by simpa using q1
      have : ¬ g s < k := by simpa using q2
      omega))) hlen
    (fun j hj => by have := List.mem_range.1 (List.mem_filter.1 hj).1; omega)
    (fun x hx => by
      obtain ⟨r, hr, rfl⟩ := List.mem_map.1 hx
      have := hg r (List.mem_range.1 (List.mem_filter.1 hr).1)
      omega)
    (fun i _ j _ e => by omega)
    (fun x hx j hj => by
      obtain ⟨r, hr, rfl⟩ := List.mem_map.1 hx
      have h1 := hg r (List.mem_range.1 (List.mem_filter.1 hr).1)
      have h2 : ¬ g r < k := by simpa using (List.mem_filter.1 hr).2
      omega)
    (fun j _ => hv j)
    (fun x hx => by
      obtain ⟨r, hr, rfl⟩ := List.mem_map.1 hx
      have hrk := List.mem_range.1 (List.mem_filter.1 hr).1
      have h2 : ¬ g r < k := by simpa using (List.mem_filter.1 hr).2
      have h3 := h r hrk
      rw [dot_xsum] at h3
      rw [xsum_filter _ _ _ (fun j _ hp => by
        have : v j = 0 := by simpa using hp
        rw [this, tmul_zero_left])]
      rw [← h3]
      refine xsum_congr (fun j hj => ?_)
      rw [tmul_comm]
      simp [cauchyF, h2])
  intro j hj
  by_cases e : v j = 0
  · exact e
  · exact hz j (List.mem_filter.2 ⟨List.mem_range.2 hj, by simpa using e⟩)

theorem cauchy_turns (k m : Nat) (g : Nat → Nat) (hkm : k + m ≤ 255) (hg : ∀ r, r < k → g r < k + m) (hinj : ∀ r s, r < k → s < k → g r = g s → r = s) :
    (red k (aug (fun r => cauchyF k m (g r)) k) k).1 = k := by
  have hle := red_le k (aug (fun r => cauchyF k m (g r)) k) k
  by_cases h : (red k (aug (fun r => cauchyF k m (g r)) k) k).1 < k
  · obtain ⟨v, hv, ⟨j, hj, hj0⟩, hz⟩ := inv_fails (f := fun r => cauchyF k m (g r)) (fun r j => cauchyF_lt k m (g r) j) h
    exact absurd (cauchy_free k m g v hkm hg hinj hv hz j hj) hj0
  · omega

end Go.Proofs.Ytmlaloadeeohbaa
