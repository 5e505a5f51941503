/-
  5 texts of this proof, one behind the other: StPlain, StStr, DkPlain, DkMem, StMem.
-/
import Derived.Test.YtbbjklenpgkooaaJ02
import Derived.Test.YtbbjklenpgkooaaRows
import Derived.WalkKit
import Derived.Lib.Bytealg
import Derived.Test.YtbbjklenpgkooaaJ01
import Derived.Laws.CopyOwn
import Derived.ArgAppend
import Derived.Lib.ConvBytes
import Derived.Deep.QuietTactic
import Derived.BigQuiet
/-
  A batch of acts as bytes, and what a reader finds in bytes: plain lists.
  Conditions: none. Nothing here names the program.
-/
namespace Go.Proofs.Ytbbjklenpgkooaa.St
open Wi Go.Proofs.Ytbbjklenpgkooaa

structure PA where
  key : List Nat
  set : Bool
  data : List Nat

def encA (a : PA) : List Nat := uv a.key.length ++ a.key ++ (if a.set = true then 1 :: (uv a.data.length ++ a.data) else [0])

def encL (l : List PA) : List Nat := l.flatMap encA

def enc (l : List PA) : List Nat := uv l.length ++ encL l

theorem encL_snoc (l : List PA) (a : PA) : encL (l ++ [a]) = encL l ++ encA a := by simp [encL]

def okA (a : PA) : Prop := (1 ≤ a.key.length ∧ a.key.length ≤ 64) ∧ a.data.length ≤ (if a.set = true then 4096 else 0)

def okL (l : List PA) : Prop := ∀ a ∈ l, okA a

def rAct (l : List Nat) (e : Nat) : PA × List Nat × Nat :=
  if (rNum 1 (rBy 64 l e).2.1 (rBy 64 l e).2.2).1 = 1 then
    (⟨(rBy 64 l e).1, true, (rBy 4096 (rNum 1 (rBy 64 l e).2.1 (rBy 64 l e).2.2).2.1 (rNum 1 (rBy 64 l e).2.1 (rBy 64 l e).2.2).2.2).1⟩,
      (rBy 4096 (rNum 1 (rBy 64 l e).2.1 (rBy 64 l e).2.2).2.1 (rNum 1 (rBy 64 l e).2.1 (rBy 64 l e).2.2).2.2).2.1,
      (rBy 4096 (rNum 1 (rBy 64 l e).2.1 (rBy 64 l e).2.2).2.1 (rNum 1 (rBy 64 l e).2.1 (rBy 64 l e).2.2).2.2).2.2)
  else (⟨(rBy 64 l e).1, false, []⟩, (rNum 1 (rBy 64 l e).2.1 (rBy 64 l e).2.2).2.1, (rNum 1 (rBy 64 l e).2.1 (rBy 64 l e).2.2).2.2)

def rActs : Nat → List Nat → Nat → List PA × List Nat × Nat
  | 0, l, e => ([], l, e)
  | n + 1, l, e => ((rActs n l e).1 ++ [(rAct (rActs n l e).2.1 (rActs n l e).2.2).1], (rAct (rActs n l e).2.1 (rActs n l e).2.2).2.1, (rAct (rActs n l e).2.1 (rActs n l e).2.2).2.2)

theorem rActs_len (l : List Nat) (e : Nat) : ∀ n, (rActs n l e).1.length = n
  | 0 => rfl
  | n + 1 => by simp [rActs, rActs_len l e n]

/- What is read without a fault stands there in its one form. -/
theorem rUv_form {l : List Nat} {e : Nat} (hl : ∀ v ∈ l, v < 256) (h : (rUv l e).2.2 = 0) : e = 0 ∧ l = uv (rUv l e).1 ++ (rUv l e).2.1 := by
  by_cases he : e = 0
  · subst he
    refine ⟨rfl, ?_⟩
    cases h2 : lead l with
    | none => rw [rUv_no h2] at h; cases h
    | some q =>
      obtain ⟨n, k⟩ := q
      rw [rUv_yes h2]
      have := lead_canon hl h2
      show l = uv n ++ l.drop k
      rw [← this.1, List.take_append_drop]
  · rw [rUv_bad he] at h
    exact absurd h he

theorem rNum_form {t : Int} {l : List Nat} {e : Nat} (hl : ∀ v ∈ l, v < 256) (h : (rNum t l e).2.2 = 0) : e = 0 ∧ l = uv (rNum t l e).1 ++ (rNum t l e).2.1 ∧ ((rNum t l e).1 : Int) ≤ t := by
  by_cases he : e = 0
  · subst he
    by_cases h2 : (rUv l 0).2.2 = 0
    · by_cases ht : t < 0 ∨ t < ((rUv l 0).1 : Int)
      · rw [rNum_long h2 ht] at h; cases h
      · rw [rNum_yes h2 ht]
        exact ⟨rfl, (rUv_form hl h2).2, by omega⟩
    · rw [rNum_no h2] at h
      exact absurd h h2
  · rw [rNum_bad he] at h
    exact absurd h he

theorem rNum_most (t : Int) (l : List Nat) (e : Nat) (ht : 0 ≤ t) : ((rNum t l e).1 : Int) ≤ t := by
  by_cases he : e = 0
  · subst he
    by_cases h2 : (rUv l 0).2.2 = 0
    · by_cases h3 : t < 0 ∨ t < ((rUv l 0).1 : Int)
      · rw [rNum_long h2 h3]; exact ht
      · rw [rNum_yes h2 h3]; omega
    · rw [rNum_no h2]; exact ht
  · rw [rNum_bad he]; exact ht

theorem rBy_form {t : Int} {l : List Nat} {e : Nat} (hl : ∀ v ∈ l, v < 256) (h : (rBy t l e).2.2 = 0) : e = 0 ∧ l = uv (rBy t l e).1.length ++ (rBy t l e).1 ++ (rBy t l e).2.1 := by
  by_cases he : e = 0
  · subst he
    by_cases h2 : (rNum t l 0).2.2 = 0
    · obtain ⟨_, q1, q2⟩ := rNum_form hl h2
      by_cases h3 : (rNum t l 0).2.1.length < (rNum t l 0).1
      · rw [rBy_few h2 h3] at h; cases h
      · rw [rBy_yes h2 (by omega)]
        refine ⟨rfl, ?_⟩
        show l = uv ((rNum t l 0).2.1.take (rNum t l 0).1).length ++ (rNum t l 0).2.1.take (rNum t l 0).1 ++ (rNum t l 0).2.1.drop (rNum t l 0).1
        rw [List.length_take, Nat.min_eq_left (by omega), List.append_assoc, List.take_append_drop]
        exact q1
    · rw [rBy_no h2] at h
      exact absurd h h2
  · rw [rBy_bad he] at h
    exact absurd h he

theorem rBy_most (t : Int) (l : List Nat) (e : Nat) (ht : 0 ≤ t) : ((rBy t l e).1.length : Int) ≤ t := by
  by_cases he : e = 0
  · subst he
    by_cases h2 : (rNum t l 0).2.2 = 0
    · by_cases h3 : (rNum t l 0).2.1.length < (rNum t l 0).1
      · rw [rBy_few h2 h3]; exact ht
      · rw [rBy_yes h2 (by omega)]
        have := rNum_most t l 0 ht
        show ((((rNum t l 0).2.1.take (rNum t l 0).1).length : Nat) : Int) ≤ t
        rw [List.length_take]
        omega
    · rw [rBy_no h2]; exact ht
  · rw [rBy_bad he]; exact ht

theorem rBy_lt (t : Int) (l : List Nat) (e : Nat) (hl : ∀ v ∈ l, v < 256) : ∀ v ∈ (rBy t l e).1, v < 256 := by
  have hn : ∀ u ∈ (rNum t l e).2.1, u < 256 := by
    intro u hu
    have hd : ∃ k, (rNum t l e).2.1 = l.drop k := by
      by_cases he : e = 0
      · subst he
        by_cases h2 : (rUv l 0).2.2 = 0
        · by_cases h3 : t < 0 ∨ t < ((rUv l 0).1 : Int)
          · rw [rNum_long h2 h3]; exact ⟨0, rfl⟩
          · rw [rNum_yes h2 h3]; exact rUv_drop l 0
        · rw [rNum_no h2]; exact rUv_drop l 0
      · rw [rNum_bad he]; exact ⟨0, rfl⟩
    obtain ⟨k, hk⟩ := hd
    rw [hk] at hu
    exact hl u (List.mem_of_mem_drop hu)
  intro v hv
  by_cases he : e = 0
  · subst he
    by_cases h2 : (rNum t l 0).2.2 = 0
    · by_cases h3 : (rNum t l 0).2.1.length < (rNum t l 0).1
      · rw [rBy_few h2 h3] at hv; cases hv
      · rw [rBy_yes h2 (by omega)] at hv
        exact hn v (List.mem_of_mem_take hv)
    · rw [rBy_no h2] at hv; cases hv
  · rw [rBy_bad he] at hv; cases hv

theorem rAct_form {l : List Nat} {e : Nat} (hl : ∀ v ∈ l, v < 256) (h : (rAct l e).2.2 = 0) : e = 0 ∧ l = encA (rAct l e).1 ++ (rAct l e).2.1 := by
  unfold rAct at h ⊢
  generalize hk : rBy 64 l e = K at h ⊢
  obtain ⟨k, l1, e1⟩ := K
  dsimp only at h ⊢
  generalize hm : rNum 1 l1 e1 = M at h ⊢
  obtain ⟨m, l2, e2⟩ := M
  dsimp only at h ⊢
  have fk := fun h0 => rBy_form (t := 64) (l := l) (e := e) hl h0
  rw [hk] at fk
  dsimp only at fk
  by_cases h1 : m = 1
  · rw [if_pos h1] at h ⊢
    generalize hd : rBy 4096 l2 e2 = Dd at h ⊢
    obtain ⟨d, l3, e3⟩ := Dd
    dsimp only at h ⊢
    subst h
    have hz : e1 = 0 ∨ e1 ≠ 0 := by omega
    have e2z : e2 = 0 := by
      rcases Nat.eq_zero_or_pos e2 with h0 | h0
      · exact h0
      · rw [rBy_bad (by omega)] at hd
        injection hd with _ hd
        injection hd with _ hd
    subst e2z
    have e1z : e1 = 0 := by
      rcases hz with h0 | h0
      · exact h0
      · rw [rNum_bad h0] at hm
        injection hm with _ hm
        injection hm with _ hm
    subst e1z
    obtain ⟨e0, q1⟩ := fk rfl
    have hl1 : ∀ v ∈ l1, v < 256 := fun v hv => hl v (by rw [q1]; exact List.mem_append_right _ hv)
    have fm := rNum_form (t := 1) (l := l1) (e := 0) hl1 (by rw [hm])
    rw [hm] at fm
    obtain ⟨_, q2, _⟩ := fm
    dsimp only at q2
    have hl2 : ∀ v ∈ l2, v < 256 := fun v hv => hl1 v (by rw [q2]; exact List.mem_append_right _ hv)
    have fd := rBy_form (t := 4096) (l := l2) (e := 0) hl2 (by rw [hd])
    rw [hd] at fd
    obtain ⟨_, q3⟩ := fd
    dsimp only at q3
    refine ⟨e0, ?_⟩
    unfold encA
    dsimp only
    rw [if_pos rfl]
    conv => lhs; rw [q1, q2, q3, h1, uv_small (show 1 < 128 by omega)]
    simp
  · rw [if_neg h1] at h ⊢
    dsimp only at h ⊢
    subst h
    have e1z : e1 = 0 := by
      rcases Nat.eq_zero_or_pos e1 with h0 | h0
      · exact h0
      · rw [rNum_bad (by omega)] at hm
        injection hm with _ hm
        injection hm with _ hm
    subst e1z
    obtain ⟨e0, q1⟩ := fk rfl
    have hl1 : ∀ v ∈ l1, v < 256 := fun v hv => hl v (by rw [q1]; exact List.mem_append_right _ hv)
    have fm := rNum_form (t := 1) (l := l1) (e := 0) hl1 (by rw [hm])
    rw [hm] at fm
    obtain ⟨_, q2, q3⟩ := fm
    dsimp only at q2 q3
    have hm0 : m = 0 := by omega
    refine ⟨e0, ?_⟩
    unfold encA
    dsimp only
    rw [if_neg (by simp)]
    conv => lhs; rw [q1, q2, hm0, uv_small (show 0 < 128 by omega)]
    simp

theorem rActs_form {l : List Nat} {e : Nat} (hl : ∀ v ∈ l, v < 256) : ∀ n, (rActs n l e).2.2 = 0 → e = 0 ∧ l = encL (rActs n l e).1 ++ (rActs n l e).2.1
  | 0, h => ⟨h, by simp [rActs, encL]⟩
  | n + 1, h => by
    have hq : ∀ v ∈ (rActs n l e).2.1, v < 256 := by
      clear h
      induction n with
      | zero => exact hl
      | succ n ih =>
        intro v hv
        simp only [rActs] at hv
        refine ih v ?_
        clear ih
        have hd : ∀ (t : Int) (q : List Nat) (u : Nat), ∃ k, (rNum t q u).2.1 = q.drop k := fun t q u => by
          by_cases he : u = 0
          · subst he
            by_cases h2 : (rUv q 0).2.2 = 0
            · by_cases h3 : t < 0 ∨ t < ((rUv q 0).1 : Int)
              · rw [rNum_long h2 h3]; exact ⟨0, rfl⟩
              · rw [rNum_yes h2 h3]; exact rUv_drop q 0
            · rw [rNum_no h2]; exact rUv_drop q 0
          · rw [rNum_bad he]; exact ⟨0, rfl⟩
        have hb : ∀ (t : Int) (q : List Nat) (u : Nat), ∃ k, (rBy t q u).2.1 = q.drop k := fun t q u => by
          by_cases he : u = 0
          · subst he
            by_cases h2 : (rNum t q 0).2.2 = 0
            · by_cases h3 : (rNum t q 0).2.1.length < (rNum t q 0).1
              · rw [rBy_few h2 h3]; exact ⟨0, rfl⟩
              · rw [rBy_yes h2 (by omega)]
                obtain ⟨k, hk⟩ := hd t q 0
                exact ⟨k + (rNum t q 0).1, by show (rNum t q 0).2.1.drop _ = _; rw [hk, List.drop_drop]⟩
            · rw [rBy_no h2]; exact hd t q 0
          · rw [rBy_bad he]; exact ⟨0, rfl⟩
        have ha : ∀ (q : List Nat) (u : Nat), ∃ k, (rAct q u).2.1 = q.drop k := fun q u => by
          unfold rAct
          obtain ⟨k1, h1⟩ := hb 64 q u
          obtain ⟨k2, h2⟩ := hd 1 (rBy 64 q u).2.1 (rBy 64 q u).2.2
          obtain ⟨k3, h3⟩ := hb 4096 (rNum 1 (rBy 64 q u).2.1 (rBy 64 q u).2.2).2.1 (rNum 1 (rBy 64 q u).2.1 (rBy 64 q u).2.2).2.2
          split
          · exact ⟨k1 + (k2 + k3), by show (rBy 4096 _ _).2.1 = _; rw [h3, h2, h1, List.drop_drop, List.drop_drop]⟩
          · exact ⟨k1 + k2, by show (rNum 1 _ _).2.1 = _; rw [h2, h1, List.drop_drop]⟩
        obtain ⟨k, hk⟩ := ha (rActs n l e).2.1 (rActs n l e).2.2
        rw [hk] at hv
        exact List.mem_of_mem_drop hv
    obtain ⟨h1, h2⟩ := rAct_form hq (by simpa [rActs] using h)
    obtain ⟨h3, h4⟩ := rActs_form hl n h1
    refine ⟨h3, ?_⟩
    simp only [rActs]
    rw [encL_snoc, List.append_assoc, ← h2]
    exact h4

/- What was written is read back. -/
theorem rUv_again {N : Nat} (hN : N < 18446744073709551616) (r : List Nat) : rUv (uv N ++ r) 0 = (N, r, 0) := by
  rw [rUv_yes (lead_uv hN r), List.drop_left]

theorem rNum_again {t : Int} {N : Nat} (hN : N < 18446744073709551616) (ht : (N : Int) ≤ t) (r : List Nat) : rNum t (uv N ++ r) 0 = (N, r, 0) := by
  have e := rUv_again hN r
  rw [rNum_yes (by rw [e]) (by rw [e]; omega), e]

theorem rBy_again {t : Int} (k r : List Nat) (hk : k.length < 18446744073709551616) (ht : (k.length : Int) ≤ t) : rBy t (uv k.length ++ k ++ r) 0 = (k, r, 0) := by
  have e2 : rNum t (uv k.length ++ k ++ r) 0 = (k.length, k ++ r, 0) := by rw [List.append_assoc]; exact rNum_again hk ht _
  rw [rBy_yes (by rw [e2]) (by rw [e2]; simp), e2]
  simp

theorem rAct_again (a : PA) (r : List Nat) (h : okA a) : rAct (encA a ++ r) 0 = (a, r, 0) := by
  obtain ⟨⟨h1, h2⟩, h3⟩ := h
  obtain ⟨k, s, d⟩ := a
  dsimp only at h1 h2 h3
  unfold rAct encA
  dsimp only
  cases s with
  | true =>
    rw [if_pos rfl] at h3 ⊢
    have e1 : rBy 64 (uv k.length ++ k ++ 1 :: (uv d.length ++ d) ++ r) 0 = (k, 1 :: (uv d.length ++ d) ++ r, 0) := by
      rw [List.append_assoc (uv k.length ++ k)]
      exact rBy_again k _ (by omega) (by omega)
    have e2 : rNum 1 (1 :: (uv d.length ++ d) ++ r) 0 = (1, uv d.length ++ d ++ r, 0) := by
      have := rNum_again (t := 1) (N := 1) (by omega) (by omega) (uv d.length ++ d ++ r)
      rw [uv_small (show 1 < 128 by omega)] at this
      exact this
    have e3 : rBy 4096 (uv d.length ++ d ++ r) 0 = (d, r, 0) := rBy_again d _ (by omega) (by omega)
    rw [e1]
    dsimp only
    rw [e2]
    dsimp only
    rw [e3]
    simp
  | false =>
    rw [if_neg (show ¬ (false = true) by simp)] at h3 ⊢
    have e1 : rBy 64 (uv k.length ++ k ++ [0] ++ r) 0 = (k, [0] ++ r, 0) := by
      rw [List.append_assoc (uv k.length ++ k)]
      exact rBy_again k _ (by omega) (by omega)
    have e2 : rNum 1 ([0] ++ r) 0 = (0, r, 0) := by
      have := rNum_again (t := 1) (N := 0) (by omega) (by omega) r
      rw [uv_small (show 0 < 128 by omega)] at this
      exact this
    have hd : d = [] := List.eq_nil_of_length_eq_zero (by omega)
    rw [e1]
    dsimp only
    rw [e2, hd]
    simp

theorem rActs_again : ∀ n (l : List PA), l.length = n → okL l → ∀ r, rActs n (encL l ++ r) 0 = (l, r, 0)
  | 0, l, h, _, r => by
    obtain rfl := List.eq_nil_of_length_eq_zero h
    simp [rActs, encL]
  | n + 1, l, h, ho, r => by
    rcases List.eq_nil_or_concat l with e | ⟨L, b, e⟩
    · subst e; cases h
    · rw [List.concat_eq_append] at e
      subst e
      have hL : L.length = n := by simpa using h
      have := rActs_again n L hL (fun a ha => ho a (List.mem_append_left _ ha)) (encA b ++ r)
      simp only [rActs]
      rw [encL_snoc, List.append_assoc, this]
      dsimp only
      rw [rAct_again b r (ho b (by simp))]

/- The batch of bytes. -/
def rd (b : List Nat) : List PA × List Nat × Nat := rActs (rNum 256 b 0).1 (rNum 256 b 0).2.1 (rNum 256 b 0).2.2

theorem rd_len (b : List Nat) : (rd b).1.length ≤ 256 := by
  unfold rd
  rw [rActs_len]
  have := rNum_most 256 b 0 (by omega)
  omega

theorem rd_iff (b : List Nat) (hb : ∀ v ∈ b, v < 256) (ho : okL (rd b).1) : rDone (rd b).2.1 (rd b).2.2 = 0 ↔ enc (rd b).1 = b := by
  constructor
  · intro h
    have he : (rd b).2.2 = 0 ∧ (rd b).2.1 = [] := by
      unfold rDone at h
      by_cases h1 : (rd b).2.2 = 0
      · rw [if_neg (by omega)] at h
        by_cases h2 : 0 < (rd b).2.1.length
        · rw [if_pos h2] at h; cases h
        · exact ⟨h1, List.eq_nil_of_length_eq_zero (by omega)⟩
      · rw [if_pos h1] at h
        exact absurd h h1
    unfold rd at he ⊢
    have hq : ∀ v ∈ (rNum 256 b 0).2.1, v < 256 := by
      intro v hv
      by_cases h2 : (rNum 256 b 0).2.2 = 0
      · have := (rNum_form hb h2).2.1
        exact hb v (by rw [this]; exact List.mem_append_right _ hv)
      · by_cases h3 : (rUv b 0).2.2 = 0
        · by_cases h4 : (256 : Int) < 0 ∨ (256 : Int) < ((rUv b 0).1 : Int)
          · rw [rNum_long h3 h4] at hv; exact hb v hv
          · rw [rNum_yes h3 h4] at h2; exact absurd h3 h2
        · rw [rNum_no h3] at hv
          obtain ⟨k, hk⟩ := rUv_drop b 0
          rw [hk] at hv
          exact hb v (List.mem_of_mem_drop hv)
    obtain ⟨h1, h2⟩ := rActs_form hq _ he.1
    rw [he.2, List.append_nil] at h2
    have h3 := (rNum_form hb h1).2.1
    unfold enc
    rw [rActs_len, ← h2]
    exact h3.symm
  · intro h
    have hlen := rd_len b
    have h1 : rNum 256 b 0 = ((rd b).1.length, encL (rd b).1, 0) := by
      have := rNum_again (t := 256) (N := (rd b).1.length) (by omega) (by omega) (encL (rd b).1)
      have e : uv (rd b).1.length ++ encL (rd b).1 = b := h
      rwa [e] at this
    have h2 : rd b = ((rd b).1, [], 0) := by
      have := rActs_again _ (rd b).1 rfl ho []
      rw [List.append_nil] at this
      conv => lhs; unfold rd; rw [h1]
      exact this
    rw [h2]
    rfl

theorem rd_enc (l : List PA) (hl : l.length ≤ 256) (ho : okL l) : rd (enc l) = (l, [], 0) := by
  have h1 : rNum 256 (enc l) 0 = (l.length, encL l, 0) := rNum_again (t := 256) (by omega) (by omega) _
  unfold rd
  rw [h1]
  have := rActs_again _ l rfl ho []
  rw [List.append_nil] at this
  exact this

theorem encA_lt {a : PA} (hk : ∀ v ∈ a.key, v < 256) (hd : ∀ v ∈ a.data, v < 256) : ∀ v ∈ encA a, v < 256 := by
  intro v hv
  unfold encA at hv
  rw [List.mem_append, List.mem_append] at hv
  rcases hv with (hv | hv) | hv
  · exact uv_lt _ v hv
  · exact hk v hv
  · split at hv
    · rcases List.mem_cons.1 hv with hv | hv
      · omega
      · rcases List.mem_append.1 hv with hv | hv
        · exact uv_lt _ v hv
        · exact hd v hv
    · simp at hv; omega

theorem encA_len {a : PA} (h : okA a) : (encA a).length ≤ 4182 := by
  obtain ⟨⟨_, h1⟩, h2⟩ := h
  have u1 := uv_ten (n := a.key.length) (by omega)
  have u2 := uv_ten (n := a.data.length) (by split at h2 <;> omega)
  unfold encA
  split
  · rename_i hs
    rw [if_pos hs] at h2
    simp only [List.length_append, List.length_cons]
    omega
  · simp only [List.length_append, List.length_cons, List.length_nil]
    omega

theorem encL_len : ∀ l : List PA, okL l → (encL l).length ≤ 4182 * l.length
  | [], _ => by simp [encL]
  | a :: l, h => by
    have h1 := encL_len l (fun b hb => h b (List.mem_cons_of_mem _ hb))
    have h2 := encA_len (h a List.mem_cons_self)
    simp only [encL, List.flatMap_cons, List.length_append, List.length_cons] at *
    omega

/- What Encode tells: an error's number and bytes. -/
def EncSays (l : List PA) (c : Nat) (o : List Nat) : Prop :=
  (¬ (l.length ≤ 256 ∧ okL l) ∧ c = 1 ∧ o = []) ∨ ((l.length ≤ 256 ∧ okL l) ∧ 13005 < (enc l).length ∧ c = 3 ∧ o = []) ∨ ((l.length ≤ 256 ∧ okL l) ∧ (enc l).length ≤ 13005 ∧ c = 0 ∧ o = enc l)

theorem enc_says (l : List PA) : ∃ c o, EncSays l c o := by
  by_cases h : l.length ≤ 256 ∧ okL l
  · by_cases h2 : 13005 < (enc l).length
    · exact ⟨3, [], .inr (.inl ⟨h, h2, rfl, rfl⟩)⟩
    · exact ⟨0, enc l, .inr (.inr ⟨h, by omega, rfl, rfl⟩)⟩
  · exact ⟨1, [], .inl ⟨h, rfl, rfl⟩⟩

theorem enc_len {l : List PA} (h : l.length ≤ 256) (ho : okL l) : (enc l).length ≤ 1070610 := by
  have h1 := encL_len l ho
  have h2 := uv_ten (n := l.length) (by omega)
  unfold enc
  rw [List.length_append]
  omega

theorem enc_lt {l : List PA} (h : ∀ a ∈ l, (∀ v ∈ a.key, v < 256) ∧ ∀ v ∈ a.data, v < 256) : ∀ v ∈ enc l, v < 256 := by
  intro v hv
  unfold enc at hv
  rcases List.mem_append.1 hv with hv | hv
  · exact uv_lt _ v hv
  · unfold encL at hv
    obtain ⟨a, ha, hv⟩ := List.mem_flatMap.1 hv
    exact encA_lt (h a ha).1 (h a ha).2 v hv

/- What Decode tells. -/
def DecSays (b : List Nat) (c : Nat) (l : List PA) : Prop :=
  ((b.length ≤ 13005 ∧ okL (rd b).1 ∧ rDone (rd b).2.1 (rd b).2.2 = 0) ∧ c = 0 ∧ l = (rd b).1) ∨ (¬ (b.length ≤ 13005 ∧ okL (rd b).1 ∧ rDone (rd b).2.1 (rd b).2.2 = 0) ∧ c = 5 ∧ l = [])

theorem dec_says (b : List Nat) : ∃ c l, DecSays b c l := by
  by_cases h : b.length ≤ 13005 ∧ okL (rd b).1 ∧ rDone (rd b).2.1 (rd b).2.2 = 0
  · exact ⟨0, (rd b).1, .inl ⟨h, rfl, rfl⟩⟩
  · exact ⟨5, [], .inr ⟨h, rfl, rfl⟩⟩

theorem dec_enc {l : List PA} (h : l.length ≤ 256) (ho : okL l) (hl : (enc l).length ≤ 13005) : DecSays (enc l) 0 l := by
  have := rd_enc l h ho
  refine .inl ⟨⟨hl, ?_, ?_⟩, rfl, ?_⟩
  · rw [this]; exact ho
  · rw [this]; rfl
  · rw [this]

end Go.Proofs.Ytbbjklenpgkooaa.St

/-
  A text's bytes as plain numbers, and their order.
  Conditions: none.
-/
namespace Go.Proofs.Ytbbjklenpgkooaa.St
set_option linter.unusedVariables false
set_option linter.unusedSimpArgs false
set_option maxRecDepth 100000

def nat (s : ByteArray) : List Nat := s.data.toList.map UInt8.toNat

theorem nat_length (s : ByteArray) : (nat s).length = s.size := by
  unfold nat
  rw [List.length_map, Array.length_toList]
  rfl

theorem nat_lt (s : ByteArray) : ∀ x ∈ nat s, x < 256 := by
  intro x hx
  obtain ⟨b, _, rfl⟩ := List.mem_map.1 hx
  exact b.toNat_lt

theorem nat_get (s : ByteArray) (i : Nat) (h : i < s.size) : (s[i]'h).toNat = (nat s).getD i 0 := by
  have h1 : i < s.data.toList.length := by rw [Array.length_toList]; exact h
  have e : s.data.toList[i]? = some (s[i]'h) := by
    rw [List.getElem?_eq_getElem h1]
    rfl
  simp [nat, List.getD, e]

theorem nat_inj {s t : ByteArray} (h : nat s = nat t) : s = t := by
  have : s.data.toList = t.data.toList := by
    refine List.map_inj_right (f := UInt8.toNat) ?_ |>.1 h
    intro a b e
    exact UInt8.toNat_inj.1 e
  exact ByteArray.ext (Array.toList_inj.1 this)

theorem nat_toList (s : ByteArray) : s.toList = s.data.toList := ByteArray.toList_eq s

theorem beq_nat (s t : ByteArray) (b : Bool) (h : nat s = nat t ↔ b = true) : (s.toList == t.toList) = b := by
  rw [nat_toList, nat_toList]
  cases b with
  | true =>
    have := nat_inj (h.2 rfl)
    subst this
    simp
  | false =>
    have hne : s.data.toList ≠ t.data.toList := fun e => by
      have := h.1 (by unfold nat; rw [e])
      cases this
    simpa using hne

theorem nat_extract (s : ByteArray) (a b : Nat) : nat (s.extract a b) = ((nat s).take b).drop a := by
  unfold nat
  rw [ByteArray.data_extract, Array.toList_extract]
  simp [List.extract_eq_take_drop, List.map_drop, List.map_take, List.drop_take]

def str (l : List Nat) : ByteArray := ⟨(l.map UInt8.ofNat).toArray⟩

theorem nat_str {l : List Nat} (h : ∀ x ∈ l, x < 256) : nat (str l) = l := by
  unfold nat str
  simp only [List.map_map]
  conv => rhs; rw [← List.map_id l]
  refine List.map_congr_left fun x hx => ?_
  simp [Function.comp, UInt8.toNat_ofNat', Nat.mod_eq_of_lt (h x hx)]

theorem str_nat (s : ByteArray) : str (nat s) = s := nat_inj (nat_str (nat_lt s))

theorem str_size (l : List Nat) : (str l).size = l.length := by
  show (l.map UInt8.ofNat).toArray.size = l.length
  simp

def lessN : List Nat → List Nat → Bool
  | _, [] => false
  | [], _ :: _ => true
  | a :: x, b :: y => decide (a < b) || (a == b && lessN x y)

theorem less_map : ∀ x y : List UInt8, Op.bytesLess x y = lessN (x.map UInt8.toNat) (y.map UInt8.toNat)
  | [], [] => rfl
  | _ :: _, [] => rfl
  | [], _ :: _ => rfl
  | a :: x, b :: y => by
    simp only [Op.bytesLess, List.map_cons, lessN, less_map x y]
    congr 1
    congr 1
    rw [Bool.eq_iff_iff]
    simp [UInt8.toNat_inj]

theorem less_nat (s t : ByteArray) : Op.bytesLess s.toList t.toList = lessN (nat s) (nat t) := by
  rw [nat_toList, nat_toList, less_map]
  rfl

theorem less_cons (a b : Nat) (x y : List Nat) : lessN (a :: x) (b :: y) = true ↔ a < b ∨ (a = b ∧ lessN x y = true) := by
  simp [lessN]

theorem less_irrefl : ∀ x : List Nat, lessN x x = false
  | [] => rfl
  | a :: x => by simp [lessN, less_irrefl x]

theorem less_trans : ∀ x y z : List Nat, lessN x y = true → lessN y z = true → lessN x z = true
  | _, [], _, h, _ => by cases ‹List Nat› <;> simp [lessN] at h
  | _, _ :: _, [], _, h => by simp [lessN] at h
  | [], _ :: _, _ :: _, _, _ => rfl
  | a :: x, b :: y, c :: z, h, k => by
    rw [less_cons] at h k ⊢
    rcases h with h | ⟨h, h'⟩
    · rcases k with k | ⟨k, k'⟩
      · exact .inl (by omega)
      · exact .inl (by omega)
    · rcases k with k | ⟨k, k'⟩
      · exact .inl (by omega)
      · exact .inr ⟨by omega, less_trans x y z h' k'⟩

theorem less_asym (x y : List Nat) (h : lessN x y = true) : lessN y x = false := by
  cases hh : lessN y x with
  | false => rfl
  | true =>
    have := less_trans x y x h hh
    rw [less_irrefl] at this
    cases this

theorem less_total : ∀ x y : List Nat, x ≠ y → lessN x y ≠ lessN y x
  | [], [], h => absurd rfl h
  | [], _ :: _, _ => by simp [lessN]
  | _ :: _, [], _ => by simp [lessN]
  | a :: x, b :: y, h => by
    intro e
    by_cases hab : a < b
    · have h1 : lessN (a :: x) (b :: y) = true := (less_cons ..).2 (.inl hab)
      have h2 := less_asym _ _ h1
      rw [h1, h2] at e
      cases e
    · by_cases hba : b < a
      · have h1 : lessN (b :: y) (a :: x) = true := (less_cons ..).2 (.inl hba)
        have h2 := less_asym _ _ h1
        rw [h1, h2] at e
        cases e
      · obtain rfl : a = b := by omega
        refine less_total x y (fun hx => h (by rw [hx])) ?_
        simpa [lessN] using e

theorem less_left : ∀ x y z : List Nat, lessN (x ++ y) (x ++ z) = lessN y z
  | [], _, _ => rfl
  | a :: x, y, z => by
    simp only [List.cons_append, lessN]
    rw [less_left x y z]
    simp


theorem compare_nat : ∀ x y : List UInt8, (Lib.compareBytes x y < 0 ↔ lessN (x.map UInt8.toNat) (y.map UInt8.toNat) = true)
  | [], [] => by simp [Lib.compareBytes, lessN]
  | _ :: _, [] => by simp [Lib.compareBytes, lessN]
  | [], _ :: _ => by simp [Lib.compareBytes, lessN]
  | a :: x, b :: y => by
    have ih := compare_nat x y
    simp only [List.map_cons]
    rw [less_cons]
    have e1 : (a < b) = (a.toNat < b.toNat) := rfl
    have e2 : (b < a) = (b.toNat < a.toNat) := rfl
    unfold Lib.compareBytes
    by_cases h1 : a < b
    · rw [if_pos h1]
      rw [e1] at h1
      simp [h1]
    · rw [if_neg h1]
      rw [e1] at h1
      by_cases h2 : b < a
      · rw [if_pos h2]
        rw [e2] at h2
        constructor
        · intro h; omega
        · rintro (h | ⟨h, _⟩) <;> omega
      · rw [if_neg h2, ih]
        rw [e2] at h2
        have e : a.toNat = b.toNat := by omega
        simp [e]

end Go.Proofs.Ytbbjklenpgkooaa.St

/-
  A disk as plain numbers: its bytes, what was written since the last flush, what a crash leaves and what is read.
  Conditions: none.
-/
namespace Go.Proofs.Ytbbjklenpgkooaa.Dk
set_option linter.unusedVariables false
set_option linter.unusedSimpArgs false
set_option maxRecDepth 100000

def put (f : Nat → Nat) (a : Nat) (d : Nat → Nat) : Nat → Nat := fun k => if k / 64 = a then d (k % 64) else f k

def kept (f A : Nat → Nat) (D : Nat → Nat → Nat) (c : Nat → Bool) : Nat → Nat → Nat
  | 0 => f
  | i + 1 => if c i = true then put (kept f A D c i) (A i) (D i) else kept f A D c i

def last (A : Nat → Nat) (k : Nat) : Nat → Nat
  | 0 => 0
  | m + 1 => if A m = k then m + 1 else last A k m

def sec (f : Nat → Nat) (k : Nat) : Nat → Nat := fun j => f (64 * k + j)

def now (f A : Nat → Nat) (D : Nat → Nat → Nat) (k m : Nat) : Nat → Nat := if last A k m = 0 then sec f k else D (last A k m - 1)

def ext {α : Type} (A : Nat → α) (m : Nat) (a : α) : Nat → α := fun i => if i < m then A i else a

theorem ext_old {α : Type} (A : Nat → α) (m : Nat) (a : α) {i : Nat} (h : i < m) : ext A m a i = A i := by simp [ext, h]
theorem ext_new {α : Type} (A : Nat → α) (m : Nat) (a : α) : ext A m a m = a := by simp [ext]

theorem put_sec (f : Nat → Nat) (a : Nat) (d : Nat → Nat) (k j : Nat) (hj : j < 64) : sec (put f a d) k j = if k = a then d j else sec f k j := by
  have h1 : (64 * k + j) / 64 = k := by omega
  have h2 : (64 * k + j) % 64 = j := by omega
  simp [sec, put, h1, h2]

theorem last_le (A : Nat → Nat) (k : Nat) : ∀ m, last A k m ≤ m
  | 0 => Nat.le_refl _
  | m + 1 => by
    have := last_le A k m
    unfold last
    split <;> omega

theorem last_at (A : Nat → Nat) (k : Nat) : ∀ m, last A k m ≠ 0 → A (last A k m - 1) = k
  | 0, h => absurd rfl h
  | m + 1, h => by
    unfold last at h ⊢
    split
    · rename_i e; simpa using e
    · rename_i e
      rw [if_neg e] at h
      exact last_at A k m h

theorem last_congr {A B : Nat → Nat} (k : Nat) : ∀ m, (∀ i, i < m → A i = B i) → last A k m = last B k m
  | 0, _ => rfl
  | m + 1, h => by
    unfold last
    rw [h m (Nat.lt_succ_self m), last_congr k m fun i hi => h i (Nat.lt_succ_of_lt hi)]

theorem last_ext (A : Nat → Nat) (m a k : Nat) : last (ext A m a) k (m + 1) = if a = k then m + 1 else last A k m := by
  rw [last, ext_new]
  rw [last_congr k m (fun i hi => ext_old A m a hi)]

theorem last_none {A : Nat → Nat} {k : Nat} : ∀ m, (∀ i, i < m → A i ≠ k) → last A k m = 0
  | 0, _ => rfl
  | m + 1, h => by
    unfold last
    rw [if_neg (h m (Nat.lt_succ_self m))]
    exact last_none m fun i hi => h i (Nat.lt_succ_of_lt hi)

theorem last_hit {A : Nat → Nat} {k : Nat} : ∀ m i, i < m → A i = k → last A k m ≠ 0
  | m + 1, i, hi, e => by
    unfold last
    split
    · omega
    · rename_i h
      refine last_hit m i ?_ e
      rcases Nat.lt_succ_iff_lt_or_eq.1 hi with h1 | h1
      · exact h1
      · subst h1; exact absurd e h

theorem kept_lt {f A : Nat → Nat} {D : Nat → Nat → Nat} (c : Nat → Bool) (hf : ∀ i, f i < 256) (hD : ∀ i j, D i j < 256) : ∀ m k, kept f A D c m k < 256
  | 0, k => hf k
  | m + 1, k => by
    unfold kept
    split
    · unfold put
      split
      · exact hD _ _
      · exact kept_lt c hf hD m k
    · exact kept_lt c hf hD m k

theorem now_lt {f A : Nat → Nat} {D : Nat → Nat → Nat} (hf : ∀ i, f i < 256) (hD : ∀ i j, D i j < 256) (k m j : Nat) : now f A D k m j < 256 := by
  unfold now
  split
  · exact hf _
  · exact hD _ _

/- Where nothing was written all is as it was. -/
theorem kept_away {f A : Nat → Nat} {D : Nat → Nat → Nat} (c : Nat → Bool) (k : Nat) : ∀ m, (∀ i, i < m → A i ≠ k) → ∀ j, j < 64 → sec (kept f A D c m) k j = sec f k j
  | 0, _, _, _ => rfl
  | m + 1, h, j, hj => by
    unfold kept
    split
    · rw [put_sec _ _ _ _ _ hj, if_neg (fun e => h m (Nat.lt_succ_self m) e.symm)]
      exact kept_away c k m (fun i hi => h i (Nat.lt_succ_of_lt hi)) j hj
    · exact kept_away c k m (fun i hi => h i (Nat.lt_succ_of_lt hi)) j hj

/- What is flushed is what was read. -/
theorem kept_all (f A : Nat → Nat) (D : Nat → Nat → Nat) (k : Nat) : ∀ m, ∀ j, j < 64 → sec (kept f A D (fun _ => true) m) k j = now f A D k m j
  | 0, _, _ => rfl
  | m + 1, j, hj => by
    have ih := kept_all f A D k m j hj
    unfold kept now
    rw [if_pos rfl, put_sec _ _ _ _ _ hj, last]
    by_cases e : A m = k
    · simp [e]
    · rw [if_neg (fun h => e h.symm), if_neg e, ih]
      rfl

theorem now_ext (f A : Nat → Nat) (D : Nat → Nat → Nat) (m a : Nat) (d : Nat → Nat) (k : Nat) : now f (ext A m a) (ext D m d) k (m + 1) = if a = k then d else now f A D k m := by
  unfold now
  rw [last_ext]
  by_cases e : a = k
  · simp [e, ext_new]
  · simp only [e, if_false]
    by_cases h : last A k m = 0
    · simp [h]
    · have := last_le A k m
      simp only [h, if_false]
      rw [ext_old D m d (by omega)]

theorem kept_congr {f f' A B : Nat → Nat} {D E : Nat → Nat → Nat} {c c' : Nat → Bool} (hf : ∀ k, f k = f' k) : ∀ m, (∀ i, i < m → A i = B i ∧ (∀ j, j < 64 → D i j = E i j) ∧ c i = c' i) → ∀ k, kept f A D c m k = kept f' B E c' m k
  | 0, _, k => hf k
  | m + 1, h, k => by
    have ih := kept_congr hf m (fun i hi => h i (Nat.lt_succ_of_lt hi))
    obtain ⟨h1, h2, h3⟩ := h m (Nat.lt_succ_self m)
    unfold kept
    rw [h3, h1]
    split
    · unfold put
      rw [ih k, h2 _ (Nat.mod_lt _ (by omega))]
    · exact ih k

end Go.Proofs.Ytbbjklenpgkooaa.Dk

/-
  Blocks of memory as rows of values; what a call may turn; a disk as it lies in memory.
  Conditions: none.
-/
namespace Go.Proofs.Ytbbjklenpgkooaa
open Go.RowKit By Dk
set_option linter.unusedVariables false
set_option linter.unusedSimpArgs false
set_option maxRecDepth 100000

theorem hid {p : Prop} (h : p) : Hid p := h

def rowOf (v : Nat → Value) (n : Nat) : List Value := (List.range n).map v

theorem rowOf_get (v : Nat → Value) (n k : Nat) (h : k < n) : (rowOf v n)[k]? = some (v k) := by simp [rowOf, h]
theorem rowOf_len (v : Nat → Value) (n : Nat) : (rowOf v n).length = n := by simp [rowOf]
theorem rowOf_congr {v u : Nat → Value} {n : Nat} (h : ∀ k, k < n → v k = u k) : rowOf v n = rowOf u n := List.map_congr_left fun i hi => h i (List.mem_range.1 hi)
theorem rowOf_one (v : Nat → Value) (n : Nat) (h : ∀ k, (v k).oneCell' = true) : ∀ u ∈ rowOf v n, u.oneCell' = true := fun u hu => by
  simp only [rowOf, List.mem_map] at hu
  obtain ⟨k, _, rfl⟩ := hu
  exact h k
theorem rowOf_succ (v : Nat → Value) (n : Nat) : rowOf v (n + 1) = rowOf v n ++ [v n] := by simp [rowOf, List.range_succ]

def upd (v : Nat → Value) (k : Nat) (u : Value) : Nat → Value := fun i => if i = k then u else v i

theorem rowOf_set (v : Nat → Value) (n k : Nat) (u : Value) : (rowOf v n).set k u = rowOf (upd v k u) n := by
  apply List.ext_getElem?
  intro i
  by_cases hi : i < n
  · rw [rowOf_get _ _ _ hi, List.getElem?_set]
    by_cases e : k = i
    · subst e; simp [rowOf_len, hi, upd]
    · rw [if_neg e, rowOf_get _ _ _ hi]
      simp [upd, Ne.symm e]
  · rw [List.getElem?_eq_none (by rw [List.length_set, rowOf_len]; omega), List.getElem?_eq_none (by rw [rowOf_len]; omega)]

def Blk (w : World) (g : Nat) (t : TypeId) (n : Nat) (v : Nat → Value) : Prop := w.heap[g]? = some (.cells (rowOf v n).toArray t (0, 0))

section
variable {w w' : World} {g n : Nat} {t : TypeId} {v : Nat → Value}

theorem Blk.lt (h : Blk w g t n v) : g < w.heap.size := (Array.getElem?_eq_some_iff.1 h).1

theorem Blk.cell (h : Blk w g t n v) {k : Nat} (hk : k < n) : w.cell? ⟨g, k, none⟩ = some (v k) := by
  unfold Blk at h
  simp only [World.cell?, h]
  simp [rowOf_get v n k hk]

theorem Blk.frozen (h : Blk w g t n v) (k : Nat) : w.frozen? ⟨g, k, none⟩ = false := by
  unfold Blk at h
  simp [World.frozen?, h]

theorem Blk.of_heap (h : Blk w g t n v) (e : w'.heap[g]? = w.heap[g]?) : Blk w' g t n v := e.trans h

theorem Blk.ne {g' n' : Nat} {t' : TypeId} {v' : Nat → Value} (h : Blk w g t n v) (k : Blk w g' t' n' v') (ht : t ≠ t') : g ≠ g' := fun e => by
  subst e
  have := Option.some.inj (Eq.trans (Eq.symm h) k)
  injection this with _ h2 _
  exact ht h2

theorem Blk.congr {v' : Nat → Value} (h : Blk w g t n v) (e : ∀ k, k < n → v k = v' k) : Blk w g t n v' := by
  unfold Blk
  rw [← rowOf_congr e]
  exact h

theorem Blk.set (h : Blk w g t n v) (k : Nat) (u : Value) : Blk (w.setCell ⟨g, k, none⟩ u) g t n (upd v k u) := by
  unfold Blk at h ⊢
  obtain ⟨h1, h2⟩ := Array.getElem?_eq_some_iff.1 h
  simp only [World.setCell]
  rw [Array.getElem?_eq_getElem (by simpa using h1), Array.getElem_modify, if_pos rfl, h2]
  simp [rowOf_set]

theorem Blk.new (w : World) (t : TypeId) (n : Nat) (v : Nat → Value) (cs : Array Value) (e : cs = (rowOf v n).toArray) : Blk (w.alloc (.cells cs t)) w.heap.size t n v := by
  unfold Blk
  rw [heap_alloc_new, e]

theorem Blk.row {f : Nat → Nat} (h : Blk w g 5 n (fun i => .int .u8 (f i : Int))) : RowAt w (some ⟨g, 0, none⟩) n f :=
  .inr ⟨g, 0, rfl, h.lt, fun i hi => by rw [Nat.zero_add]; exact h.cell hi⟩

end

/- What a call may turn: the blocks of F, and new ones. -/
structure Turns (F : Nat → Prop) (w w' : World) : Prop where
  os : w'.os = w.os
  tape : w'.tape = w.tape
  output : w'.output = w.output
  size : w.heap.size ≤ w'.heap.size
  block : ∀ k, k < w.heap.size → ¬ F k → w'.heap[k]? = w.heap[k]?

def grow (F : Nat → Prop) (w w' : World) : Nat → Prop := fun k => F k ∨ (w.heap.size ≤ k ∧ k < w'.heap.size)

section
variable {F : Nat → Prop} {a b c w : World}

theorem Turns.refl (F : Nat → Prop) (w : World) : Turns F w w := ⟨rfl, rfl, rfl, Nat.le_refl _, fun _ _ _ => rfl⟩

theorem Turns.trans (h : Turns F a b) (k : Turns F b c) : Turns F a c :=
  ⟨k.os.trans h.os, k.tape.trans h.tape, k.output.trans h.output, Nat.le_trans h.size k.size, fun i hi hg => (k.block i (Nat.lt_of_lt_of_le hi h.size) hg).trans (h.block i hi hg)⟩

theorem Turns.more {G : Nat → Prop} (h : Turns F a b) (k : Turns G b c) (hG : ∀ i, G i → F i ∨ a.heap.size ≤ i) : Turns F a c :=
  ⟨k.os.trans h.os, k.tape.trans h.tape, k.output.trans h.output, Nat.le_trans h.size k.size, fun i hi hg => (k.block i (Nat.lt_of_lt_of_le hi h.size) (fun h1 => by rcases hG i h1 with h2 | h2; exact hg h2; omega)).trans (h.block i hi hg)⟩

theorem Turns.of_below (h : Below a.heap.size a b) : Turns F a b := ⟨h.os, h.tape, h.output, h.size, fun k hk _ => h.block k hk⟩

theorem Turns.drewN (h : Turns F a w) (n : Nat) : Turns F a (w.drewN n) := ⟨h.os, h.tape, h.output, h.size, h.block⟩
theorem Turns.drew (h : Turns F a w) : Turns F a w.drew := ⟨h.os, h.tape, h.output, h.size, h.block⟩
theorem Turns.of_drewN {n : Nat} (h : Turns F (a.drewN n) w) : Turns F a w := ⟨h.os, h.tape, h.output, h.size, h.block⟩

theorem Turns.setCell (h : Turns F a w) {p : Addr} (hp : F p.block ∨ a.heap.size ≤ p.block) (u : Value) : Turns F a (w.setCell p u) :=
  ⟨h.os, h.tape, h.output, by simpa [World.setCell] using h.size, fun k hk hF => (Below.heap_setCell _ _ _ _ (fun e => by subst e; rcases hp with hp | hp; exact hF hp; omega)).trans (h.block k hk hF)⟩

theorem Turns.alloc (h : Turns F a w) (o : Obj) : Turns F a (w.alloc o) :=
  ⟨h.os, h.tape, h.output, by have := h.size; simp; omega, fun k hk hF => (Below.heap_alloc _ _ _ (Nat.lt_of_lt_of_le hk h.size)).trans (h.block k hk hF)⟩

theorem Turns.grown {w' : World} {row : Option Nat} (h : Turns F a w) (hg : w.grownBy w' row) (hr : ∀ k, row = some k → F k ∨ a.heap.size ≤ k) : Turns F a w' :=
  ⟨hg.os.trans h.os, hg.tape.trans h.tape, hg.output.trans h.output, Nat.le_trans h.size hg.size, fun k hk hF => (hg.block k (Nat.lt_of_lt_of_le hk h.size) (fun e => by rcases hr k e.symm with h1 | h1; exact hF h1; omega)).trans (h.block k hk hF)⟩

theorem Turns.weak {G : Nat → Prop} (h : Turns F a b) (hG : ∀ k, F k → G k) : Turns G a b := ⟨h.os, h.tape, h.output, h.size, fun k hk hg => h.block k hk (fun e => hg (hG k e))⟩

theorem Turns.below {B : Nat} (h : Turns F a b) (hF : ∀ k, F k → B ≤ k) (hB : B ≤ a.heap.size) : Below B a b :=
  ⟨h.os, h.tape, h.output, h.size, fun k hk => h.block k (by omega) (fun e => by have := hF k e; omega)⟩

theorem Turns.blk {g n : Nat} {t : TypeId} {v : Nat → Value} (h : Turns F a b) (k : Blk a g t n v) (hg : ¬ F g) : Blk b g t n v := k.of_heap (h.block g k.lt hg)

theorem Turns.row {x : Option Addr} {n : Nat} {f : Nat → Nat} (h : Turns F a b) (k : RowAt a x n f) (hx : ∀ ad, x = some ad → ¬ F ad.block) : RowAt b x n f := by
  rcases k with k | ⟨g, o, rfl, hg, hc⟩
  · exact .inl k
  · exact .inr ⟨g, o, rfl, Nat.lt_of_lt_of_le hg h.size, fun i hi => (World.cell?_of_block (a := ⟨g, o + i, none⟩) (h.block g hg (hx _ rfl))).trans (hc i hi)⟩

theorem ownsRow_same {w w' : World} {base : Nat} {e : TypeId} {size : Nat} {R : Value} {n : Nat} {xs : List Value} (h : w.ownsRow base e size R n xs) (hb : ∀ g, R.ownBlock = some g → w'.heap[g]? = w.heap[g]?) : w'.ownsRow base e size R n xs := by
  refine ⟨h.1, ?_⟩
  rcases h.2 with h0 | ⟨g, cap, cur, rfl, h1, h2, h3⟩
  · exact .inl h0
  · exact .inr ⟨g, cap, cur, rfl, h1, (hb g rfl).trans h2, h3⟩

theorem ownsRow_ne {w : World} {base g n' : Nat} {e t' : TypeId} {size : Nat} {R : Value} {n : Nat} {xs : List Value} {v : Nat → Value} (h : w.ownsRow base e size R n xs) (k : Blk w g t' n' v) (ht : e ≠ t') : R.ownBlock ≠ some g := fun hg => by
  rcases h.2 with ⟨rfl, _⟩ | ⟨g0, cap, cur, rfl, h1, h2, h3⟩
  · cases hg
  · simp [Value.ownBlock] at hg
    subst hg
    have := Option.some.inj (h2.symm.trans k)
    injection this with _ h4 _
    exact ht h4

theorem ownsRow_form {w : World} {base : Nat} {e : TypeId} {R : Value} {n : Nat} {xs : List Value} (h : w.ownsRow base e 1 R n xs) :
    ∃ x c, R = .slice x n c ∧ n ≤ c ∧ (x = none → n = 0 ∧ c = 0) ∧ (n = 0 ∨ ∃ g, x = some ⟨g, 0, none⟩ ∧ ∀ i u, xs[i]? = some u → w.cell? ⟨g, 0 + i, none⟩ = some u) := by
  rcases h.2 with ⟨rfl, h0⟩ | ⟨g, cap, cur, hv, h1, h2, h3, h4⟩
  · subst h0
    exact ⟨none, 0, rfl, Nat.le_refl _, fun _ => ⟨rfl, rfl⟩, .inl rfl⟩
  · subst hv
    refine ⟨_, cap, rfl, h3, (fun e => by cases e), .inr ⟨g, rfl, fun i u hi => ?_⟩⟩
    have := h.cells (g := g) rfl i u hi
    rw [add_at] at this
    exact this

/- One row of one's own, and more behind it: where it lies then. -/
theorem push_gen (w : World) (t e : TypeId) (i : TypeInfo) (z : Value) (size bytes : Nat) (ht : Try.prog.underlying t = some (.slice e)) (hi : Try.prog.info? e = some i) (hz : i.zero = some z)
    (hsize : i.size = size) (hby : i.bytes = bytes) (hzs : z.cells.size = size) (hsz : 0 < size) (R : Value) (n : Nat) (xs : List Value) (hown : w.ownsRow 0 e size R n xs)
    (ad : Addr) (m c : Nat) (news : List Value) (hl : news.length = m * size) (hnews : ∀ j u, news[j]? = some u → w.cell? (ad.add j) = some u) (h1 : ∀ u ∈ news, u.oneCell' = true)
    (hm : 0 < m) (h63 : n + m ≤ maxLen) (hbytes : (n + m) * bytes ≤ 140737488355328) :
    ∃ R' w', (Builtin.append_ #[t, t] t #[R, .slice (some ad) m c]).run Try.prog w = .ok R' w' ∧ w'.ownsRow 0 e size R' (n + m) (xs ++ news) ∧ w.grownBy w' R.ownBlock ∧ (∀ g, R'.ownBlock = some g → R.ownBlock = some g ∨ w.heap.size ≤ g) := by
  obtain ⟨v', w'', hr2, h2, h3, h4⟩ := run_append_own (P := Try.prog) w 0 t t e i z size bytes ht hi hz hsize hby hzs hsz R n xs hown ad m c news hl hnews h1 h63 hbytes (Nat.zero_le _)
  refine ⟨v', w'', hr2, h2, h3, fun g hg => ?_⟩
  subst hsize
  subst hby
  have hsmall : n + m ≤ 9223372036854775807 := by simp only [maxLen] at h63; omega
  rcases hown.2 with ⟨rfl, hn0⟩ | ⟨g0, cap, cur, rfl, hbg, hgc, hnc, hcm, hcs, htake⟩
  · right
    subst hn0
    have hr3 := run_append_nil (P := Try.prog) w t t e i z ht hi hz ad m c news hl hnews hm (by omega) (by have := hbytes; simp only [Nat.zero_add] at this; omega)
    rw [hr2] at hr3
    injection hr3 with e1 _
    rw [e1] at hg
    simp [Value.ownBlock] at hg
    omega
  · by_cases hroom : n + m ≤ cap
    · left
      have hfit : n * i.size + news.length ≤ cur.size := by rw [hl, hcs, ← Nat.add_mul]; exact Nat.mul_le_mul_right _ hroom
      have hr3 := run_append_room (P := Try.prog) w t t e i ht hi g0 n cap cur hgc ad m c news hl hnews h1 hroom hfit
      rw [hr2] at hr3
      injection hr3 with e1 _
      rw [e1] at hg
      simp [Value.ownBlock] at hg
      simp [Value.ownBlock, hg]
    · right
      have holds : ∀ j u, xs[j]? = some u → w.cell? ((⟨g0, 0, none⟩ : Addr).add j) = some u := hown.cells (g := g0) rfl
      have hr3 := run_append_grow (P := Try.prog) w t t e i z ht hi hz ⟨g0, 0, none⟩ n cap xs hown.1 holds ad m c news hl hnews (by omega) (by omega) (growslice_fits (by omega) hbytes)
      rw [hr2] at hr3
      injection hr3 with e1 _
      rw [e1] at hg
      simp [Value.ownBlock] at hg
      omega

end

/- The program's disk. -/
def obj3 (a b c : Value) : Nat → Value := fun i => if i = 0 then a else if i = 1 then b else c
def wrV (a : Nat) (d : Nat → Nat) : Nat → Value := fun i => if i = 0 then .int .i64 (a : Int) else .int .u8 (d (i - 1) : Int)
def nearV (q A : Nat → Nat) (m : Nat) : Nat → Value := fun k => if last A k m = 0 then .pointer none else .pointer (some ⟨q (last A k m - 1), 0, none⟩)

structure PDk (w : World) (F : Nat → Prop) (p gs gn : Nat) (R : Value) (n s m : Nat) (f A : Nat → Nat) (D : Nat → Nat → Nat) (q : Nat → Nat) : Prop where
  obj : Blk w p 75 3 (obj3 (.slice (some ⟨gs, 0, none⟩) s s) R (.slice (some ⟨gn, 0, none⟩) n n))
  safe : Blk w gs 5 s (fun i => .int .u8 (f i : Int))
  near : Blk w gn 78 n (nearV q A m)
  own : w.ownsRow 0 78 1 R m (rowOf (fun i => .pointer (some ⟨q i, 0, none⟩)) m)
  wr : ∀ i, i < m → Blk w (q i) 108 65 (wrV (A i) (D i))
  at_ : ∀ i, i < m → A i < n
  len : s = 64 * n
  rn : R.ownBlock ≠ some gn
  fp : F p
  fs : F gs
  fn : F gn
  fq : ∀ i, i < m → F (q i)
  fR : ∀ g, R.ownBlock = some g → F g
  lt : ∀ i, f i < 256
  ltD : ∀ i j, D i j < 256
  flt : ∀ k, F k → k < w.heap.size
  n1 : 1 ≤ n
  n2 : n ≤ 4096
  m2 : m ≤ 1000

section
variable {w : World} {F : Nat → Prop} {p gs gn : Nat} {R : Value} {n s m : Nat} {f A : Nat → Nat} {D : Nat → Nat → Nat} {q : Nat → Nat}

theorem PDk.c0 (h : PDk w F p gs gn R n s m f A D q) : w.cell? ⟨p, 0, none⟩ = some (.slice (some ⟨gs, 0, none⟩) s s) := h.obj.cell (k := 0) (by omega)
theorem PDk.c1 (h : PDk w F p gs gn R n s m f A D q) : w.cell? ⟨p, 1, none⟩ = some R := h.obj.cell (k := 1) (by omega)
theorem PDk.c2 (h : PDk w F p gs gn R n s m f A D q) : w.cell? ⟨p, 2, none⟩ = some (.slice (some ⟨gn, 0, none⟩) n n) := h.obj.cell (k := 2) (by omega)

theorem PDk.heap {w' : World} (h : PDk w F p gs gn R n s m f A D q) (e : ∀ k, F k → w'.heap[k]? = w.heap[k]?) (hs : w.heap.size ≤ w'.heap.size) : PDk w' F p gs gn R n s m f A D q :=
  ⟨h.obj.of_heap (e _ h.fp), h.safe.of_heap (e _ h.fs), h.near.of_heap (e _ h.fn), ownsRow_same h.own (fun g hg => e g (h.fR g hg)), fun i hi => (h.wr i hi).of_heap (e _ (h.fq i hi)), h.at_, h.len, h.rn, h.fp, h.fs, h.fn, h.fq, h.fR, h.lt, h.ltD,
    fun k hk => Nat.lt_of_lt_of_le (h.flt k hk) hs, h.n1, h.n2, h.m2⟩

theorem PDk.turns {w' : World} {G : Nat → Prop} (h : PDk w F p gs gn R n s m f A D q) (t : Turns G w w') (hd : ∀ k, F k → ¬ G k) : PDk w' F p gs gn R n s m f A D q :=
  h.heap (fun k hk => t.block k (h.flt k hk) (hd k hk)) t.size

theorem PDk.below {w' : World} (h : PDk w F p gs gn R n s m f A D q) (t : Below w.heap.size w w') : PDk w' F p gs gn R n s m f A D q :=
  h.heap (fun k hk => t.block k (h.flt k hk)) t.size

theorem PDk.drewN (h : PDk w F p gs gn R n s m f A D q) (k : Nat) : PDk (w.drewN k) F p gs gn R n s m f A D q := h.heap (fun _ _ => rfl) (Nat.le_refl _)
theorem PDk.drew (h : PDk w F p gs gn R n s m f A D q) : PDk w.drew F p gs gn R n s m f A D q := h.heap (fun _ _ => rfl) (Nat.le_refl _)

end

def Pd (w : World) (F : Nat → Prop) (p n m : Nat) (f A : Nat → Nat) (D : Nat → Nat → Nat) : Prop := ∃ gs gn R s q, PDk w F p gs gn R n s m f A D q

theorem Pd.turns {w w' : World} {F G : Nat → Prop} {p n m : Nat} {f A : Nat → Nat} {D : Nat → Nat → Nat} (h : Pd w F p n m f A D) (t : Turns G w w') (hd : ∀ k, F k → ¬ G k) : Pd w' F p n m f A D := by
  obtain ⟨gs, gn, R, s, q, h⟩ := h
  exact ⟨gs, gn, R, s, q, h.turns t hd⟩

theorem Pd.below {w w' : World} {F : Nat → Prop} {p n m : Nat} {f A : Nat → Nat} {D : Nat → Nat → Nat} (h : Pd w F p n m f A D) (t : Below w.heap.size w w') : Pd w' F p n m f A D := by
  obtain ⟨gs, gn, R, s, q, h⟩ := h
  exact ⟨gs, gn, R, s, q, h.below t⟩

theorem Pd.drewN {w : World} {F : Nat → Prop} {p n m : Nat} {f A : Nat → Nat} {D : Nat → Nat → Nat} (h : Pd w F p n m f A D) (k : Nat) : Pd (w.drewN k) F p n m f A D := by
  obtain ⟨gs, gn, R, s, q, h⟩ := h
  exact ⟨gs, gn, R, s, q, h.drewN k⟩

end Go.Proofs.Ytbbjklenpgkooaa

/-
  Acts as they lie in memory; a text's bytes made into a list; a part of a text.
  Conditions: none.
-/
namespace Go.Proofs.Ytbbjklenpgkooaa
open Go.RowKit By Dk Wi St
set_option linter.unusedVariables false
set_option linter.unusedSimpArgs false
set_option maxRecDepth 100000

structure AV where
  key : ByteArray
  set : Bool
  x : Option Addr
  n : Nat
  c : Nat
  d : List Nat

def pa (v : AV) : PA := ⟨nat v.key, v.set, v.d⟩

structure ActOk (w : World) (v : AV) : Prop where
  sl : Sl w v.x v.n v.c v.d
  sm : v.n ≤ 140737488351232
  ks : v.key.size ≤ 140737488351232

structure ActsAt (w : World) (a : Option Addr) (len : Nat) (V : Nat → AV) : Prop where
  row : len = 0 ∨ ∃ b o, a = some ⟨b, o, none⟩ ∧ b < w.heap.size ∧ ∀ i, i < len → w.cell? ⟨b, o + i * 3, none⟩ = some (.string (V i).key) ∧ w.cell? ⟨b, o + i * 3 + 1, none⟩ = some (.bool (V i).set) ∧ w.cell? ⟨b, o + i * 3 + 2, none⟩ = some (.slice (V i).x (V i).n (V i).c)
  act : ∀ i, i < len → ActOk w (V i)

theorem Sl.turns {w w' : World} {G : Nat → Prop} {x : Option Addr} {n c : Nat} {l : List Nat} (h : Sl w x n c l) (t : Turns G w w') (hx : n ≠ 0 → ∀ a, x = some a → ¬ G a.block) : Sl w' x n c l := by
  refine ⟨h.len, h.le, h.nil, ?_, h.lt⟩
  rcases h.row with h0 | ⟨b, o, h1, h2, h3⟩
  · exact .inl h0
  · by_cases h0 : n = 0
    · exact .inl h0
    · exact t.row h.row (hx h0)

theorem ActOk.below {w w' : World} {v : AV} (h : ActOk w v) (t : Below w.heap.size w w') : ActOk w' v := ⟨h.sl.below t, h.sm, h.ks⟩

theorem ActOk.turns {w w' : World} {G : Nat → Prop} {v : AV} (h : ActOk w v) (t : Turns G w w') (hx : v.n ≠ 0 → ∀ a, v.x = some a → ¬ G a.block) : ActOk w' v := ⟨h.sl.turns t hx, h.sm, h.ks⟩

theorem ActsAt.below {w w' : World} {a : Option Addr} {len : Nat} {V : Nat → AV} (h : ActsAt w a len V) (t : Below w.heap.size w w') : ActsAt w' a len V := by
  refine ⟨?_, fun i hi => (h.act i hi).below t⟩
  rcases h.row with h0 | ⟨b, o, h1, h2, h3⟩
  · exact .inl h0
  · refine .inr ⟨b, o, h1, Nat.lt_of_lt_of_le h2 t.size, fun i hi => ?_⟩
    obtain ⟨q0, q1, q2⟩ := h3 i hi
    exact ⟨(t.cell (p := ⟨b, o + i * 3, none⟩) h2).trans q0, (t.cell (p := ⟨b, o + i * 3 + 1, none⟩) h2).trans q1, (t.cell (p := ⟨b, o + i * 3 + 2, none⟩) h2).trans q2⟩

theorem ActsAt.turns {w w' : World} {G : Nat → Prop} {a : Option Addr} {len : Nat} {V : Nat → AV} (h : ActsAt w a len V) (t : Turns G w w') (ha : len ≠ 0 → ∀ ad, a = some ad → ¬ G ad.block) (hx : ∀ i, i < len → (V i).n ≠ 0 → ∀ ad, (V i).x = some ad → ¬ G ad.block) : ActsAt w' a len V := by
  refine ⟨?_, fun i hi => (h.act i hi).turns t (hx i hi)⟩
  rcases h.row with h0 | ⟨b, o, h1, h2, h3⟩
  · exact .inl h0
  · by_cases h0 : len = 0
    · exact .inl h0
    · have hb : w'.heap[b]? = w.heap[b]? := t.block b h2 (ha h0 _ h1)
      refine .inr ⟨b, o, h1, Nat.lt_of_lt_of_le h2 t.size, fun i hi => ?_⟩
      obtain ⟨q0, q1, q2⟩ := h3 i hi
      exact ⟨(World.cell?_of_block (a := ⟨b, o + i * 3, none⟩) hb).trans q0, (World.cell?_of_block (a := ⟨b, o + i * 3 + 1, none⟩) hb).trans q1, (World.cell?_of_block (a := ⟨b, o + i * 3 + 2, none⟩) hb).trans q2⟩

theorem ActsAt.take {w : World} {a : Option Addr} {len k : Nat} {V : Nat → AV} (h : ActsAt w a len V) (hk : k ≤ len) : ActsAt w a k V := by
  refine ⟨?_, fun i hi => h.act i (by omega)⟩
  rcases h.row with h0 | ⟨b, o, h1, h2, h3⟩
  · exact .inl (by omega)
  · exact .inr ⟨b, o, h1, h2, fun i hi => h3 i (by omega)⟩

theorem ActsAt.congr {w : World} {a : Option Addr} {len : Nat} {V U : Nat → AV} (h : ActsAt w a len V) (e : ∀ i, i < len → V i = U i) : ActsAt w a len U := by
  refine ⟨?_, fun i hi => by rw [← e i hi]; exact h.act i hi⟩
  rcases h.row with h0 | ⟨b, o, h1, h2, h3⟩
  · exact .inl h0
  · exact .inr ⟨b, o, h1, h2, fun i hi => by rw [← e i hi]; exact h3 i hi⟩

/- The plain acts of a list in memory. -/
def pas (V : Nat → AV) (n : Nat) : List PA := (List.range n).map fun i => pa (V i)

theorem pas_len (V : Nat → AV) (n : Nat) : (pas V n).length = n := by simp [pas]
theorem pas_succ (V : Nat → AV) (n : Nat) : pas V (n + 1) = pas V n ++ [pa (V n)] := by simp [pas, List.range_succ]
theorem pas_mem {V : Nat → AV} {n : Nat} {a : PA} (h : a ∈ pas V n) : ∃ i, i < n ∧ a = pa (V i) := by
  simp only [pas, List.mem_map, List.mem_range] at h
  obtain ⟨i, h1, h2⟩ := h
  exact ⟨i, h1, h2.symm⟩
theorem mem_pas (V : Nat → AV) {n i : Nat} (h : i < n) : pa (V i) ∈ pas V n := List.mem_map.2 ⟨i, List.mem_range.2 h, rfl⟩
theorem pas_congr {V U : Nat → AV} {n : Nat} (h : ∀ i, i < n → pa (V i) = pa (U i)) : pas V n = pas U n := List.map_congr_left fun i hi => h i (List.mem_range.1 hi)

theorem str_row (l : List Nat) : strOfNums (nums (gl l) l.length) = str l := by
  unfold strOfNums str nums
  congr 2
  rw [List.map_map]
  apply List.ext_getElem?
  intro i
  by_cases h : i < l.length
  · simp [h, gl, List.getD]
  · rw [List.getElem?_eq_none (by simp; omega), List.getElem?_eq_none (by simp; omega)]

/- string(b). -/
theorem conv_sl {w : World} {x : Option Addr} {n c : Nat} {l : List Nat} (h : Sl w x n c l) : (convert 23 9 (.slice x n c)).run Try.prog w = .ok (.string (str l)) w := by
  rw [conv_row w x n c (gl l) h.row, ← h.len, str_row]

/- []byte(s). -/
theorem conv_text (s : ByteArray) (w : World) :
    ∃ c W1, (convert 9 23 (.string s)).run Try.prog w = .ok (.slice (some ⟨w.heap.size, 0, none⟩) s.size c) W1 ∧ Hid (Below w.heap.size w W1 ∧ Sl W1 (some ⟨w.heap.size, 0, none⟩) s.size c (nat s)) := by
  have hr := Lib.run_convert_string_bytes (P := Try.prog) w 9 23 5 s Try.underlying9 Try.underlying23 Try.underlying5
  refine ⟨_, _, hr, ⟨rfl, rfl, rfl, by rw [Lib.bytesWorld_size]; omega, fun q hq => Lib.bytesWorld_at_old w _ s q hq⟩, ⟨nat_length s, ?_, (fun e => by cases e), .inr ⟨w.heap.size, 0, rfl, by rw [Lib.bytesWorld_size]; omega, fun j hj => ?_⟩, nat_lt s⟩⟩
  · exact grownCap_ge w s.size 0 5
  · rw [Nat.zero_add, Lib.bytesWorld_cell w _ s j hj]
    have h1 : j < s.data.toList.length := by rw [Array.length_toList]; exact hj
    simp [nat, gl, List.getD, List.getElem?_eq_getElem h1]

/- An append that comes up alone in a region that draws its order. -/
theorem st_append {P : Program} {w w' : World} {ops : Array Oper} {o : Oper} {a : Act} {K : Act → World → Prop} {Q : Exit → Act → World → Prop} {v' : Value} (hg : Region.wanted o (yielded ops a.tmps) = true) (s x : Operand) (t : TypeId)
    (ho : o.op = .call { callee := .builtin .append, args := #[s, x], argTypes := #[t, t] }) (v1 v2 : Value) (hs : a.eval s = v1) (hx : a.eval x = v2) (hr : (Builtin.append_ #[t, t] o.type #[v1, v2]).run P w = .ok v' w')
    (h : K (a.put o.dst v') w') : if Region.wanted o (yielded ops a.tmps) = true then Oper.wp P o a w K Q else K (a.put o.dst undef) w := by
  rw [if_pos hg]
  unfold Oper.wp execOp
  simp only [ho, resolve, invoke, builtin, Sem.run_bind, Sem.run_pure, Result.andThen_ok, List.map_toArray, List.map_cons, List.map_nil, hs, hx, hr]
  exact h

theorem below_heap {B : Nat} {a w v : World} (h : Below B a w) (e1 : v.heap = w.heap) (e2 : v.os = w.os) (e3 : v.tape = w.tape) (e4 : v.output = w.output) : Below B a v :=
  ⟨e2.trans h.os, e3.trans h.tape, e4.trans h.output, by rw [e1]; exact h.size, fun k hk => by rw [e1]; exact h.block k hk⟩

end Go.Proofs.Ytbbjklenpgkooaa
