/-
  5 texts of this proof, one behind the other: StPlain, StStr, StMem, StItem, StItems.
-/
import Derived.Test.YtbbjklenpgkooaaGreatJ10
import Derived.Test.YtbbjklenpgkooaaGreatRows
import Derived.WalkKit
import Derived.Lib.Bytealg
import Derived.Test.YtbbjklenpgkooaaGreatJ02
import Derived.Lib.ConvBytes
import Derived.Deep.QuietTactic
import Derived.BigQuiet
import Derived.Deep.Slices
import Derived.ChangeMaps5
import Derived.Test.YtbbjklenpgkooaaGreatJ01
import Derived.Test.YtbbjklenpgkooaaGreatJ03
/-
  A batch of acts as bytes, and what a reader finds in bytes: plain lists.
  Conditions: none. Nothing here names the program.
-/
namespace Go.Proofs.YtbbjklenpgkooaaGreat.St
open Wi Go.Proofs.YtbbjklenpgkooaaGreat

structure PA where
  key : List Nat
  set : Bool
  data : List Nat

def encA (a : PA) : List Nat := uv a.key.length ++ a.key ++ (if a.set = true then 1 :: (uv a.data.length ++ a.data) else [0])

def encL (l : List PA) : List Nat := l.flatMap encA

def enc (l : List PA) : List Nat := uv l.length ++ encL l

theorem encL_snoc (l : List PA) (a : PA) : encL (l ++ [a]) = encL l ++ encA a := by simp [encL]

def okA (a : PA) : Prop := (1 ≤ a.key.length ∧ a.key.length ≤ 64) ∧ a.data.length ≤ (if a.set = true then 4096 else 0)

def okL (l : List PA) : Prop := ∀ a ∈ l, okA a

def rAct (l : List Nat) (e : Nat) : PA × List Nat × Nat :=
  if (rNum 1 (rBy 64 l e).2.1 (rBy 64 l e).2.2).1 = 1 then
    (⟨(rBy 64 l e).1, true, (rBy 4096 (rNum 1 (rBy 64 l e).2.1 (rBy 64 l e).2.2).2.1 (rNum 1 (rBy 64 l e).2.1 (rBy 64 l e).2.2).2.2).1⟩,
      (rBy 4096 (rNum 1 (rBy 64 l e).2.1 (rBy 64 l e).2.2).2.1 (rNum 1 (rBy 64 l e).2.1 (rBy 64 l e).2.2).2.2).2.1,
      (rBy 4096 (rNum 1 (rBy 64 l e).2.1 (rBy 64 l e).2.2).2.1 (rNum 1 (rBy 64 l e).2.1 (rBy 64 l e).2.2).2.2).2.2)
  else (⟨(rBy 64 l e).1, false, []⟩, (rNum 1 (rBy 64 l e).2.1 (rBy 64 l e).2.2).2.1, (rNum 1 (rBy 64 l e).2.1 (rBy 64 l e).2.2).2.2)

def rActs : Nat → List Nat → Nat → List PA × List Nat × Nat
  | 0, l, e => ([], l, e)
  | n + 1, l, e => ((rActs n l e).1 ++ [(rAct (rActs n l e).2.1 (rActs n l e).2.2).1], (rAct (rActs n l e).2.1 (rActs n l e).2.2).2.1, (rAct (rActs n l e).2.1 (rActs n l e).2.2).2.2)

theorem rActs_len (l : List Nat) (e : Nat) : ∀ n, (rActs n l e).1.length = n
  | 0 => rfl
  | n + 1 => by simp [rActs, rActs_len l e n]

/- What is read without a fault stands there in its one form. -/
theorem rUv_form {l : List Nat} {e : Nat} (hl : ∀ v ∈ l, v < 256) (h : (rUv l e).2.2 = 0) : e = 0 ∧ l = uv (rUv l e).1 ++ (rUv l e).2.1 := by
  by_cases he : e = 0
  · subst he
    refine ⟨rfl, ?_⟩
    cases h2 : lead l with
    | none => rw [rUv_no h2] at h; cases h
    | some q =>
      obtain ⟨n, k⟩ := q
      rw [rUv_yes h2]
      have := lead_canon hl h2
      show l = uv n ++ l.drop k
      rw [← this.1, List.take_append_drop]
  · rw [rUv_bad he] at h
    exact absurd h he

theorem rNum_form {t : Int} {l : List Nat} {e : Nat} (hl : ∀ v ∈ l, v < 256) (h : (rNum t l e).2.2 = 0) : e = 0 ∧ l = uv (rNum t l e).1 ++ (rNum t l e).2.1 ∧ ((rNum t l e).1 : Int) ≤ t := by
  by_cases he : e = 0
  · subst he
    by_cases h2 : (rUv l 0).2.2 = 0
    · by_cases ht : t < 0 ∨ t < ((rUv l 0).1 : Int)
      · rw [rNum_long h2 ht] at h; cases h
      · rw [rNum_yes h2 ht]
        exact ⟨rfl, (rUv_form hl h2).2, by omega⟩
    · rw [rNum_no h2] at h
      exact absurd h h2
  · rw [rNum_bad he] at h
    exact absurd h he

theorem rNum_most (t : Int) (l : List Nat) (e : Nat) (ht : 0 ≤ t) : ((rNum t l e).1 : Int) ≤ t := by
  by_cases he : e = 0
  · subst he
    by_cases h2 : (rUv l 0).2.2 = 0
    · by_cases h3 : t < 0 ∨ t < ((rUv l 0).1 : Int)
      · rw [rNum_long h2 h3]; exact ht
      · rw [rNum_yes h2 h3]; omega
    · rw [rNum_no h2]; exact ht
  · rw [rNum_bad he]; exact ht

theorem rBy_form {t : Int} {l : List Nat} {e : Nat} (hl : ∀ v ∈ l, v < 256) (h : (rBy t l e).2.2 = 0) : e = 0 ∧ l = uv (rBy t l e).1.length ++ (rBy t l e).1 ++ (rBy t l e).2.1 := by
  by_cases he : e = 0
  · subst he
    by_cases h2 : (rNum t l 0).2.2 = 0
    · obtain ⟨_, q1, q2⟩ := rNum_form hl h2
      by_cases h3 : (rNum t l 0).2.1.length < (rNum t l 0).1
      · rw [rBy_few h2 h3] at h; cases h
      · rw [rBy_yes h2 (by omega)]
        refine ⟨rfl, ?_⟩
        show l = uv ((rNum t l 0).2.1.take (rNum t l 0).1).length ++ (rNum t l 0).2.1.take (rNum t l 0).1 ++ (rNum t l 0).2.1.drop (rNum t l 0).1
        rw [List.length_take, Nat.min_eq_left (by omega), List.append_assoc, List.take_append_drop]
        exact q1
    · rw [rBy_no h2] at h
      exact absurd h h2
  · rw [rBy_bad he] at h
    exact absurd h he

theorem rBy_most (t : Int) (l : List Nat) (e : Nat) (ht : 0 ≤ t) : ((rBy t l e).1.length : Int) ≤ t := by
  by_cases he : e = 0
  · subst he
    by_cases h2 : (rNum t l 0).2.2 = 0
    · by_cases h3 : (rNum t l 0).2.1.length < (rNum t l 0).1
      · rw [rBy_few h2 h3]; exact ht
      · rw [rBy_yes h2 (by omega)]
        have := rNum_most t l 0 ht
        show ((((rNum t l 0).2.1.take (rNum t l 0).1).length : Nat) : Int) ≤ t
        rw [List.length_take]
        omega
    · rw [rBy_no h2]; exact ht
  · rw [rBy_bad he]; exact ht

theorem rBy_lt (t : Int) (l : List Nat) (e : Nat) (hl : ∀ v ∈ l, v < 256) : ∀ v ∈ (rBy t l e).1, v < 256 := by
  have hn : ∀ u ∈ (rNum t l e).2.1, u < 256 := by
    intro u hu
    have hd : ∃ k, (rNum t l e).2.1 = l.drop k := by
      by_cases he : e = 0
      · subst he
        by_cases h2 : (rUv l 0).2.2 = 0
        · by_cases h3 : t < 0 ∨ t < ((rUv l 0).1 : Int)
          · rw [rNum_long h2 h3]; exact ⟨0, rfl⟩
          · rw [rNum_yes h2 h3]; exact rUv_drop l 0
        · rw [rNum_no h2]; exact rUv_drop l 0
      · rw [rNum_bad he]; exact ⟨0, rfl⟩
    obtain ⟨k, hk⟩ := hd
    rw [hk] at hu
    exact hl u (List.mem_of_mem_drop hu)
  intro v hv
  by_cases he : e = 0
  · subst he
    by_cases h2 : (rNum t l 0).2.2 = 0
    · by_cases h3 : (rNum t l 0).2.1.length < (rNum t l 0).1
      · rw [rBy_few h2 h3] at hv; cases hv
      · rw [rBy_yes h2 (by omega)] at hv
        exact hn v (List.mem_of_mem_take hv)
    · rw [rBy_no h2] at hv; cases hv
  · rw [rBy_bad he] at hv; cases hv

theorem rAct_form {l : List Nat} {e : Nat} (hl : ∀ v ∈ l, v < 256) (h : (rAct l e).2.2 = 0) : e = 0 ∧ l = encA (rAct l e).1 ++ (rAct l e).2.1 := by
  unfold rAct at h ⊢
  generalize hk : rBy 64 l e = K at h ⊢
  obtain ⟨k, l1, e1⟩ := K
  dsimp only at h ⊢
  generalize hm : rNum 1 l1 e1 = M at h ⊢
  obtain ⟨m, l2, e2⟩ := M
  dsimp only at h ⊢
  have fk := fun h0 => rBy_form (t := 64) (l := l) (e := e) hl h0
  rw [hk] at fk
  dsimp only at fk
  by_cases h1 : m = 1
  · rw [if_pos h1] at h ⊢
    generalize hd : rBy 4096 l2 e2 = Dd at h ⊢
    obtain ⟨d, l3, e3⟩ := Dd
    dsimp only at h ⊢
    subst h
    have hz : e1 = 0 ∨ e1 ≠ 0 := by omega
    have e2z : e2 = 0 := by
      rcases Nat.eq_zero_or_pos e2 with h0 | h0
      · exact h0
      · rw [rBy_bad (by omega)] at hd
        injection hd with _ hd
        injection hd with _ hd
    subst e2z
    have e1z : e1 = 0 := by
      rcases hz with h0 | h0
      · exact h0
      · rw [rNum_bad h0] at hm
        injection hm with _ hm
        injection hm with _ hm
    subst e1z
    obtain ⟨e0, q1⟩ := fk rfl
    have hl1 : ∀ v ∈ l1, v < 256 := fun v hv => hl v (by rw [q1]; exact List.mem_append_right _ hv)
    have fm := rNum_form (t := 1) (l := l1) (e := 0) hl1 (by rw [hm])
    rw [hm] at fm
    obtain ⟨_, q2, _⟩ := fm
    dsimp only at q2
    have hl2 : ∀ v ∈ l2, v < 256 := fun v hv => hl1 v (by rw [q2]; exact List.mem_append_right _ hv)
    have fd := rBy_form (t := 4096) (l := l2) (e := 0) hl2 (by rw [hd])
    rw [hd] at fd
    obtain ⟨_, q3⟩ := fd
    dsimp only at q3
    refine ⟨e0, ?_⟩
    unfold encA
    dsimp only
    rw [if_pos rfl]
    conv => lhs; rw [q1, q2, q3, h1, uv_small (show 1 < 128 by omega)]
    simp
  · rw [if_neg h1] at h ⊢
    dsimp only at h ⊢
    subst h
    have e1z : e1 = 0 := by
      rcases Nat.eq_zero_or_pos e1 with h0 | h0
      · exact h0
      · rw [rNum_bad (by omega)] at hm
        injection hm with _ hm
        injection hm with _ hm
    subst e1z
    obtain ⟨e0, q1⟩ := fk rfl
    have hl1 : ∀ v ∈ l1, v < 256 := fun v hv => hl v (by rw [q1]; exact List.mem_append_right _ hv)
    have fm := rNum_form (t := 1) (l := l1) (e := 0) hl1 (by rw [hm])
    rw [hm] at fm
    obtain ⟨_, q2, q3⟩ := fm
    dsimp only at q2 q3
    have hm0 : m = 0 := by omega
    refine ⟨e0, ?_⟩
    unfold encA
    dsimp only
    rw [if_neg (by simp)]
    conv => lhs; rw [q1, q2, hm0, uv_small (show 0 < 128 by omega)]
    simp

theorem rActs_form {l : List Nat} {e : Nat} (hl : ∀ v ∈ l, v < 256) : ∀ n, (rActs n l e).2.2 = 0 → e = 0 ∧ l = encL (rActs n l e).1 ++ (rActs n l e).2.1
  | 0, h => ⟨h, by simp [rActs, encL]⟩
  | n + 1, h => by
    have hq : ∀ v ∈ (rActs n l e).2.1, v < 256 := by
      clear h
      induction n with
      | zero => exact hl
      | succ n ih =>
        intro v hv
        simp only [rActs] at hv
        refine ih v ?_
        clear ih
        have hd : ∀ (t : Int) (q : List Nat) (u : Nat), ∃ k, (rNum t q u).2.1 = q.drop k := fun t q u => by
          by_cases he : u = 0
          · subst he
            by_cases h2 : (rUv q 0).2.2 = 0
            · by_cases h3 : t < 0 ∨ t < ((rUv q 0).1 : Int)
              · rw [rNum_long h2 h3]; exact ⟨0, rfl⟩
              · rw [rNum_yes h2 h3]; exact rUv_drop q 0
            · rw [rNum_no h2]; exact rUv_drop q 0
          · rw [rNum_bad he]; exact ⟨0, rfl⟩
        have hb : ∀ (t : Int) (q : List Nat) (u : Nat), ∃ k, (rBy t q u).2.1 = q.drop k := fun t q u => by
          by_cases he : u = 0
          · subst he
            by_cases h2 : (rNum t q 0).2.2 = 0
            · by_cases h3 : (rNum t q 0).2.1.length < (rNum t q 0).1
              · rw [rBy_few h2 h3]; exact ⟨0, rfl⟩
              · rw [rBy_yes h2 (by omega)]
                obtain ⟨k, hk⟩ := hd t q 0
                exact ⟨k + (rNum t q 0).1, by show (rNum t q 0).2.1.drop _ = _; rw [hk, List.drop_drop]⟩
            · rw [rBy_no h2]; exact hd t q 0
          · rw [rBy_bad he]; exact ⟨0, rfl⟩
        have ha : ∀ (q : List Nat) (u : Nat), ∃ k, (rAct q u).2.1 = q.drop k := fun q u => by
          unfold rAct
          obtain ⟨k1, h1⟩ := hb 64 q u
          obtain ⟨k2, h2⟩ := hd 1 (rBy 64 q u).2.1 (rBy 64 q u).2.2
          obtain ⟨k3, h3⟩ := hb 4096 (rNum 1 (rBy 64 q u).2.1 (rBy 64 q u).2.2).2.1 (rNum 1 (rBy 64 q u).2.1 (rBy 64 q u).2.2).2.2
          split
          · exact ⟨k1 + (k2 + k3), by show (rBy 4096 _ _).2.1 = _; rw [h3, h2, h1, List.drop_drop, List.drop_drop]⟩
          · exact ⟨k1 + k2, by show (rNum 1 _ _).2.1 = _; rw [h2, h1, List.drop_drop]⟩
        obtain ⟨k, hk⟩ := ha (rActs n l e).2.1 (rActs n l e).2.2
        rw [hk] at hv
        exact List.mem_of_mem_drop hv
    obtain ⟨h1, h2⟩ := rAct_form hq (by simpa [rActs] using h)
    obtain ⟨h3, h4⟩ := rActs_form hl n h1
    refine ⟨h3, ?_⟩
    simp only [rActs]
    rw [encL_snoc, List.append_assoc, ← h2]
    exact h4

/- What was written is read back. -/
theorem rUv_again {N : Nat} (hN : N < 18446744073709551616) (r : List Nat) : rUv (uv N ++ r) 0 = (N, r, 0) := by
  rw [rUv_yes (lead_uv hN r), List.drop_left]

theorem rNum_again {t : Int} {N : Nat} (hN : N < 18446744073709551616) (ht : (N : Int) ≤ t) (r : List Nat) : rNum t (uv N ++ r) 0 = (N, r, 0) := by
  have e := rUv_again hN r
  rw [rNum_yes (by rw [e]) (by rw [e]; omega), e]

theorem rBy_again {t : Int} (k r : List Nat) (hk : k.length < 18446744073709551616) (ht : (k.length : Int) ≤ t) : rBy t (uv k.length ++ k ++ r) 0 = (k, r, 0) := by
  have e2 : rNum t (uv k.length ++ k ++ r) 0 = (k.length, k ++ r, 0) := by rw [List.append_assoc]; exact rNum_again hk ht _
  rw [rBy_yes (by rw [e2]) (by rw [e2]; simp), e2]
  simp

theorem rAct_again (a : PA) (r : List Nat) (h : okA a) : rAct (encA a ++ r) 0 = (a, r, 0) := by
  obtain ⟨⟨h1, h2⟩, h3⟩ := h
  obtain ⟨k, s, d⟩ := a
  dsimp only at h1 h2 h3
  unfold rAct encA
  dsimp only
  cases s with
  | true =>
    rw [if_pos rfl] at h3 ⊢
    have e1 : rBy 64 (uv k.length ++ k ++ 1 :: (uv d.length ++ d) ++ r) 0 = (k, 1 :: (uv d.length ++ d) ++ r, 0) := by
      rw [List.append_assoc (uv k.length ++ k)]
      exact rBy_again k _ (by omega) (by omega)
    have e2 : rNum 1 (1 :: (uv d.length ++ d) ++ r) 0 = (1, uv d.length ++ d ++ r, 0) := by
      have := rNum_again (t := 1) (N := 1) (by omega) (by omega) (uv d.length ++ d ++ r)
      rw [uv_small (show 1 < 128 by omega)] at this
      exact this
    have e3 : rBy 4096 (uv d.length ++ d ++ r) 0 = (d, r, 0) := rBy_again d _ (by omega) (by omega)
    rw [e1]
    dsimp only
    rw [e2]
    dsimp only
    rw [e3]
    simp
  | false =>
    rw [if_neg (show ¬ (false = true) by simp)] at h3 ⊢
    have e1 : rBy 64 (uv k.length ++ k ++ [0] ++ r) 0 = (k, [0] ++ r, 0) := by
      rw [List.append_assoc (uv k.length ++ k)]
      exact rBy_again k _ (by omega) (by omega)
    have e2 : rNum 1 ([0] ++ r) 0 = (0, r, 0) := by
      have := rNum_again (t := 1) (N := 0) (by omega) (by omega) r
      rw [uv_small (show 0 < 128 by omega)] at this
      exact this
    have hd : d = [] := List.eq_nil_of_length_eq_zero (by omega)
    rw [e1]
    dsimp only
    rw [e2, hd]
    simp

theorem rActs_again : ∀ n (l : List PA), l.length = n → okL l → ∀ r, rActs n (encL l ++ r) 0 = (l, r, 0)
  | 0, l, h, _, r => by
    obtain rfl := List.eq_nil_of_length_eq_zero h
    simp [rActs, encL]
  | n + 1, l, h, ho, r => by
    rcases List.eq_nil_or_concat l with e | ⟨L, b, e⟩
    · subst e; cases h
    · rw [List.concat_eq_append] at e
      subst e
      have hL : L.length = n := by simpa using h
      have := rActs_again n L hL (fun a ha => ho a (List.mem_append_left _ ha)) (encA b ++ r)
      simp only [rActs]
      rw [encL_snoc, List.append_assoc, this]
      dsimp only
      rw [rAct_again b r (ho b (by simp))]

/- The batch of bytes. -/
def rd (b : List Nat) : List PA × List Nat × Nat := rActs (rNum 256 b 0).1 (rNum 256 b 0).2.1 (rNum 256 b 0).2.2

theorem rd_len (b : List Nat) : (rd b).1.length ≤ 256 := by
  unfold rd
  rw [rActs_len]
  have := rNum_most 256 b 0 (by omega)
  omega

theorem rd_iff (b : List Nat) (hb : ∀ v ∈ b, v < 256) (ho : okL (rd b).1) : rDone (rd b).2.1 (rd b).2.2 = 0 ↔ enc (rd b).1 = b := by
  constructor
  · intro h
    have he : (rd b).2.2 = 0 ∧ (rd b).2.1 = [] := by
      unfold rDone at h
      by_cases h1 : (rd b).2.2 = 0
      · rw [if_neg (by omega)] at h
        by_cases h2 : 0 < (rd b).2.1.length
        · rw [if_pos h2] at h; cases h
        · exact ⟨h1, List.eq_nil_of_length_eq_zero (by omega)⟩
      · rw [if_pos h1] at h
        exact absurd h h1
    unfold rd at he ⊢
    have hq : ∀ v ∈ (rNum 256 b 0).2.1, v < 256 := by
      intro v hv
      by_cases h2 : (rNum 256 b 0).2.2 = 0
      · have := (rNum_form hb h2).2.1
        exact hb v (by rw [this]; exact List.mem_append_right _ hv)
      · by_cases h3 : (rUv b 0).2.2 = 0
        · by_cases h4 : (256 : Int) < 0 ∨ (256 : Int) < ((rUv b 0).1 : Int)
          · rw [rNum_long h3 h4] at hv; exact hb v hv
          · rw [rNum_yes h3 h4] at h2; exact absurd h3 h2
        · rw [rNum_no h3] at hv
          obtain ⟨k, hk⟩ := rUv_drop b 0
          rw [hk] at hv
          exact hb v (List.mem_of_mem_drop hv)
    obtain ⟨h1, h2⟩ := rActs_form hq _ he.1
    rw [he.2, List.append_nil] at h2
    have h3 := (rNum_form hb h1).2.1
    unfold enc
    rw [rActs_len, ← h2]
    exact h3.symm
  · intro h
    have hlen := rd_len b
    have h1 : rNum 256 b 0 = ((rd b).1.length, encL (rd b).1, 0) := by
      have := rNum_again (t := 256) (N := (rd b).1.length) (by omega) (by omega) (encL (rd b).1)
      have e : uv (rd b).1.length ++ encL (rd b).1 = b := h
      rwa [e] at this
    have h2 : rd b = ((rd b).1, [], 0) := by
      have := rActs_again _ (rd b).1 rfl ho []
      rw [List.append_nil] at this
      conv => lhs; unfold rd; rw [h1]
      exact this
    rw [h2]
    rfl

theorem rd_enc (l : List PA) (hl : l.length ≤ 256) (ho : okL l) : rd (enc l) = (l, [], 0) := by
  have h1 : rNum 256 (enc l) 0 = (l.length, encL l, 0) := rNum_again (t := 256) (by omega) (by omega) _
  unfold rd
  rw [h1]
  have := rActs_again _ l rfl ho []
  rw [List.append_nil] at this
  exact this

theorem encA_lt {a : PA} (hk : ∀ v ∈ a.key, v < 256) (hd : ∀ v ∈ a.data, v < 256) : ∀ v ∈ encA a, v < 256 := by
  intro v hv
  unfold encA at hv
  rw [List.mem_append, List.mem_append] at hv
  rcases hv with (hv | hv) | hv
  · exact uv_lt _ v hv
  · exact hk v hv
  · split at hv
    · rcases List.mem_cons.1 hv with hv | hv
      · omega
      · rcases List.mem_append.1 hv with hv | hv
        · exact uv_lt _ v hv
        · exact hd v hv
    · simp at hv; omega

theorem encA_len {a : PA} (h : okA a) : (encA a).length ≤ 4182 := by
  obtain ⟨⟨_, h1⟩, h2⟩ := h
  have u1 := uv_ten (n := a.key.length) (by omega)
  have u2 := uv_ten (n := a.data.length) (by split at h2 <;> omega)
  unfold encA
  split
  · rename_i hs
    rw [if_pos hs] at h2
    simp only [List.length_append, List.length_cons]
    omega
  · simp only [List.length_append, List.length_cons, List.length_nil]
    omega

theorem encL_len : ∀ l : List PA, okL l → (encL l).length ≤ 4182 * l.length
  | [], _ => by simp [encL]
  | a :: l, h => by
    have h1 := encL_len l (fun b hb => h b (List.mem_cons_of_mem _ hb))
    have h2 := encA_len (h a List.mem_cons_self)
    simp only [encL, List.flatMap_cons, List.length_append, List.length_cons] at *
    omega

/- What Encode tells: an error's number and bytes. -/
def EncSays (l : List PA) (c : Nat) (o : List Nat) : Prop :=
  (¬ (l.length ≤ 256 ∧ okL l) ∧ c = 1 ∧ o = []) ∨ ((l.length ≤ 256 ∧ okL l) ∧ 13005 < (enc l).length ∧ c = 3 ∧ o = []) ∨ ((l.length ≤ 256 ∧ okL l) ∧ (enc l).length ≤ 13005 ∧ c = 0 ∧ o = enc l)

theorem enc_says (l : List PA) : ∃ c o, EncSays l c o := by
  by_cases h : l.length ≤ 256 ∧ okL l
  · by_cases h2 : 13005 < (enc l).length
    · exact ⟨3, [], .inr (.inl ⟨h, h2, rfl, rfl⟩)⟩
    · exact ⟨0, enc l, .inr (.inr ⟨h, by omega, rfl, rfl⟩)⟩
  · exact ⟨1, [], .inl ⟨h, rfl, rfl⟩⟩

theorem enc_len {l : List PA} (h : l.length ≤ 256) (ho : okL l) : (enc l).length ≤ 1070610 := by
  have h1 := encL_len l ho
  have h2 := uv_ten (n := l.length) (by omega)
  unfold enc
  rw [List.length_append]
  omega

theorem enc_lt {l : List PA} (h : ∀ a ∈ l, (∀ v ∈ a.key, v < 256) ∧ ∀ v ∈ a.data, v < 256) : ∀ v ∈ enc l, v < 256 := by
  intro v hv
  unfold enc at hv
  rcases List.mem_append.1 hv with hv | hv
  · exact uv_lt _ v hv
  · unfold encL at hv
    obtain ⟨a, ha, hv⟩ := List.mem_flatMap.1 hv
    exact encA_lt (h a ha).1 (h a ha).2 v hv

/- What Decode tells. -/
def DecSays (b : List Nat) (c : Nat) (l : List PA) : Prop :=
  ((b.length ≤ 13005 ∧ okL (rd b).1 ∧ rDone (rd b).2.1 (rd b).2.2 = 0) ∧ c = 0 ∧ l = (rd b).1) ∨ (¬ (b.length ≤ 13005 ∧ okL (rd b).1 ∧ rDone (rd b).2.1 (rd b).2.2 = 0) ∧ c = 5 ∧ l = [])

theorem dec_says (b : List Nat) : ∃ c l, DecSays b c l := by
  by_cases h : b.length ≤ 13005 ∧ okL (rd b).1 ∧ rDone (rd b).2.1 (rd b).2.2 = 0
  · exact ⟨0, (rd b).1, .inl ⟨h, rfl, rfl⟩⟩
  · exact ⟨5, [], .inr ⟨h, rfl, rfl⟩⟩

theorem dec_enc {l : List PA} (h : l.length ≤ 256) (ho : okL l) (hl : (enc l).length ≤ 13005) : DecSays (enc l) 0 l := by
  have := rd_enc l h ho
  refine .inl ⟨⟨hl, ?_, ?_⟩, rfl, ?_⟩
  · rw [this]; exact ho
  · rw [this]; rfl
  · rw [this]

end Go.Proofs.YtbbjklenpgkooaaGreat.St

/-
  A text's bytes as plain numbers, and their order.
  Conditions: none.
-/
namespace Go.Proofs.YtbbjklenpgkooaaGreat.St
set_option linter.unusedVariables false
set_option linter.unusedSimpArgs false
set_option maxRecDepth 100000

def nat (s : ByteArray) : List Nat := s.data.toList.map UInt8.toNat

theorem nat_length (s : ByteArray) : (nat s).length = s.size := by
  unfold nat
  rw [List.length_map, Array.length_toList]
  rfl

theorem nat_lt (s : ByteArray) : ∀ x ∈ nat s, x < 256 := by
  intro x hx
  obtain ⟨b, _, rfl⟩ := List.mem_map.1 hx
  exact b.toNat_lt

theorem nat_get (s : ByteArray) (i : Nat) (h : i < s.size) : (s[i]'h).toNat = (nat s).getD i 0 := by
  have h1 : i < s.data.toList.length := by rw [Array.length_toList]; exact h
  have e : s.data.toList[i]? = some (s[i]'h) := by
    rw [List.getElem?_eq_getElem h1]
    rfl
  simp [nat, List.getD, e]

theorem nat_inj {s t : ByteArray} (h : nat s = nat t) : s = t := by
  have : s.data.toList = t.data.toList := by
    refine List.map_inj_right (f := UInt8.toNat) ?_ |>.1 h
    intro a b e
    exact UInt8.toNat_inj.1 e
  exact ByteArray.ext (Array.toList_inj.1 this)

theorem nat_toList (s : ByteArray) : s.toList = s.data.toList := ByteArray.toList_eq s

theorem beq_nat (s t : ByteArray) (b : Bool) (h : nat s = nat t ↔ b = true) : (s.toList == t.toList) = b := by
  rw [nat_toList, nat_toList]
  cases b with
  | true =>
    have := nat_inj (h.2 rfl)
    subst this
    simp
  | false =>
    have hne : s.data.toList ≠ t.data.toList := fun e => by
      have := h.1 (by unfold nat; rw [e])
      cases this
    simpa using hne

theorem nat_extract (s : ByteArray) (a b : Nat) : nat (s.extract a b) = ((nat s).take b).drop a := by
  unfold nat
  rw [ByteArray.data_extract, Array.toList_extract]
  simp [List.extract_eq_take_drop, List.map_drop, List.map_take, List.drop_take]

def str (l : List Nat) : ByteArray := ⟨(l.map UInt8.ofNat).toArray⟩

theorem nat_str {l : List Nat} (h : ∀ x ∈ l, x < 256) : nat (str l) = l := by
  unfold nat str
  simp only [List.map_map]
  conv => rhs; rw [← List.map_id l]
  refine List.map_congr_left fun x hx => ?_
  simp [Function.comp, UInt8.toNat_ofNat', Nat.mod_eq_of_lt (h x hx)]

theorem str_nat (s : ByteArray) : str (nat s) = s := nat_inj (nat_str (nat_lt s))

theorem str_size (l : List Nat) : (str l).size = l.length := by
  show (l.map UInt8.ofNat).toArray.size = l.length
  simp

def lessN : List Nat → List Nat → Bool
  | _, [] => false
  | [], _ :: _ => true
  | a :: x, b :: y => decide (a < b) || (a == b && lessN x y)

theorem less_map : ∀ x y : List UInt8, Op.bytesLess x y = lessN (x.map UInt8.toNat) (y.map UInt8.toNat)
  | [], [] => rfl
  | _ :: _, [] => rfl
  | [], _ :: _ => rfl
  | a :: x, b :: y => by
    simp only [Op.bytesLess, List.map_cons, lessN, less_map x y]
    congr 1
    congr 1
    rw [Bool.eq_iff_iff]
    simp [UInt8.toNat_inj]

theorem less_nat (s t : ByteArray) : Op.bytesLess s.toList t.toList = lessN (nat s) (nat t) := by
  rw [nat_toList, nat_toList, less_map]
  rfl

theorem less_cons (a b : Nat) (x y : List Nat) : lessN (a :: x) (b :: y) = true ↔ a < b ∨ (a = b ∧ lessN x y = true) := by
  simp [lessN]

theorem less_irrefl : ∀ x : List Nat, lessN x x = false
  | [] => rfl
  | a :: x => by simp [lessN, less_irrefl x]

theorem less_trans : ∀ x y z : List Nat, lessN x y = true → lessN y z = true → lessN x z = true
  | _, [], _, h, _ => by cases ‹List Nat› <;> simp [lessN] at h
  | _, _ :: _, [], _, h => by simp [lessN] at h
  | [], _ :: _, _ :: _, _, _ => rfl
  | a :: x, b :: y, c :: z, h, k => by
    rw [less_cons] at h k ⊢
    rcases h with h | ⟨h, h'⟩
    · rcases k with k | ⟨k, k'⟩
      · exact .inl (by omega)
      · exact .inl (by omega)
    · rcases k with k | ⟨k, k'⟩
      · exact .inl (by omega)
      · exact .inr ⟨by omega, less_trans x y z h' k'⟩

theorem less_asym (x y : List Nat) (h : lessN x y = true) : lessN y x = false := by
  cases hh : lessN y x with
  | false => rfl
  | true =>
    have := less_trans x y x h hh
    rw [less_irrefl] at this
    cases this

theorem less_total : ∀ x y : List Nat, x ≠ y → lessN x y ≠ lessN y x
  | [], [], h => absurd rfl h
  | [], _ :: _, _ => by simp [lessN]
  | _ :: _, [], _ => by simp [lessN]
  | a :: x, b :: y, h => by
    intro e
    by_cases hab : a < b
    · have h1 : lessN (a :: x) (b :: y) = true := (less_cons ..).2 (.inl hab)
      have h2 := less_asym _ _ h1
      rw [h1, h2] at e
      cases e
    · by_cases hba : b < a
      · have h1 : lessN (b :: y) (a :: x) = true := (less_cons ..).2 (.inl hba)
        have h2 := less_asym _ _ h1
        rw [h1, h2] at e
        cases e
      · obtain rfl : a = b := by omega
        refine less_total x y (fun hx => h (by rw [hx])) ?_
        simpa [lessN] using e

theorem less_left : ∀ x y z : List Nat, lessN (x ++ y) (x ++ z) = lessN y z
  | [], _, _ => rfl
  | a :: x, y, z => by
    simp only [List.cons_append, lessN]
    rw [less_left x y z]
    simp


theorem compare_nat : ∀ x y : List UInt8, (Lib.compareBytes x y < 0 ↔ lessN (x.map UInt8.toNat) (y.map UInt8.toNat) = true)
  | [], [] => by simp [Lib.compareBytes, lessN]
  | _ :: _, [] => by simp [Lib.compareBytes, lessN]
  | [], _ :: _ => by simp [Lib.compareBytes, lessN]
  | a :: x, b :: y => by
    have ih := compare_nat x y
    simp only [List.map_cons]
    rw [less_cons]
    have e1 : (a < b) = (a.toNat < b.toNat) := rfl
    have e2 : (b < a) = (b.toNat < a.toNat) := rfl
    unfold Lib.compareBytes
    by_cases h1 : a < b
    · rw [if_pos h1]
      rw [e1] at h1
      simp [h1]
    · rw [if_neg h1]
      rw [e1] at h1
      by_cases h2 : b < a
      · rw [if_pos h2]
        rw [e2] at h2
        constructor
        · intro h; omega
        · rintro (h | ⟨h, _⟩) <;> omega
      · rw [if_neg h2, ih]
        rw [e2] at h2
        have e : a.toNat = b.toNat := by omega
        simp [e]

end Go.Proofs.YtbbjklenpgkooaaGreat.St

/-
  Acts as they lie in memory; a text's bytes made into a list; a part of a text.
  Conditions: none.
-/
namespace Go.Proofs.YtbbjklenpgkooaaGreat
open Go.RowKit By Dk Wi St
set_option linter.unusedVariables false
set_option linter.unusedSimpArgs false
set_option maxRecDepth 100000

structure AV where
  key : ByteArray
  set : Bool
  x : Option Addr
  n : Nat
  c : Nat
  d : List Nat

def pa (v : AV) : PA := ⟨nat v.key, v.set, v.d⟩

structure ActOk (w : World) (v : AV) : Prop where
  sl : Sl w v.x v.n v.c v.d
  sm : v.n ≤ 140737488351232
  ks : v.key.size ≤ 140737488351232

structure ActsAt (w : World) (a : Option Addr) (len : Nat) (V : Nat → AV) : Prop where
  row : len = 0 ∨ ∃ b o, a = some ⟨b, o, none⟩ ∧ b < w.heap.size ∧ ∀ i, i < len → w.cell? ⟨b, o + i * 3, none⟩ = some (.string (V i).key) ∧ w.cell? ⟨b, o + i * 3 + 1, none⟩ = some (.bool (V i).set) ∧ w.cell? ⟨b, o + i * 3 + 2, none⟩ = some (.slice (V i).x (V i).n (V i).c)
  act : ∀ i, i < len → ActOk w (V i)

theorem Sl.turns {w w' : World} {G : Nat → Prop} {x : Option Addr} {n c : Nat} {l : List Nat} (h : Sl w x n c l) (t : Turns G w w') (hx : n ≠ 0 → ∀ a, x = some a → ¬ G a.block) : Sl w' x n c l := by
  refine ⟨h.len, h.le, h.nil, ?_, h.lt⟩
  rcases h.row with h0 | ⟨b, o, h1, h2, h3⟩
  · exact .inl h0
  · by_cases h0 : n = 0
    · exact .inl h0
    · exact t.row h.row (hx h0)

theorem ActOk.below {w w' : World} {v : AV} (h : ActOk w v) (t : Below w.heap.size w w') : ActOk w' v := ⟨h.sl.below t, h.sm, h.ks⟩

theorem ActOk.turns {w w' : World} {G : Nat → Prop} {v : AV} (h : ActOk w v) (t : Turns G w w') (hx : v.n ≠ 0 → ∀ a, v.x = some a → ¬ G a.block) : ActOk w' v := ⟨h.sl.turns t hx, h.sm, h.ks⟩

theorem ActsAt.below {w w' : World} {a : Option Addr} {len : Nat} {V : Nat → AV} (h : ActsAt w a len V) (t : Below w.heap.size w w') : ActsAt w' a len V := by
  refine ⟨?_, fun i hi => (h.act i hi).below t⟩
  rcases h.row with h0 | ⟨b, o, h1, h2, h3⟩
  · exact .inl h0
  · refine .inr ⟨b, o, h1, Nat.lt_of_lt_of_le h2 t.size, fun i hi => ?_⟩
    obtain ⟨q0, q1, q2⟩ := h3 i hi
    exact ⟨(t.cell (p := ⟨b, o + i * 3, none⟩) h2).trans q0, (t.cell (p := ⟨b, o + i * 3 + 1, none⟩) h2).trans q1, (t.cell (p := ⟨b, o + i * 3 + 2, none⟩) h2).trans q2⟩

theorem ActsAt.turns {w w' : World} {G : Nat → Prop} {a : Option Addr} {len : Nat} {V : Nat → AV} (h : ActsAt w a len V) (t : Turns G w w') (ha : len ≠ 0 → ∀ ad, a = some ad → ¬ G ad.block) (hx : ∀ i, i < len → (V i).n ≠ 0 → ∀ ad, (V i).x = some ad → ¬ G ad.block) : ActsAt w' a len V := by
  refine ⟨?_, fun i hi => (h.act i hi).turns t (hx i hi)⟩
  rcases h.row with h0 | ⟨b, o, h1, h2, h3⟩
  · exact .inl h0
  · by_cases h0 : len = 0
    · exact .inl h0
    · have hb : w'.heap[b]? = w.heap[b]? := t.block b h2 (ha h0 _ h1)
      refine .inr ⟨b, o, h1, Nat.lt_of_lt_of_le h2 t.size, fun i hi => ?_⟩
      obtain ⟨q0, q1, q2⟩ := h3 i hi
      exact ⟨(World.cell?_of_block (a := ⟨b, o + i * 3, none⟩) hb).trans q0, (World.cell?_of_block (a := ⟨b, o + i * 3 + 1, none⟩) hb).trans q1, (World.cell?_of_block (a := ⟨b, o + i * 3 + 2, none⟩) hb).trans q2⟩

theorem ActsAt.take {w : World} {a : Option Addr} {len k : Nat} {V : Nat → AV} (h : ActsAt w a len V) (hk : k ≤ len) : ActsAt w a k V := by
  refine ⟨?_, fun i hi => h.act i (by omega)⟩
  rcases h.row with h0 | ⟨b, o, h1, h2, h3⟩
  · exact .inl (by omega)
  · exact .inr ⟨b, o, h1, h2, fun i hi => h3 i (by omega)⟩

theorem ActsAt.congr {w : World} {a : Option Addr} {len : Nat} {V U : Nat → AV} (h : ActsAt w a len V) (e : ∀ i, i < len → V i = U i) : ActsAt w a len U := by
  refine ⟨?_, fun i hi => by rw [← e i hi]; exact h.act i hi⟩
  rcases h.row with h0 | ⟨b, o, h1, h2, h3⟩
  · exact .inl h0
  · exact .inr ⟨b, o, h1, h2, fun i hi => by rw [← e i hi]; exact h3 i hi⟩

/- The plain acts of a list in memory. -/
def pas (V : Nat → AV) (n : Nat) : List PA := (List.range n).map fun i => pa (V i)

theorem pas_len (V : Nat → AV) (n : Nat) : (pas V n).length = n := by simp [pas]
theorem pas_succ (V : Nat → AV) (n : Nat) : pas V (n + 1) = pas V n ++ [pa (V n)] := by simp [pas, List.range_succ]
theorem pas_mem {V : Nat → AV} {n : Nat} {a : PA} (h : a ∈ pas V n) : ∃ i, i < n ∧ a = pa (V i) := by
  simp only [pas, List.mem_map, List.mem_range] at h
  obtain ⟨i, h1, h2⟩ := h
  exact ⟨i, h1, h2.symm⟩
theorem mem_pas (V : Nat → AV) {n i : Nat} (h : i < n) : pa (V i) ∈ pas V n := List.mem_map.2 ⟨i, List.mem_range.2 h, rfl⟩
theorem pas_congr {V U : Nat → AV} {n : Nat} (h : ∀ i, i < n → pa (V i) = pa (U i)) : pas V n = pas U n := List.map_congr_left fun i hi => h i (List.mem_range.1 hi)

theorem str_row (l : List Nat) : strOfNums (nums (gl l) l.length) = str l := by
  unfold strOfNums str nums
  congr 2
  rw [List.map_map]
  apply List.ext_getElem?
  intro i
  by_cases h : i < l.length
  · simp [h, gl, List.getD]
  · rw [List.getElem?_eq_none (by simp; omega), List.getElem?_eq_none (by simp; omega)]

/- string(b). -/
theorem conv_sl {w : World} {x : Option Addr} {n c : Nat} {l : List Nat} (h : Sl w x n c l) : (convert 22 9 (.slice x n c)).run Tryz.prog w = .ok (.string (str l)) w := by
  rw [conv_row w x n c (gl l) h.row, ← h.len, str_row]

/- []byte(s). -/
theorem conv_text (s : ByteArray) (w : World) :
    ∃ c W1, (convert 9 22 (.string s)).run Tryz.prog w = .ok (.slice (some ⟨w.heap.size, 0, none⟩) s.size c) W1 ∧ Hid (Below w.heap.size w W1 ∧ Sl W1 (some ⟨w.heap.size, 0, none⟩) s.size c (nat s)) := by
  have hr := Lib.run_convert_string_bytes (P := Tryz.prog) w 9 22 5 s Tryz.underlying9 Tryz.underlying22 Tryz.underlying5
  refine ⟨_, _, hr, ⟨rfl, rfl, rfl, by rw [Lib.bytesWorld_size]; omega, fun q hq => Lib.bytesWorld_at_old w _ s q hq⟩, ⟨nat_length s, ?_, (fun e => by cases e), .inr ⟨w.heap.size, 0, rfl, by rw [Lib.bytesWorld_size]; omega, fun j hj => ?_⟩, nat_lt s⟩⟩
  · exact grownCap_ge w s.size 0 5
  · rw [Nat.zero_add, Lib.bytesWorld_cell w _ s j hj]
    have h1 : j < s.data.toList.length := by rw [Array.length_toList]; exact hj
    simp [nat, gl, List.getD, List.getElem?_eq_getElem h1]

/- An append that comes up alone in a region that draws its order. -/
theorem st_append {P : Program} {w w' : World} {ops : Array Oper} {o : Oper} {a : Act} {K : Act → World → Prop} {Q : Exit → Act → World → Prop} {v' : Value} (hg : Region.wanted o (yielded ops a.tmps) = true) (s x : Operand) (t : TypeId)
    (ho : o.op = .call { callee := .builtin .append, args := #[s, x], argTypes := #[t, t] }) (v1 v2 : Value) (hs : a.eval s = v1) (hx : a.eval x = v2) (hr : (Builtin.append_ #[t, t] o.type #[v1, v2]).run P w = .ok v' w')
    (h : K (a.put o.dst v') w') : if Region.wanted o (yielded ops a.tmps) = true then Oper.wp P o a w K Q else K (a.put o.dst undef) w := by
  rw [if_pos hg]
  unfold Oper.wp execOp
  simp only [ho, resolve, invoke, builtin, Sem.run_bind, Sem.run_pure, Result.andThen_ok, List.map_toArray, List.map_cons, List.map_nil, hs, hx, hr]
  exact h

theorem below_heap {B : Nat} {a w v : World} (h : Below B a w) (e1 : v.heap = w.heap) (e2 : v.os = w.os) (e3 : v.tape = w.tape) (e4 : v.output = w.output) : Below B a v :=
  ⟨e2.trans h.os, e3.trans h.tape, e4.trans h.output, by rw [e1]; exact h.size, fun k hk => by rw [e1]; exact h.block k hk⟩

end Go.Proofs.YtbbjklenpgkooaaGreat

/-
  What a law is told of a list of acts that came in, with their reach.
  Conditions: none.
-/
namespace Go.Proofs.YtbbjklenpgkooaaGreat
open Go.RowKit Go.ChangeShapes Go.WideShapes Go.Deep By Wi St
set_option linter.unusedVariables false
set_option linter.unusedSimpArgs false
set_option maxRecDepth 100000

theorem mem_weightsAll' {H : Type} {P : Program} {e : TypeId} {d : DataW H} {n : Nat} (hn : n ∈ d.weights P e) : ∀ {ds : List (DataW H)}, d ∈ ds → n ∈ DataW.weightsAll P e ds
  | d0 :: ds, h => by
    simp only [DataW.weightsAll, List.mem_append]
    rcases List.mem_cons.1 h with h | h
    · subst h; exact .inl hn
    · exact .inr (mem_weightsAll' hn h)

structure ActsIn (w : World) (a : Option Addr) (len cap : Nat) (V : Nat → AV) : Prop where
  at_ : ActsAt w a len V
  le : len ≤ cap
  nil : a = none → len = 0 ∧ cap = 0
  small : len ≤ 2932031007317

section
variable {H : Type} {enc : TypeId × Value → H} {W : World} {base : Nat} {held : Bool} {d : DataW H} {p : List MemPlace}

theorem pact_cells {fuel : Nat} {e0 e1 e2 : Value} (hf : DataW.trod enc Tryz.prog W base (fun _ => true) held fuel 54 [e0, e1, e2] = some (d, p)) (hw : ∀ x ∈ d.weights Tryz.prog 54, x ≤ reachBytes) :
    ∃ v : AV, e0 = .string v.key ∧ e1 = .bool v.set ∧ e2 = .slice v.x v.n v.c ∧ ActOk W v := by
  have c9 : Tryz.prog.cellsOf 9 = 1 := by kernel_rfl
  have c4 : Tryz.prog.cellsOf 4 = 1 := by kernel_rfl
  have c22 : Tryz.prog.cellsOf 22 = 1 := by kernel_rfl
  obtain ⟨xs, n, _, hx, _, hxl, hF⟩ := DataW.trod_struct Tryz.underlying54 hf
  simp only [Prod.mk.injEq] at hx
  obtain ⟨hd, _⟩ := hx
  subst hd
  obtain ⟨x0, x1, x2, rfl⟩ : ∃ x0 x1 x2, xs = [x0, x1, x2] := by
    match xs, hxl with
    | [x0, x1, x2], _ => exact ⟨x0, x1, x2, rfl⟩
  have f0' : DataW.trod enc Tryz.prog W base (fun _ => true) held n 9 (([e0, e1, e2].drop 0).take (Tryz.prog.cellsOf 9)) = some x0 := hF 0 _ rfl
  rw [c9] at f0'
  have f0 : DataW.trod enc Tryz.prog W base (fun _ => true) held n 9 [e0] = some x0 := f0'
  have f1' : DataW.trod enc Tryz.prog W base (fun _ => true) held n 4 (([e0, e1, e2].drop 1).take (Tryz.prog.cellsOf 4)) = some x1 := hF 1 _ rfl
  rw [c4] at f1'
  have f1 : DataW.trod enc Tryz.prog W base (fun _ => true) held n 4 [e1] = some x1 := f1'
  have f2' : DataW.trod enc Tryz.prog W base (fun _ => true) held n 22 (([e0, e1, e2].drop 2).take (Tryz.prog.cellsOf 22)) = some x2 := hF 2 _ rfl
  rw [c22] at f2'
  have f2 : DataW.trod enc Tryz.prog W base (fun _ => true) held n 22 [e2] = some (x2.1, x2.2) := f2'
  obtain ⟨s, s1, s2, s3⟩ := DataW.trod_string Tryz.underlying9 f0
  obtain ⟨b, b1, b2⟩ := DataW.trod_bool Tryz.underlying4 f1
  simp at s1 b1
  subst s1
  subst b1
  simp only [DataW.weights, Tryz.underlying54] at hw
  obtain ⟨a, len, cap, f, g1, g2⟩ := bytes_in f2 (fun x hx => hw x (DataW.weights_mem_each (j := 2) (t := 22) rfl rfl x hx))
  simp at g1
  have hk : s.data.toList.length ≤ reachBytes := hw _ (DataW.weights_mem_each (j := 0) (t := 9) rfl rfl _ (by rw [s2]; simp [DataW.weights]))
  have hk2 : s.data.toList.length = s.size := Array.length_toList
  refine ⟨⟨s, b, a, len, cap, (List.range len).map f⟩, rfl, rfl, g1, Sl.of_in g2, Nat.le_trans g2.le g2.small, ?_⟩
  unfold reachBytes at hk
  show s.size ≤ _
  omega

theorem pthree_cells : Tryz.prog.cellsOf 54 = 3 := by kernel_rfl

theorem pacts_open {fuel : Nat} {cs : List Value} (hf : DataW.trod enc Tryz.prog W base (fun _ => true) held fuel 24 cs = some (d, p)) :
    (cs = [.slice none 0 0] ∧ d = .nil) ∨
    ∃ (a : Addr) (len cap n : Nat) (DD : Nat → DataW H) (Pl : Nat → List MemPlace), cs = [.slice (some a) len cap] ∧ len ≤ cap ∧ d = .slice ((List.range len).map DD) ((List.range (cap - len)).map fun j => DD (len + j)) ∧
      ∀ i, i < cap → ∃ e0 e1 e2, W.cell? (a.add (i * 3)) = some e0 ∧ W.cell? (a.add (i * 3 + 1)) = some e1 ∧ W.cell? (a.add (i * 3 + 2)) = some e2 ∧ DataW.trod enc Tryz.prog W base (fun _ => true) held n 54 [e0, e1, e2] = some (DD i, Pl i) := by
  rcases open_slice Tryz.underlying24 hf with ⟨h1, h2⟩ | ⟨a, len, cap, m, n, DD, Pl, rfl, hb, hl, hm, hmm, hx, hcell⟩
  · simp only [Prod.mk.injEq] at h2
    exact .inl ⟨h1, h2.1⟩
  · simp only [if_true] at hmm
    subst hmm
    simp only [Prod.mk.injEq] at hx
    refine .inr ⟨a, len, m, n, DD, Pl, rfl, hl, hx.1, fun i hi => ?_⟩
    obtain ⟨cs', h1, h2⟩ := hcell i hi
    rw [pthree_cells] at h1
    obtain ⟨_, hlen, hc⟩ := World.cells?_some h1
    match cs', hlen with
    | [e0, e1, e2], _ =>
      have q0 := hc 0 (by omega)
      have q1 := hc 1 (by omega)
      have q2 := hc 2 (by omega)
      rw [add_add] at q0 q1 q2
      exact ⟨e0, e1, e2, by simpa using q0, by simpa using q1, by simpa using q2, h2⟩

theorem pacts_in {fuel : Nat} {cs : List Value} (hf : DataW.trod enc Tryz.prog W base (fun _ => true) held fuel 24 cs = some (d, p)) (hw : ∀ x ∈ d.weights Tryz.prog 24, x ≤ reachBytes) :
    ∃ a len cap V, cs = [.slice a len cap] ∧ ActsIn W a len cap V := by
  rcases pacts_open hf with ⟨h1, _⟩ | ⟨a, len, cap, n, DD, Pl, h1, hl, rfl, hc⟩
  · exact ⟨none, 0, 0, fun _ => ⟨ByteArray.empty, false, none, 0, 0, []⟩, h1, ⟨.inl rfl, fun i hi => by omega⟩, Nat.le_refl _, fun _ => ⟨rfl, rfl⟩, by omega⟩
  · have hb48 : Tryz.prog.bytesOf 54 = 48 := by kernel_rfl
    simp only [DataW.weights, Tryz.underlying24, List.mem_cons, List.mem_append, hb48] at hw
    have hw0 := hw _ (.inl rfl)
    simp only [List.length_map, List.length_range, reachBytes] at hw0
    haveI : Inhabited AV := ⟨⟨ByteArray.empty, false, none, 0, 0, []⟩⟩
    have each : ∀ i, i < len → ∃ v : AV, W.cell? (a.add (i * 3)) = some (.string v.key) ∧ W.cell? (a.add (i * 3 + 1)) = some (.bool v.set) ∧ W.cell? (a.add (i * 3 + 2)) = some (.slice v.x v.n v.c) ∧ ActOk W v := fun i hi => by
      obtain ⟨e0, e1, e2, g0, g1, g2, g5⟩ := hc i (by omega)
      obtain ⟨v, rfl, rfl, rfl, k⟩ := pact_cells g5 (fun x hx => hw x (.inr (.inl (mem_weightsAll' hx (List.mem_map.2 ⟨i, List.mem_range.2 hi, rfl⟩)))))
      exact ⟨v, g0, g1, g2, k⟩
    obtain ⟨V, hV⟩ := choose_lt each
    refine ⟨some a, len, cap, V, h1, ⟨?_, fun i hi => (hV i hi).2.2.2⟩, hl, (fun h => by cases h), by omega⟩
    by_cases h0 : len = 0
    · exact .inl h0
    · obtain ⟨b, off, spot⟩ := a
      have hspot : spot = none := by simpa [Addr.add] using World.cell?_spot (hV 0 (by omega)).1
      subst hspot
      refine .inr ⟨b, off, rfl, by simpa [Addr.add] using cell_lt' (hV 0 (by omega)).1, fun i hi => ?_⟩
      obtain ⟨h1, h2, h3, _⟩ := hV i hi
      rw [add_at] at h1 h2 h3
      exact ⟨h1, by simpa [Nat.add_assoc] using h2, by simpa [Nat.add_assoc] using h3⟩

end

end Go.Proofs.YtbbjklenpgkooaaGreat

/-
  What a law's second form is told of batches and crashes that came in.
  Conditions: none.
-/
namespace Go.Proofs.YtbbjklenpgkooaaGreat
open Go.RowKit Go.ChangeShapes Go.WideShapes Go.Deep By Wi St Dk
set_option linter.unusedVariables false
set_option linter.unusedSimpArgs false
set_option maxRecDepth 100000

/- A batch or a crash, as it came in. -/
structure IV where
  crash : Bool
  u : Option Addr
  l : Nat
  k : Nat
  h : Nat → Bool
  a : Option Addr
  len : Nat
  cap : Nat
  V : Nat → AV

structure ItemIn (w : World) (v : IV) : Prop where
  cut : BoolsAt w v.u v.l v.h
  cutl : v.l ≤ 1048576
  acts : ActsIn w v.a v.len v.cap v.V
  few : v.len ≤ 1048576

structure ItemsIn (w : World) (a : Option Addr) (len cap : Nat) (I : Nat → IV) : Prop where
  row : len = 0 ∨ ∃ b o, a = some ⟨b, o, none⟩ ∧ b < w.heap.size ∧ ∀ i, i < len → w.cell? ⟨b, o + i * 3, none⟩ = some (.bool (I i).crash) ∧ w.cell? ⟨b, o + i * 3 + 1, none⟩ = some (.slice (I i).u (I i).l (I i).k) ∧ w.cell? ⟨b, o + i * 3 + 2, none⟩ = some (.slice (I i).a (I i).len (I i).cap)
  item : ∀ i, i < len → ItemIn w (I i)

theorem bulk_mem {H : Type} {d : DataW H} : ∀ {l : List (DataW H)}, d ∈ l → Rows.uptoBulk d ≤ Rows.uptoBulkAll l
  | x :: l, h => by
    simp only [Rows.uptoBulkAll]
    rcases List.mem_cons.1 h with h | h
    · subst h; omega
    · have := bulk_mem h
      omega

section
variable {H : Type} {enc : TypeId × Value → H} {W : World} {base : Nat} {held : Bool} {d : DataW H} {p : List MemPlace}

theorem bools_in_upto {fuel : Nat} {cs : List Value} (hf : DataW.trod enc Tryz.prog W base (fun _ => true) held fuel 37 cs = some (d, p)) (hw : Rows.uptoBulk d ≤ 1048576) :
    ∃ a len cap h, cs = [.slice a len cap] ∧ BoolsAt W a len h ∧ len ≤ 1048576 := by
  rcases open_bools Tryz.underlying37 Tryz.underlying4 (by kernel_rfl) hf with ⟨hcs, _⟩ | ⟨x, len, cap, B, hcs, _, hl, hm, hx, hcell⟩
  · exact ⟨none, 0, 0, fun _ => false, hcs, .inl rfl, by omega⟩
  · simp only [Prod.mk.injEq] at hx
    have hd := hx.1
    subst hd
    simp only [boolRow, Rows.uptoBulk] at hw
    have h1 := bulk_each (H := H) ((List.range len).map fun i => .lit (.bool (B i)))
    simp only [List.length_map, List.length_range] at h1 hw
    refine ⟨some x, len, cap, B, hcs, ?_, by omega⟩
    by_cases h0 : len = 0
    · exact .inl h0
    · obtain ⟨b, off, spot⟩ := x
      have hspot : spot = none := by simpa [Addr.add] using World.cell?_spot (hcell 0 (by omega))
      subst hspot
      refine .inr ⟨b, off, rfl, cell_lt' (hcell 0 (by omega)), fun i hi => ?_⟩
      have := hcell i (by omega)
      rwa [add_at] at this

theorem pact_cells_upto {fuel : Nat} {e0 e1 e2 : Value} (hf : DataW.trod enc Tryz.prog W base (fun _ => true) held fuel 54 [e0, e1, e2] = some (d, p)) (hw : Rows.uptoBulk d ≤ 1048576) :
    ∃ v : AV, e0 = .string v.key ∧ e1 = .bool v.set ∧ e2 = .slice v.x v.n v.c ∧ ActOk W v := by
  have c9 : Tryz.prog.cellsOf 9 = 1 := by kernel_rfl
  have c4 : Tryz.prog.cellsOf 4 = 1 := by kernel_rfl
  have c22 : Tryz.prog.cellsOf 22 = 1 := by kernel_rfl
  obtain ⟨xs, n, _, hx, _, hxl, hF⟩ := DataW.trod_struct Tryz.underlying54 hf
  simp only [Prod.mk.injEq] at hx
  obtain ⟨hd, _⟩ := hx
  subst hd
  obtain ⟨x0, x1, x2, rfl⟩ : ∃ x0 x1 x2, xs = [x0, x1, x2] := by
    match xs, hxl with
    | [x0, x1, x2], _ => exact ⟨x0, x1, x2, rfl⟩
  have f0' : DataW.trod enc Tryz.prog W base (fun _ => true) held n 9 (([e0, e1, e2].drop 0).take (Tryz.prog.cellsOf 9)) = some x0 := hF 0 _ rfl
  rw [c9] at f0'
  have f0 : DataW.trod enc Tryz.prog W base (fun _ => true) held n 9 [e0] = some x0 := f0'
  have f1' : DataW.trod enc Tryz.prog W base (fun _ => true) held n 4 (([e0, e1, e2].drop 1).take (Tryz.prog.cellsOf 4)) = some x1 := hF 1 _ rfl
  rw [c4] at f1'
  have f1 : DataW.trod enc Tryz.prog W base (fun _ => true) held n 4 [e1] = some x1 := f1'
  have f2' : DataW.trod enc Tryz.prog W base (fun _ => true) held n 22 (([e0, e1, e2].drop 2).take (Tryz.prog.cellsOf 22)) = some x2 := hF 2 _ rfl
  rw [c22] at f2'
  have f2 : DataW.trod enc Tryz.prog W base (fun _ => true) held n 22 [e2] = some (x2.1, x2.2) := f2'
  obtain ⟨s, s1, s2, s3⟩ := DataW.trod_string Tryz.underlying9 f0
  obtain ⟨b, b1, b2⟩ := DataW.trod_bool Tryz.underlying4 f1
  simp at s1 b1
  subst s1
  subst b1
  simp only [Rows.uptoBulk, List.map_cons, List.map_nil, Rows.uptoBulkAll] at hw
  obtain ⟨a, len, cap, f, g1, g2, g3⟩ := bytes_in_upto f2 (by omega)
  simp at g1
  have hk : s.data.toList.length ≤ 1048576 := by
    rw [s2] at hw
    simp only [Rows.uptoBulk] at hw
    omega
  have hk2 : s.data.toList.length = s.size := Array.length_toList
  exact ⟨⟨s, b, a, len, cap, (List.range len).map f⟩, rfl, rfl, g1, Sl.of_in g2, by show len ≤ _; omega, by show s.size ≤ _; omega⟩

theorem pacts_in_upto {fuel : Nat} {cs : List Value} (hf : DataW.trod enc Tryz.prog W base (fun _ => true) held fuel 24 cs = some (d, p)) (hw : Rows.uptoBulk d ≤ 1048576) :
    ∃ a len cap V, cs = [.slice a len cap] ∧ ActsIn W a len cap V ∧ len ≤ 1048576 := by
  rcases pacts_open hf with ⟨h1, _⟩ | ⟨a, len, cap, n, DD, Pl, h1, hl, rfl, hc⟩
  · exact ⟨none, 0, 0, fun _ => ⟨ByteArray.empty, false, none, 0, 0, []⟩, h1, ⟨⟨.inl rfl, fun i hi => by omega⟩, Nat.le_refl _, fun _ => ⟨rfl, rfl⟩, by omega⟩, by omega⟩
  · simp only [Rows.uptoBulk] at hw
    have hb := bulk_each (H := H) ((List.range len).map DD)
    simp only [List.length_map, List.length_range] at hb
    haveI : Inhabited AV := ⟨⟨ByteArray.empty, false, none, 0, 0, []⟩⟩
    have each : ∀ i, i < len → ∃ v : AV, W.cell? (a.add (i * 3)) = some (.string v.key) ∧ W.cell? (a.add (i * 3 + 1)) = some (.bool v.set) ∧ W.cell? (a.add (i * 3 + 2)) = some (.slice v.x v.n v.c) ∧ ActOk W v := fun i hi => by
      obtain ⟨e0, e1, e2, g0, g1, g2, g5⟩ := hc i (by omega)
      have hm := bulk_mem (H := H) (d := DD i) (l := (List.range len).map DD) (List.mem_map.2 ⟨i, List.mem_range.2 hi, rfl⟩)
      obtain ⟨v, rfl, rfl, rfl, k⟩ := pact_cells_upto g5 (by omega)
      exact ⟨v, g0, g1, g2, k⟩
    obtain ⟨V, hV⟩ := choose_lt each
    refine ⟨some a, len, cap, V, h1, ⟨⟨?_, fun i hi => (hV i hi).2.2.2⟩, hl, (fun h => by cases h), by omega⟩, by omega⟩
    by_cases h0 : len = 0
    · exact .inl h0
    · obtain ⟨b, off, spot⟩ := a
      have hspot : spot = none := by simpa [Addr.add] using World.cell?_spot (hV 0 (by omega)).1
      subst hspot
      refine .inr ⟨b, off, rfl, by simpa [Addr.add] using cell_lt' (hV 0 (by omega)).1, fun i hi => ?_⟩
      obtain ⟨h1, h2, h3, _⟩ := hV i hi
      rw [add_at] at h1 h2 h3
      exact ⟨h1, by simpa [Nat.add_assoc] using h2, by simpa [Nat.add_assoc] using h3⟩

theorem item_cells {fuel : Nat} {e0 e1 e2 : Value} (hf : DataW.trod enc Tryz.prog W base (fun _ => true) held fuel 39 [e0, e1, e2] = some (d, p)) (hw : Rows.uptoBulk d ≤ 1048576) :
    ∃ v : IV, e0 = .bool v.crash ∧ e1 = .slice v.u v.l v.k ∧ e2 = .slice v.a v.len v.cap ∧ ItemIn W v := by
  have c4 : Tryz.prog.cellsOf 4 = 1 := by kernel_rfl
  have c5 : Tryz.prog.cellsOf 37 = 1 := by kernel_rfl
  have c6 : Tryz.prog.cellsOf 24 = 1 := by kernel_rfl
  obtain ⟨xs, n, _, hx, _, hxl, hF⟩ := DataW.trod_struct Tryz.underlying39 hf
  simp only [Prod.mk.injEq] at hx
  obtain ⟨hd, _⟩ := hx
  subst hd
  obtain ⟨x0, x1, x2, rfl⟩ : ∃ x0 x1 x2, xs = [x0, x1, x2] := by
    match xs, hxl with
    | [x0, x1, x2], _ => exact ⟨x0, x1, x2, rfl⟩
  have f0' : DataW.trod enc Tryz.prog W base (fun _ => true) held n 4 (([e0, e1, e2].drop 0).take (Tryz.prog.cellsOf 4)) = some x0 := hF 0 _ rfl
  rw [c4] at f0'
  have f0 : DataW.trod enc Tryz.prog W base (fun _ => true) held n 4 [e0] = some x0 := f0'
  have f1' : DataW.trod enc Tryz.prog W base (fun _ => true) held n 37 (([e0, e1, e2].drop 1).take (Tryz.prog.cellsOf 37)) = some x1 := hF 1 _ rfl
  rw [c5] at f1'
  have f1 : DataW.trod enc Tryz.prog W base (fun _ => true) held n 37 [e1] = some (x1.1, x1.2) := f1'
  have f2' : DataW.trod enc Tryz.prog W base (fun _ => true) held n 24 (([e0, e1, e2].drop 2).take (Tryz.prog.cellsOf 24)) = some x2 := hF 2 _ rfl
  rw [c6] at f2'
  have f2 : DataW.trod enc Tryz.prog W base (fun _ => true) held n 24 [e2] = some (x2.1, x2.2) := f2'
  obtain ⟨b, b1, b2⟩ := DataW.trod_bool Tryz.underlying4 f0
  simp at b1
  subst b1
  simp only [Rows.uptoBulk, List.map_cons, List.map_nil, Rows.uptoBulkAll] at hw
  obtain ⟨u, l, k, h, q1, q2, q3⟩ := bools_in_upto f1 (by omega)
  obtain ⟨a, len, cap, V, g1, g2, g3⟩ := pacts_in_upto f2 (by omega)
  simp at q1 g1
  exact ⟨⟨b, u, l, k, h, a, len, cap, V⟩, rfl, q1, g1, q2, q3, g2, g3⟩

theorem pthree_item : Tryz.prog.cellsOf 39 = 3 := by kernel_rfl

theorem items_in_upto {fuel : Nat} {cs : List Value} (hf : DataW.trod enc Tryz.prog W base (fun _ => true) held fuel 30 cs = some (d, p)) (hw : Rows.uptoBulk d ≤ 1048576) :
    ∃ a len cap I, cs = [.slice a len cap] ∧ ItemsIn W a len cap I ∧ len ≤ 1048576 := by
  rcases open_slice Tryz.underlying30 hf with ⟨h1, h2⟩ | ⟨a, len, cap, m, n, DD, Pl, rfl, hb, hl, hm, hmm, hx, hcell⟩
  · exact ⟨none, 0, 0, fun _ => ⟨false, none, 0, 0, fun _ => false, none, 0, 0, fun _ => ⟨ByteArray.empty, false, none, 0, 0, []⟩⟩, h1, ⟨.inl rfl, fun i hi => by omega⟩, by omega⟩
  · simp only [if_true] at hmm
    subst hmm
    simp only [Prod.mk.injEq] at hx
    obtain ⟨rfl, _⟩ := hx
    simp only [Rows.uptoBulk] at hw
    have hbk := bulk_each (H := H) ((List.range len).map DD)
    simp only [List.length_map, List.length_range] at hbk
    haveI : Inhabited IV := ⟨⟨false, none, 0, 0, fun _ => false, none, 0, 0, fun _ => ⟨ByteArray.empty, false, none, 0, 0, []⟩⟩⟩
    have each : ∀ i, i < len → ∃ v : IV, W.cell? (a.add (i * 3)) = some (.bool v.crash) ∧ W.cell? (a.add (i * 3 + 1)) = some (.slice v.u v.l v.k) ∧ W.cell? (a.add (i * 3 + 2)) = some (.slice v.a v.len v.cap) ∧ ItemIn W v := fun i hi => by
      obtain ⟨cs', h1, h2⟩ := hcell i (by omega)
      rw [pthree_item] at h1
      obtain ⟨_, hlen, hc⟩ := World.cells?_some h1
      have hmem := bulk_mem (H := H) (d := DD i) (l := (List.range len).map DD) (List.mem_map.2 ⟨i, List.mem_range.2 hi, rfl⟩)
      match cs', hlen, hc, h2 with
      | [e0, e1, e2], _, hc, h2 =>
        have q0 := hc 0 (by omega)
        have q1 := hc 1 (by omega)
        have q2 := hc 2 (by omega)
        rw [add_add] at q0 q1 q2
        obtain ⟨v, rfl, rfl, rfl, k⟩ := item_cells h2 (by omega)
        exact ⟨v, by simpa using q0, by simpa using q1, by simpa using q2, k⟩
    obtain ⟨I, hI⟩ := choose_lt each
    refine ⟨some a, len, m, I, rfl, ⟨?_, fun i hi => (hI i hi).2.2.2⟩, by omega⟩
    by_cases h0 : len = 0
    · exact .inl h0
    · obtain ⟨b, off, spot⟩ := a
      have hspot : spot = none := by simpa [Addr.add] using World.cell?_spot (hI 0 (by omega)).1
      subst hspot
      refine .inr ⟨b, off, rfl, by simpa [Addr.add] using cell_lt' (hI 0 (by omega)).1, fun i hi => ?_⟩
      obtain ⟨h1, h2, h3, _⟩ := hI i hi
      rw [add_at] at h1 h2 h3
      exact ⟨h1, by simpa [Nat.add_assoc] using h2, by simpa [Nat.add_assoc] using h3⟩

end

end Go.Proofs.YtbbjklenpgkooaaGreat
