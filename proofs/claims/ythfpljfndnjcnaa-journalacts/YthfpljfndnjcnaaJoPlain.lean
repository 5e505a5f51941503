/-
  A journal in plain numbers: a part's sector, which records sectors are, what a record that is put, a flush and a crash make of them.
  Conditions: none.
-/
import Derived.Test.YthfpljfndnjcnaaSuStrip
import Derived.Test.YthfpljfndnjcnaaDkPlain
namespace Go.Proofs.Ythfpljfndnjcnaa.Jo
open Su Dk Go.Proofs.Ythfpljfndnjcnaa
set_option linter.unusedVariables false
set_option linter.unusedSimpArgs false

def genS (s : Nat → Nat) : Nat := s 1 + 256 * s 2
def num (s : Nat → Nat) : Nat := s 3 + 256 * (s 4 + 256 * (s 5 + 256 * s 6))
def cnt (s : Nat → Nat) : Nat := s 8 % 128
def lst (s : Nat → Nat) : Bool := decide (128 ≤ s 8)

def canB (p n : Nat) (l : Bool) : Prop := if l = true then n ≤ 51 ∧ p < 255 ∧ (0 < n ∨ p = 0) else n = 51 ∧ p + 1 < 255

theorem canB_le {p n : Nat} {l : Bool} (h : canB p n l) : n ≤ 51 := by
  unfold canB at h
  split at h <;> omega

structure OkP (s : Nat → Nat) : Prop where
  ends : Ends s 60
  mark : s 0 = 74
  can : canB (s 7) (cnt s) (lst s)
  zero : ∀ i, 9 + cnt s ≤ i → i < 60 → s i = 0

structure OkR (s : Nat → Nat) : Prop where
  ends : Ends s 60
  mark : s 0 = 74
  can : cnt s ≤ 51 ∧ (cnt s = 51 ∨ lst s = true)
  zero : ∀ i, 9 + cnt s ≤ i → i < 60 → s i = 0

theorem OkP.r {s : Nat → Nat} (h : OkP s) : OkR s := ⟨h.ends, h.mark, by
  have := h.can
  unfold canB at this
  by_cases e : lst s = true
  · rw [if_pos e] at this
    exact ⟨this.1, .inr e⟩
  · rw [if_neg e] at this
    exact ⟨by omega, .inl this.1⟩, h.zero⟩

/- A record that begins at a sector, of so many parts. -/
structure Rec (ok : (Nat → Nat) → Prop) (S : Nat → Nat → Nat) (n a r c : Nat) : Prop where
  pos : 0 < c
  fits : a + c ≤ n
  ok : ∀ k, k < c → ok (S (a + k))
  num : ∀ k, k < c → num (S (a + k)) = r
  plc : ∀ k, k < c → S (a + k) 7 = k
  gen : ∀ k, k < c → genS (S (a + k)) = genS (S a)
  mid : ∀ k, k + 1 < c → lst (S (a + k)) = false
  last : lst (S (a + (c - 1))) = true

section
variable {ok ok' : (Nat → Nat) → Prop} {S S' : Nat → Nat → Nat} {n a r c c' m m' : Nat} {st st' : Nat → Nat}

theorem Rec.lt (h : Rec ok S n a r c) (k : Rec ok S n a r c') : ¬ c < c' := fun e => by
  have h1 := k.mid (c - 1) (by have := h.pos; omega)
  rw [h.last] at h1
  cases h1

theorem Rec.uniq (h : Rec ok S n a r c) (k : Rec ok S n a r c') : c = c' := by
  have := h.lt k
  have := k.lt h
  omega

theorem Rec.congr (h : Rec ok S n a r c) (e : ∀ k, k < c → S (a + k) = S' (a + k)) : Rec ok S' n a r c := by
  have e0 : S a = S' a := by have := e 0 h.pos; simpa using this
  exact ⟨h.pos, h.fits, fun k hk => by rw [← e k hk]; exact h.ok k hk, fun k hk => by rw [← e k hk]; exact h.num k hk, fun k hk => by rw [← e k hk]; exact h.plc k hk, fun k hk => by rw [← e k hk, ← e0]; exact h.gen k hk,
    fun k hk => by rw [← e k (by omega)]; exact h.mid k hk, by rw [← e (c - 1) (by have := h.pos; omega)]; exact h.last⟩

theorem Rec.okc (h : Rec ok S n a r c) (e : ∀ k, k < n → ok (S k) → ok' (S k)) : Rec ok' S n a r c :=
  ⟨h.pos, h.fits, fun k hk => e _ (by have := h.fits; omega) (h.ok k hk), h.num, h.plc, h.gen, h.mid, h.last⟩

def bef (S : Nat → Nat → Nat) (st : Nat → Nat) (m : Nat) : Nat := if m = 0 then 0 else genS (S (st (m - 1)))

structure Run (ok : (Nat → Nat) → Prop) (S : Nat → Nat → Nat) (n m : Nat) (st : Nat → Nat) : Prop where
  zero : st 0 = 0
  up : ∀ i, i < m → st i < st (i + 1)
  one : ∀ i, i < m → Rec ok S n (st i) (i + 1) (st (i + 1) - st i)
  gen : ∀ i, i < m → bef S st i ≤ genS (S (st i))

structure Recs (ok : (Nat → Nat) → Prop) (S : Nat → Nat → Nat) (n m : Nat) (st : Nat → Nat) : Prop where
  run : Run ok S n m st
  fin : ∀ c, Rec ok S n (st m) (m + 1) c → genS (S (st m)) < bef S st m

theorem Run.take (h : Run ok S n m st) (hm : m' ≤ m) : Run ok S n m' st := ⟨h.zero, fun i hi => h.up i (by omega), fun i hi => h.one i (by omega), fun i hi => h.gen i (by omega)⟩

theorem Run.mono (h : Run ok S n m st) {i : Nat} : ∀ j, i ≤ j → j ≤ m → st i ≤ st j
  | 0, h1, _ => by obtain rfl : i = 0 := by omega
                   exact Nat.le_refl _
  | j + 1, h1, h2 => by
    rcases Nat.lt_or_ge j i with e | e
    · obtain rfl : i = j + 1 := by omega
      exact Nat.le_refl _
    · have := h.mono j e (by omega)
      have := h.up j (by omega)
      omega

theorem Run.lt_at (h : Run ok S n m st) {i j : Nat} (h1 : i < j) (h2 : j ≤ m) : st i < st j := by
  have := h.up i (by omega)
  have := h.mono j (i := i + 1) h1 h2
  omega

theorem Run.count (h : Run ok S n m st) : ∀ i, i ≤ m → i ≤ st i
  | 0, _ => Nat.zero_le _
  | i + 1, hi => by
    have := h.count i (by omega)
    have := h.up i (by omega)
    omega

theorem Run.le (h : Run ok S n m st) : st m ≤ n := by
  cases m with
  | zero => rw [h.zero]; exact Nat.zero_le _
  | succ m =>
    have h1 := (h.one m (Nat.lt_succ_self m)).fits
    have := h.up m (Nat.lt_succ_self m)
    omega

theorem bef_congr (e : ∀ k, k < st m → S k = S' k) (hup : ∀ i, i < m → st i < st m) : bef S st m = bef S' st m := by
  unfold bef
  split
  · rfl
  · rw [e _ (hup _ (by omega))]

theorem Run.congr (h : Run ok S n m st) (e : ∀ k, k < st m → S k = S' k) : Run ok S' n m st := by
  refine ⟨h.zero, h.up, fun i hi => (h.one i hi).congr fun k hk => e _ ?_, fun i hi => ?_⟩
  · have := h.mono m (i := i + 1) hi (Nat.le_refl _)
    omega
  · rw [← bef_congr (S := S) (fun k hk => e k (by have := h.mono m (i := i) (by omega) (Nat.le_refl _); omega)) (fun j hj => h.lt_at hj (by omega)), ← e _ (h.lt_at hi (Nat.le_refl _))]
    exact h.gen i hi

theorem Run.same (h : Run ok S n m st) (k : Run ok S n m' st') : ∀ i, i ≤ m → i ≤ m' → st i = st' i
  | 0, _, _ => by rw [h.zero, k.zero]
  | i + 1, h1, h2 => by
    have ih := h.same k i (by omega) (by omega)
    have r1 := h.one i (by omega)
    have r2 := k.one i (by omega)
    rw [← ih] at r2
    have := r1.uniq r2
    have := h.up i (by omega)
    have := k.up i (by omega)
    omega

theorem bef_same (e : ∀ i, i ≤ m → st i = st' i) : bef S st m = bef S st' m := by
  unfold bef
  split
  · rfl
  · rw [e _ (by omega)]

theorem Recs.not_lt (h : Recs ok S n m st) (k : Run ok S n m' st') : ¬ m < m' := fun e => by
  have hs := fun i hi => h.run.same k i hi (by omega)
  have r := k.one m e
  have g := k.gen m e
  rw [← hs m (Nat.le_refl _)] at r g
  have f := h.fin _ r
  rw [bef_same hs] at f
  omega

theorem Recs.uniq (h : Recs ok S n m st) (k : Recs ok S n m' st') : m = m' ∧ ∀ i, i ≤ m → st i = st' i := by
  have h1 := h.not_lt k.run
  have h2 := k.not_lt h.run
  obtain rfl : m = m' := by omega
  exact ⟨rfl, fun i hi => h.run.same k.run i hi hi⟩

theorem Recs.okc (h : Recs ok S n m st) (e : ∀ k, k < n → (ok (S k) ↔ ok' (S k))) : Recs ok' S n m st :=
  ⟨⟨h.run.zero, h.run.up, fun i hi => (h.run.one i hi).okc fun k hk => (e k hk).1, h.run.gen⟩, fun c hc => h.fin c (hc.okc fun k hk => (e k hk).2)⟩

end

def rlen (S : Nat → Nat → Nat) (a c : Nat) : Nat := 51 * (c - 1) + cnt (S (a + (c - 1)))
def rbyte (S : Nat → Nat → Nat) (a : Nat) : Nat → Nat := fun j => S (a + j / 51) (9 + j % 51)

/- A part's sector. -/
def pcs (l : Nat) : Nat := if l = 0 then 1 else (l + 50) / 51
def plen (l k : Nat) : Nat := min (l - 51 * k) 51
def plast (l k : Nat) : Bool := decide (k + 1 = pcs l)

def hd (g r l : Nat) (b : Nat → Nat) (k : Nat) : Nat → Nat := fun i =>
  if i = 0 then 74 else if i = 1 then g % 256 else if i = 2 then g / 256 % 256 else if i = 3 then r % 256 else if i = 4 then r / 256 % 256 else if i = 5 then r / 65536 % 256
  else if i = 6 then r / 16777216 % 256 else if i = 7 then k % 256 else if i = 8 then plen l k + (if plast l k = true then 128 else 0) else if i < 9 + plen l k then b (51 * k + (i - 9)) else 0

def mkS (g r l : Nat) (b : Nat → Nat) (k : Nat) : Nat → Nat := fun i => if i < 60 then hd g r l b k i else if i < 64 then lo (sumOf (hd g r l b k) 60) (i - 60) else 0

theorem pcs_pos (l : Nat) : 0 < pcs l := by unfold pcs; split <;> omega

theorem pcs_le {l : Nat} (h : l ≤ 13005) : pcs l ≤ 255 := by unfold pcs; split <;> omega

theorem pcs_fits {l k : Nat} : pcs l ≤ k ↔ 0 < k ∧ l ≤ 51 * k := by unfold pcs; split <;> omega

theorem plen_le (l k : Nat) : plen l k ≤ 51 := by unfold plen; omega

theorem plen_mid {l k : Nat} (h : k + 1 < pcs l) : plen l k = 51 := by
  unfold pcs at h
  unfold plen
  split at h <;> omega

theorem plen_last {l : Nat} : 51 * (pcs l - 1) + plen l (pcs l - 1) = l := by
  unfold pcs plen
  split <;> omega

theorem plen_zero {l k : Nat} (h : k < pcs l) (h0 : plen l k = 0) : k = 0 := by
  unfold pcs at h
  unfold plen at h0
  split at h <;> omega

section
variable {g r l k : Nat} {b : Nat → Nat}

theorem hd_lt (hb : ∀ i, b i < 256) (i : Nat) : hd g r l b k i < 256 := by
  unfold hd
  have := plen_le l k
  repeat' split
  all_goals first | omega | exact hb _

theorem mk_lt (hb : ∀ i, b i < 256) (i : Nat) : mkS g r l b k i < 256 := by
  unfold mkS
  split
  · exact hd_lt hb i
  · split
    · exact lo_lt _ _
    · omega

theorem mk_gen (hg : g < 65536) : genS (mkS g r l b k) = g := by
  show g % 256 + 256 * (g / 256 % 256) = g
  omega

theorem mk_num (hr : r < 4294967296) : num (mkS g r l b k) = r := by
  show r % 256 + 256 * (r / 256 % 256 + 256 * (r / 65536 % 256 + 256 * (r / 16777216 % 256))) = r
  omega

theorem mk_plc (hk : k < 256) : mkS g r l b k 7 = k := Nat.mod_eq_of_lt hk

theorem mk_eight : mkS g r l b k 8 = plen l k + (if plast l k = true then 128 else 0) := rfl

theorem mk_cnt : cnt (mkS g r l b k) = plen l k := by
  unfold cnt
  rw [mk_eight]
  have := plen_le l k
  split <;> omega

theorem mk_lst : lst (mkS g r l b k) = plast l k := by
  unfold lst
  rw [mk_eight]
  have := plen_le l k
  split
  · rename_i h; rw [h]; simp
  · rename_i h
    have : plast l k = false := by simpa using h
    rw [this]
    simp
    omega

theorem mk_ends : Ends (mkS g r l b k) 60 := fun i hi => by
  rw [sumOf_congr (f := mkS g r l b k) (g := hd g r l b k) (n := 60) fun i hi => by simp [mkS, hi]]
  unfold mkS
  rw [if_neg (by omega), if_pos (by omega)]
  congr 1
  omega

theorem mk_ok (hk : k < pcs l) (hl : l ≤ 13005) : OkP (mkS g r l b k) := by
  have hp := pcs_le hl
  refine ⟨mk_ends, rfl, ?_, fun i h1 h2 => ?_⟩
  · rw [mk_plc (by omega), mk_cnt, mk_lst]
    unfold canB
    by_cases e : plast l k = true
    · rw [if_pos e]
      refine ⟨plen_le l k, by omega, ?_⟩
      by_cases e0 : plen l k = 0
      · exact .inr (plen_zero hk e0)
      · exact .inl (by omega)
    · rw [if_neg e]
      have : k + 1 ≠ pcs l := fun h => e (by simp [plast, h])
      exact ⟨plen_mid (by omega), by omega⟩
  · rw [mk_cnt] at h1
    unfold mkS hd
    rw [if_pos h2]
    have : ¬ i < 9 + plen l k := by omega
    simp only [this, if_false]
    repeat' split
    all_goals first | rfl | omega

theorem mk_byte {j : Nat} (hj : j < l) : mkS g r l b (j / 51) (9 + j % 51) = b j := by
  have hp : j % 51 < plen l (j / 51) := by unfold plen; omega
  unfold mkS hd
  rw [if_pos (by omega)]
  have e1 : ∀ c, c < 9 → ¬ (9 + j % 51 = c) := fun c hc => by omega
  simp only [e1 0 (by omega), e1 1 (by omega), e1 2 (by omega), e1 3 (by omega), e1 4 (by omega), e1 5 (by omega), e1 6 (by omega), e1 7 (by omega), e1 8 (by omega), if_false]
  rw [if_pos (by omega)]
  congr 1
  omega

end

/- A put record is read. -/
theorem rec_put {V : Nat → Nat → Nat} {n a r g l : Nat} {b : Nat → Nat} (hl : l ≤ 13005) (hg : g < 65536) (hr : r < 4294967296) (hn : a + pcs l ≤ n) (e : ∀ k, k < pcs l → V (a + k) = mkS g r l b k) :
    Rec OkP V n a r (pcs l) ∧ genS (V a) = g ∧ rlen V a (pcs l) = l ∧ ∀ j, j < l → rbyte V a j = b j := by
  have h0 := pcs_pos l
  have hp := pcs_le hl
  have e0 : genS (V a) = g := by have := e 0 h0; rw [Nat.add_zero] at this; rw [this, mk_gen hg]
  refine ⟨⟨h0, hn, fun k hk => by rw [e k hk]; exact mk_ok hk hl, fun k hk => by rw [e k hk]; exact mk_num hr, fun k hk => by rw [e k hk]; exact mk_plc (by omega), fun k hk => by rw [e k hk, e0]; exact mk_gen hg, fun k hk => ?_, ?_⟩, e0, ?_, fun j hj => ?_⟩
  · rw [e k (by omega), mk_lst]
    simp [plast]
    omega
  · rw [e _ (by omega), mk_lst]
    simp [plast]
    omega
  · unfold rlen
    rw [e _ (by omega), mk_cnt]
    exact plen_last
  · unfold rbyte
    rw [e (j / 51) (by unfold pcs; split <;> omega)]
    exact mk_byte hj

end Go.Proofs.Ythfpljfndnjcnaa.Jo
