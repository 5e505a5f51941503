/-
  6 texts of this proof, one behind the other: JoPlain, JoInv, DkRead, DkReads, DkWrite, DkPut.
-/
import Derived.Test.YtbbjklenpgkooaaJ07
import Derived.Test.YtbbjklenpgkooaaJ03
import Derived.Deep.OwnRows
import Derived.Deep.RegionHeld3
/-
  A journal in plain numbers: a part's sector, which records sectors are, what a record that is put, a flush and a crash make of them.
  Conditions: none.
-/
namespace Go.Proofs.Ytbbjklenpgkooaa.Jo
open Su Dk Go.Proofs.Ytbbjklenpgkooaa
set_option linter.unusedVariables false
set_option linter.unusedSimpArgs false
set_option maxRecDepth 100000

def genS (s : Nat → Nat) : Nat := s 1 + 256 * s 2
def num (s : Nat → Nat) : Nat := s 3 + 256 * (s 4 + 256 * (s 5 + 256 * s 6))
def cnt (s : Nat → Nat) : Nat := s 8 % 128
def lst (s : Nat → Nat) : Bool := decide (128 ≤ s 8)

def canB (p n : Nat) (l : Bool) : Prop := if l = true then n ≤ 51 ∧ p < 255 ∧ (0 < n ∨ p = 0) else n = 51 ∧ p + 1 < 255

theorem canB_le {p n : Nat} {l : Bool} (h : canB p n l) : n ≤ 51 := by
  unfold canB at h
  split at h <;> omega

structure OkP (s : Nat → Nat) : Prop where
  ends : Ends s 60
  mark : s 0 = 74
  can : canB (s 7) (cnt s) (lst s)
  zero : ∀ i, 9 + cnt s ≤ i → i < 60 → s i = 0

structure OkR (s : Nat → Nat) : Prop where
  ends : Ends s 60
  mark : s 0 = 74
  can : cnt s ≤ 51 ∧ (cnt s = 51 ∨ lst s = true)
  zero : ∀ i, 9 + cnt s ≤ i → i < 60 → s i = 0

theorem OkP.r {s : Nat → Nat} (h : OkP s) : OkR s := ⟨h.ends, h.mark, by
  have := h.can
  unfold canB at this
  by_cases e : lst s = true
  · rw [if_pos e] at this
    exact ⟨this.1, .inr e⟩
  · rw [if_neg e] at this
    exact ⟨by omega, .inl this.1⟩, h.zero⟩

/- A record that begins at a sector, of so many parts. -/
structure Rec (ok : (Nat → Nat) → Prop) (S : Nat → Nat → Nat) (n a r c : Nat) : Prop where
  pos : 0 < c
  fits : a + c ≤ n
  ok : ∀ k, k < c → ok (S (a + k))
  num : ∀ k, k < c → num (S (a + k)) = r
  plc : ∀ k, k < c → S (a + k) 7 = k
  gen : ∀ k, k < c → genS (S (a + k)) = genS (S a)
  mid : ∀ k, k + 1 < c → lst (S (a + k)) = false
  last : lst (S (a + (c - 1))) = true

section
variable {ok ok' : (Nat → Nat) → Prop} {S S' : Nat → Nat → Nat} {n a r c c' m m' : Nat} {st st' : Nat → Nat}

theorem Rec.lt (h : Rec ok S n a r c) (k : Rec ok S n a r c') : ¬ c < c' := fun e => by
  have h1 := k.mid (c - 1) (by have := h.pos; omega)
  rw [h.last] at h1
  cases h1

theorem Rec.uniq (h : Rec ok S n a r c) (k : Rec ok S n a r c') : c = c' := by
  have := h.lt k
  have := k.lt h
  omega

theorem Rec.congr (h : Rec ok S n a r c) (e : ∀ k, k < c → S (a + k) = S' (a + k)) : Rec ok S' n a r c := by
  have e0 : S a = S' a := by have := e 0 h.pos; simpa using this
  exact ⟨h.pos, h.fits, fun k hk => by rw [← e k hk]; exact h.ok k hk, fun k hk => by rw [← e k hk]; exact h.num k hk, fun k hk => by rw [← e k hk]; exact h.plc k hk, fun k hk => by rw [← e k hk, ← e0]; exact h.gen k hk,
    fun k hk => by rw [← e k (by omega)]; exact h.mid k hk, by rw [← e (c - 1) (by have := h.pos; omega)]; exact h.last⟩

theorem Rec.okc (h : Rec ok S n a r c) (e : ∀ k, k < n → ok (S k) → ok' (S k)) : Rec ok' S n a r c :=
  ⟨h.pos, h.fits, fun k hk => e _ (by have := h.fits; omega) (h.ok k hk), h.num, h.plc, h.gen, h.mid, h.last⟩

def bef (S : Nat → Nat → Nat) (st : Nat → Nat) (m : Nat) : Nat := if m = 0 then 0 else genS (S (st (m - 1)))

structure Run (ok : (Nat → Nat) → Prop) (S : Nat → Nat → Nat) (n m : Nat) (st : Nat → Nat) : Prop where
  zero : st 0 = 0
  up : ∀ i, i < m → st i < st (i + 1)
  one : ∀ i, i < m → Rec ok S n (st i) (i + 1) (st (i + 1) - st i)
  gen : ∀ i, i < m → bef S st i ≤ genS (S (st i))

structure Recs (ok : (Nat → Nat) → Prop) (S : Nat → Nat → Nat) (n m : Nat) (st : Nat → Nat) : Prop where
  run : Run ok S n m st
  fin : ∀ c, Rec ok S n (st m) (m + 1) c → genS (S (st m)) < bef S st m

theorem Run.take (h : Run ok S n m st) (hm : m' ≤ m) : Run ok S n m' st := ⟨h.zero, fun i hi => h.up i (by omega), fun i hi => h.one i (by omega), fun i hi => h.gen i (by omega)⟩

theorem Run.mono (h : Run ok S n m st) {i : Nat} : ∀ j, i ≤ j → j ≤ m → st i ≤ st j
  | 0, h1, _ => by obtain rfl : i = 0 := by omega
                   exact Nat.le_refl _
  | j + 1, h1, h2 => by
    rcases Nat.lt_or_ge j i with e | e
    · obtain rfl : i = j + 1 := by omega
      exact Nat.le_refl _
    · have := h.mono j e (by omega)
      have := h.up j (by omega)
      omega

theorem Run.lt_at (h : Run ok S n m st) {i j : Nat} (h1 : i < j) (h2 : j ≤ m) : st i < st j := by
  have := h.up i (by omega)
  have := h.mono j (i := i + 1) h1 h2
  omega

theorem Run.count (h : Run ok S n m st) : ∀ i, i ≤ m → i ≤ st i
  | 0, _ => Nat.zero_le _
  | i + 1, hi => by
    have := h.count i (by omega)
    have := h.up i (by omega)
    omega

theorem Run.le (h : Run ok S n m st) : st m ≤ n := by
  cases m with
  | zero => rw [h.zero]; exact Nat.zero_le _
  | succ m =>
    have h1 := (h.one m (Nat.lt_succ_self m)).fits
    have := h.up m (Nat.lt_succ_self m)
    omega

theorem bef_congr (e : ∀ k, k < st m → S k = S' k) (hup : ∀ i, i < m → st i < st m) : bef S st m = bef S' st m := by
  unfold bef
  split
  · rfl
  · rw [e _ (hup _ (by omega))]

theorem Run.congr (h : Run ok S n m st) (e : ∀ k, k < st m → S k = S' k) : Run ok S' n m st := by
  refine ⟨h.zero, h.up, fun i hi => (h.one i hi).congr fun k hk => e _ ?_, fun i hi => ?_⟩
  · have := h.mono m (i := i + 1) hi (Nat.le_refl _)
    omega
  · rw [← bef_congr (S := S) (fun k hk => e k (by have := h.mono m (i := i) (by omega) (Nat.le_refl _); omega)) (fun j hj => h.lt_at hj (by omega)), ← e _ (h.lt_at hi (Nat.le_refl _))]
    exact h.gen i hi

theorem Run.same (h : Run ok S n m st) (k : Run ok S n m' st') : ∀ i, i ≤ m → i ≤ m' → st i = st' i
  | 0, _, _ => by rw [h.zero, k.zero]
  | i + 1, h1, h2 => by
    have ih := h.same k i (by omega) (by omega)
    have r1 := h.one i (by omega)
    have r2 := k.one i (by omega)
    rw [← ih] at r2
    have := r1.uniq r2
    have := h.up i (by omega)
    have := k.up i (by omega)
    omega

theorem bef_same (e : ∀ i, i ≤ m → st i = st' i) : bef S st m = bef S st' m := by
  unfold bef
  split
  · rfl
  · rw [e _ (by omega)]

theorem Recs.not_lt (h : Recs ok S n m st) (k : Run ok S n m' st') : ¬ m < m' := fun e => by
  have hs := fun i hi => h.run.same k i hi (by omega)
  have r := k.one m e
  have g := k.gen m e
  rw [← hs m (Nat.le_refl _)] at r g
  have f := h.fin _ r
  rw [bef_same hs] at f
  omega

theorem Recs.uniq (h : Recs ok S n m st) (k : Recs ok S n m' st') : m = m' ∧ ∀ i, i ≤ m → st i = st' i := by
  have h1 := h.not_lt k.run
  have h2 := k.not_lt h.run
  obtain rfl : m = m' := by omega
  exact ⟨rfl, fun i hi => h.run.same k.run i hi hi⟩

theorem Recs.okc (h : Recs ok S n m st) (e : ∀ k, k < n → (ok (S k) ↔ ok' (S k))) : Recs ok' S n m st :=
  ⟨⟨h.run.zero, h.run.up, fun i hi => (h.run.one i hi).okc fun k hk => (e k hk).1, h.run.gen⟩, fun c hc => h.fin c (hc.okc fun k hk => (e k hk).2)⟩

end

def rlen (S : Nat → Nat → Nat) (a c : Nat) : Nat := 51 * (c - 1) + cnt (S (a + (c - 1)))
def rbyte (S : Nat → Nat → Nat) (a : Nat) : Nat → Nat := fun j => S (a + j / 51) (9 + j % 51)

/- A part's sector. -/
def pcs (l : Nat) : Nat := if l = 0 then 1 else (l + 50) / 51
def plen (l k : Nat) : Nat := min (l - 51 * k) 51
def plast (l k : Nat) : Bool := decide (k + 1 = pcs l)

def hd (g r l : Nat) (b : Nat → Nat) (k : Nat) : Nat → Nat := fun i =>
  if i = 0 then 74 else if i = 1 then g % 256 else if i = 2 then g / 256 % 256 else if i = 3 then r % 256 else if i = 4 then r / 256 % 256 else if i = 5 then r / 65536 % 256
  else if i = 6 then r / 16777216 % 256 else if i = 7 then k % 256 else if i = 8 then plen l k + (if plast l k = true then 128 else 0) else if i < 9 + plen l k then b (51 * k + (i - 9)) else 0

def mkS (g r l : Nat) (b : Nat → Nat) (k : Nat) : Nat → Nat := fun i => if i < 60 then hd g r l b k i else if i < 64 then lo (sumOf (hd g r l b k) 60) (i - 60) else 0

theorem pcs_pos (l : Nat) : 0 < pcs l := by unfold pcs; split <;> omega

theorem pcs_le {l : Nat} (h : l ≤ 13005) : pcs l ≤ 255 := by unfold pcs; split <;> omega

theorem pcs_fits {l k : Nat} : pcs l ≤ k ↔ 0 < k ∧ l ≤ 51 * k := by unfold pcs; split <;> omega

theorem plen_le (l k : Nat) : plen l k ≤ 51 := by unfold plen; omega

theorem plen_mid {l k : Nat} (h : k + 1 < pcs l) : plen l k = 51 := by
  unfold pcs at h
  unfold plen
  split at h <;> omega

theorem plen_last {l : Nat} : 51 * (pcs l - 1) + plen l (pcs l - 1) = l := by
  unfold pcs plen
  split <;> omega

theorem plen_zero {l k : Nat} (h : k < pcs l) (h0 : plen l k = 0) : k = 0 := by
  unfold pcs at h
  unfold plen at h0
  split at h <;> omega

section
variable {g r l k : Nat} {b : Nat → Nat}

theorem hd_lt (hb : ∀ i, b i < 256) (i : Nat) : hd g r l b k i < 256 := by
  unfold hd
  have := plen_le l k
  repeat' split
  all_goals first | omega | exact hb _

theorem mk_lt (hb : ∀ i, b i < 256) (i : Nat) : mkS g r l b k i < 256 := by
  unfold mkS
  split
  · exact hd_lt hb i
  · split
    · exact lo_lt _ _
    · omega

theorem mk_gen (hg : g < 65536) : genS (mkS g r l b k) = g := by
  show g % 256 + 256 * (g / 256 % 256) = g
  omega

theorem mk_num (hr : r < 4294967296) : num (mkS g r l b k) = r := by
  show r % 256 + 256 * (r / 256 % 256 + 256 * (r / 65536 % 256 + 256 * (r / 16777216 % 256))) = r
  omega

theorem mk_plc (hk : k < 256) : mkS g r l b k 7 = k := Nat.mod_eq_of_lt hk

theorem mk_eight : mkS g r l b k 8 = plen l k + (if plast l k = true then 128 else 0) := rfl

theorem mk_cnt : cnt (mkS g r l b k) = plen l k := by
  unfold cnt
  rw [mk_eight]
  have := plen_le l k
  split <;> omega

theorem mk_lst : lst (mkS g r l b k) = plast l k := by
  unfold lst
  rw [mk_eight]
  have := plen_le l k
  split
  · rename_i h; rw [h]; simp
  · rename_i h
    have : plast l k = false := by simpa using h
    rw [this]
    simp
    omega

theorem mk_ends : Ends (mkS g r l b k) 60 := fun i hi => by
  rw [sumOf_congr (f := mkS g r l b k) (g := hd g r l b k) (n := 60) fun i hi => by simp [mkS, hi]]
  unfold mkS
  rw [if_neg (by omega), if_pos (by omega)]
  congr 1
  omega

theorem mk_ok (hk : k < pcs l) (hl : l ≤ 13005) : OkP (mkS g r l b k) := by
  have hp := pcs_le hl
  refine ⟨mk_ends, rfl, ?_, fun i h1 h2 => ?_⟩
  · rw [mk_plc (by omega), mk_cnt, mk_lst]
    unfold canB
    by_cases e : plast l k = true
    · rw [if_pos e]
      refine ⟨plen_le l k, by omega, ?_⟩
      by_cases e0 : plen l k = 0
      · exact .inr (plen_zero hk e0)
      · exact .inl (by omega)
    · rw [if_neg e]
      have : k + 1 ≠ pcs l := fun h => e (by simp [plast, h])
      exact ⟨plen_mid (by omega), by omega⟩
  · rw [mk_cnt] at h1
    unfold mkS hd
    rw [if_pos h2]
    have : ¬ i < 9 + plen l k := by omega
    simp only [this, if_false]
    repeat' split
    all_goals first | rfl | omega

theorem mk_byte {j : Nat} (hj : j < l) : mkS g r l b (j / 51) (9 + j % 51) = b j := by
  have hp : j % 51 < plen l (j / 51) := by unfold plen; omega
  unfold mkS hd
  rw [if_pos (by omega)]
  have e1 : ∀ c, c < 9 → ¬ (9 + j % 51 = c) := fun c hc => by omega
  simp only [e1 0 (by omega), e1 1 (by omega), e1 2 (by omega), e1 3 (by omega), e1 4 (by omega), e1 5 (by omega), e1 6 (by omega), e1 7 (by omega), e1 8 (by omega), if_false]
  rw [if_pos (by omega)]
  congr 1
  omega

end

/- A put record is read. -/
theorem rec_put {V : Nat → Nat → Nat} {n a r g l : Nat} {b : Nat → Nat} (hl : l ≤ 13005) (hg : g < 65536) (hr : r < 4294967296) (hn : a + pcs l ≤ n) (e : ∀ k, k < pcs l → V (a + k) = mkS g r l b k) :
    Rec OkP V n a r (pcs l) ∧ genS (V a) = g ∧ rlen V a (pcs l) = l ∧ ∀ j, j < l → rbyte V a j = b j := by
  have h0 := pcs_pos l
  have hp := pcs_le hl
  have e0 : genS (V a) = g := by have := e 0 h0; rw [Nat.add_zero] at this; rw [this, mk_gen hg]
  refine ⟨⟨h0, hn, fun k hk => by rw [e k hk]; exact mk_ok hk hl, fun k hk => by rw [e k hk]; exact mk_num hr, fun k hk => by rw [e k hk]; exact mk_plc (by omega), fun k hk => by rw [e k hk, e0]; exact mk_gen hg, fun k hk => ?_, ?_⟩, e0, ?_, fun j hj => ?_⟩
  · rw [e k (by omega), mk_lst]
    simp [plast]
    omega
  · rw [e _ (by omega), mk_lst]
    simp [plast]
    omega
  · unfold rlen
    rw [e _ (by omega), mk_cnt]
    exact plen_last
  · unfold rbyte
    rw [e (j / 51) (by unfold pcs; split <;> omega)]
    exact mk_byte hj

end Go.Proofs.Ytbbjklenpgkooaa.Jo

/-
  A journal on a disk, in plain numbers: what holds ahead of each call holds behind it; behind a crash the records are those that were synced and a beginning of the others.
  Conditions: none.
-/
namespace Go.Proofs.Ytbbjklenpgkooaa.Jo
open Su Dk Go.Proofs.Ytbbjklenpgkooaa
set_option linter.unusedVariables false
set_option linter.unusedSimpArgs false
set_option maxRecDepth 100000

def cut (s : Nat → Nat) : Nat → Nat := fun j => if j < 64 then s j else 0
def vs (f : Nat → Nat) : Nat → Nat → Nat := fun k => cut (sec f k)
def vw (f A : Nat → Nat) (D : Nat → Nat → Nat) (m : Nat) : Nat → Nat → Nat := fun k => cut (now f A D k m)

theorem cut_congr {s t : Nat → Nat} (h : ∀ j, j < 64 → s j = t j) : cut s = cut t := by
  funext j
  unfold cut
  split
  · exact h j (by assumption)
  · rfl

theorem cut_mk {g r l k : Nat} {b : Nat → Nat} : cut (mkS g r l b k) = mkS g r l b k := by
  funext j
  unfold cut
  split
  · rfl
  · unfold mkS
    rw [if_neg (by omega), if_neg (by omega)]

theorem cut_lt {s : Nat → Nat} (h : ∀ i, s i < 256) (j : Nat) : cut s j < 256 := by
  unfold cut
  split
  · exact h j
  · omega

theorem vw_zero (f A : Nat → Nat) (D : Nat → Nat → Nat) : vw f A D 0 = vs f := by
  funext k
  rfl

theorem vs_all (f A : Nat → Nat) (D : Nat → Nat → Nat) (m : Nat) : vs (kept f A D (fun _ => true) m) = vw f A D m := by
  funext k
  exact cut_congr fun j hj => kept_all f A D k m j hj

section
variable {f A : Nat → Nat} {D : Nat → Nat → Nat} {u : Nat}

theorem last_seq (k : Nat) : ∀ m, (∀ i, i < m → A i = u + i) → last A k m = if u ≤ k ∧ k < u + m then k - u + 1 else 0
  | 0, _ => by rw [if_neg (by omega)]; rfl
  | m + 1, h => by
    unfold last
    rw [h m (Nat.lt_succ_self m), last_seq k m fun i hi => h i (by omega)]
    by_cases e : u + m = k
    · rw [if_pos e, if_pos (by omega)]
      omega
    · rw [if_neg e]
      by_cases e2 : u ≤ k ∧ k < u + m
      · rw [if_pos e2, if_pos (by omega)]
      · rw [if_neg e2, if_neg (by omega)]

theorem vw_new {m i : Nat} (h : ∀ i, i < m → A i = u + i) (hi : i < m) : vw f A D m (u + i) = cut (D i) := by
  have e : last A (u + i) m = i + 1 := by rw [last_seq _ m h, if_pos (by omega)]; omega
  unfold vw now
  rw [e, if_neg (by omega), Nat.add_sub_cancel]

theorem vw_old {m k : Nat} (h : ∀ i, i < m → A i = u + i) (hk : k < u ∨ u + m ≤ k) : vw f A D m k = vs f k := by
  have e : last A k m = 0 := by rw [last_seq _ m h, if_neg (by omega)]
  unfold vw now vs
  rw [e, if_pos rfl]

theorem vs_put (a : Nat) (d : Nat → Nat) (k : Nat) : vs (put f a d) k = if k = a then cut d else vs f k := by
  unfold vs
  by_cases e : k = a
  · rw [if_pos e]
    exact cut_congr fun j hj => by rw [put_sec _ _ _ _ _ hj, if_pos e]
  · rw [if_neg e]
    exact cut_congr fun j hj => by rw [put_sec _ _ _ _ _ hj, if_neg e]

theorem vs_kept (c : Nat → Bool) (k : Nat) : ∀ m, (∀ i, i < m → A i = u + i) → vs (kept f A D c m) k = if u ≤ k ∧ k < u + m ∧ c (k - u) = true then cut (D (k - u)) else vs f k
  | 0, _ => by rw [if_neg (by omega)]; rfl
  | m + 1, h => by
    have ih := vs_kept c k m fun i hi => h i (by omega)
    unfold kept
    by_cases hc : c m = true
    · rw [if_pos hc, vs_put, ih, h m (Nat.lt_succ_self m)]
      by_cases e : k = u + m
      · subst e
        have e2 : u + m - u = m := by omega
        rw [if_pos rfl, if_pos ⟨by omega, by omega, by rw [e2]; exact hc⟩, e2]
      · rw [if_neg e]
        by_cases e2 : u ≤ k ∧ k < u + m ∧ c (k - u) = true
        · rw [if_pos e2, if_pos ⟨e2.1, by omega, e2.2.2⟩]
        · rw [if_neg e2, if_neg (fun h => e2 ⟨h.1, by omega, h.2.2⟩)]
    · rw [if_neg hc, ih]
      by_cases e2 : u ≤ k ∧ k < u + m ∧ c (k - u) = true
      · rw [if_pos e2, if_pos ⟨e2.1, by omega, e2.2.2⟩]
      · rw [if_neg e2, if_neg (fun h => e2 ⟨h.1, by
          have h1 := h.2.1
          have : k ≠ u + m := fun e => by
            subst e
            have h2 := h.2.2
            rw [show u + m - u = m by omega] at h2
            exact hc h2
          omega, h.2.2⟩)]

end

structure Inv (n : Nat) (f : Nat → Nat) (mm : Nat) (A : Nat → Nat) (D : Nat → Nat → Nat) (g m : Nat) (st : Nat → Nat) (ms : Nat) : Prop where
  le : ms ≤ m
  recs : Recs OkP (vw f A D mm) n m st
  used : st m = st ms + mm
  at_ : ∀ i, i < mm → A i = st ms + i
  top : ∀ k, k < n → OkP (vw f A D mm k) → genS (vw f A D mm k) ≤ g
  old : ∀ k, st ms ≤ k → k < n → OkP (vs f k) → genS (vs f k) < g
  new : ∀ i, i < mm → OkP (vw f A D mm (st ms + i)) ∧ genS (vw f A D mm (st ms + i)) = g
  back : ∀ c, Rec OkP (vs f) n (st ms) (ms + 1) c → genS (vs f (st ms)) < bef (vw f A D mm) st ms
  same : ∀ k, k < n → OkR (vw f A D mm k) → OkP (vw f A D mm k)
  sameB : ∀ k, k < n → OkR (vs f k) → OkP (vs f k)

theorem Inv.open_ {n g m : Nat} {f A st : Nat → Nat} {D : Nat → Nat → Nat} (h : Recs OkP (vs f) n m st) (hg : ∀ k, k < n → OkP (vs f k) → genS (vs f k) < g) (hs : ∀ k, k < n → OkR (vs f k) → OkP (vs f k)) : Inv n f 0 A D g m st m := by
  have e := vw_zero f A D
  exact ⟨Nat.le_refl _, by rw [e]; exact h, rfl, fun i hi => by omega, by rw [e]; exact fun k hk ho => Nat.le_of_lt (hg k hk ho), fun k _ hk ho => hg k hk ho, fun i hi => by omega, by rw [e]; exact h.fin, by rw [e]; exact hs, hs⟩

def stx (st : Nat → Nat) (m c : Nat) : Nat → Nat := fun i => if i ≤ m then st i else st m + c

theorem stx_old (st : Nat → Nat) (c : Nat) {m i : Nat} (h : i ≤ m) : stx st m c i = st i := by simp [stx, h]
theorem stx_new (st : Nat → Nat) (m c : Nat) : stx st m c (m + 1) = st m + c := by unfold stx; rw [if_neg (by omega)]

theorem bef_stx {V : Nat → Nat → Nat} {st : Nat → Nat} {m c i : Nat} (hi : i ≤ m + 1) : bef V (stx st m c) i = bef V st i := by
  unfold bef
  split
  · rfl
  · rw [stx_old _ _ (by omega)]

theorem Run.push {ok : (Nat → Nat) → Prop} {S : Nat → Nat → Nat} {n m c : Nat} {st : Nat → Nat} (h : Run ok S n m st) (r : Rec ok S n (st m) (m + 1) c) (hb : bef S st m ≤ genS (S (st m))) : Run ok S n (m + 1) (stx st m c) := by
  refine ⟨by rw [stx_old _ _ (by omega)]; exact h.zero, fun i hi => ?_, fun i hi => ?_, fun i hi => ?_⟩
  · by_cases e : i = m
    · subst e
      rw [stx_new, stx_old _ _ (Nat.le_refl _)]
      have := r.pos
      omega
    · rw [stx_old _ _ (by omega), stx_old _ _ (by omega)]
      exact h.up i (by omega)
  · by_cases e : i = m
    · subst e
      rw [stx_new, stx_old _ _ (Nat.le_refl _), Nat.add_sub_cancel_left]
      exact r
    · rw [stx_old _ _ (by omega), stx_old _ _ (by omega)]
      exact h.one i (by omega)
  · rw [bef_stx (by omega), stx_old _ _ (by omega)]
    by_cases e : i = m
    · subst e
      exact hb
    · exact h.gen i (by omega)

section
variable {n mm g m ms : Nat} {f A st : Nat → Nat} {D : Nat → Nat → Nat}

theorem Inv.at_old (h : Inv n f mm A D g m st ms) {k : Nat} (hk : k < st ms ∨ st m ≤ k) : vw f A D mm k = vs f k := vw_old h.at_ (by have := h.used; omega)

theorem Inv.befg (h : Inv n f mm A D g m st ms) : bef (vw f A D mm) st m ≤ g := by
  unfold bef
  split
  · exact Nat.zero_le _
  · have hr := h.recs.run
    have h1 := hr.lt_at (i := m - 1) (j := m) (by omega) (Nat.le_refl _)
    have h2 := hr.le
    have h3 := (hr.one (m - 1) (by omega)).ok 0 (hr.one (m - 1) (by omega)).pos
    rw [Nat.add_zero] at h3
    exact h.top _ (by omega) h3

theorem Inv.put {l : Nat} {b A' : Nat → Nat} {D' : Nat → Nat → Nat} (h : Inv n f mm A D g m st ms) (hl : l ≤ 13005) (hg : g < 65536) (hm : m + 1 < 4294967296) (hn : st m + pcs l ≤ n)
    (hA : ∀ i, i < mm → A' i = A i ∧ D' i = D i) (hN : ∀ k, k < pcs l → A' (mm + k) = st m + k ∧ ∀ j, j < 64 → D' (mm + k) j = mkS g (m + 1) l b k j) :
    Inv n f (mm + pcs l) A' D' g (m + 1) (stx st m (pcs l)) ms ∧ (∀ k, k < st m ∨ st m + pcs l ≤ k → vw f A' D' (mm + pcs l) k = vw f A D mm k) ∧ (∀ k, k < pcs l → vw f A' D' (mm + pcs l) (st m + k) = mkS g (m + 1) l b k) := by
  have hle := h.le
  have hu := h.used
  have at' : ∀ i, i < mm + pcs l → A' i = st ms + i := fun i hi => by
    by_cases e : i < mm
    · rw [(hA i e).1]; exact h.at_ i e
    · have := (hN (i - mm) (by omega)).1
      rw [show mm + (i - mm) = i by omega] at this
      rw [this]
      omega
  have hV : ∀ k, k < st m ∨ st m + pcs l ≤ k → vw f A' D' (mm + pcs l) k = vw f A D mm k := fun k hk => by
    by_cases e : st ms ≤ k ∧ k < st m
    · have e1 := vw_new (f := f) (D := D') (i := k - st ms) at' (by omega)
      have e2 := vw_new (f := f) (D := D) (i := k - st ms) h.at_ (by omega)
      rw [show st ms + (k - st ms) = k by omega] at e1 e2
      rw [e1, e2, (hA _ (by omega)).2]
    · rw [vw_old at' (by omega), vw_old h.at_ (by omega)]
  have hW : ∀ k, k < pcs l → vw f A' D' (mm + pcs l) (st m + k) = mkS g (m + 1) l b k := fun k hk => by
    have e1 := vw_new (f := f) (D := D') (i := mm + k) at' (by omega)
    rw [show st ms + (mm + k) = st m + k by omega] at e1
    rw [e1, cut_congr (hN k hk).2, cut_mk]
  have hr := h.recs.run
  have hp := pcs_pos l
  have hr' : Run OkP (vw f A' D' (mm + pcs l)) n m st := hr.congr fun k hk => (hV k (.inl hk)).symm
  obtain ⟨hrec, hgen, _, _⟩ := rec_put (V := vw f A' D' (mm + pcs l)) (a := st m) hl hg hm hn hW
  have hbef : bef (vw f A' D' (mm + pcs l)) st m = bef (vw f A D mm) st m := bef_congr (fun k hk => hV k (.inl hk)) (fun i hi => hr.lt_at hi (Nat.le_refl _))
  have hold : ∀ k, st m ≤ k → vw f A D mm k = vs f k := fun k hk => h.at_old (.inr hk)
  have hms : st ms ≤ st m := hr.mono m hle (Nat.le_refl _)
  refine ⟨⟨by omega, ⟨hr'.push hrec (by rw [hbef, hgen]; exact h.befg), fun c hc => ?_⟩, by rw [stx_new, stx_old _ _ hle]; omega, by rw [stx_old _ _ hle]; exact at', fun k hk ho => ?_, by rw [stx_old _ _ hle]; exact h.old, fun i hi => ?_, fun c hc => ?_, fun k hk ho => ?_, h.sameB⟩, hV, hW⟩
  · rw [stx_new] at hc ⊢
    have h0 := hc.ok 0 hc.pos
    rw [Nat.add_zero] at h0
    have h1 := hc.fits
    have h2 := hc.pos
    rw [bef_stx (Nat.le_refl _)]
    unfold bef
    rw [if_neg (by omega), Nat.add_sub_cancel, hgen]
    rw [hV _ (.inr (Nat.le_refl _)), hold _ (by omega)] at h0 ⊢
    exact h.old _ (by omega) (by omega) h0
  · by_cases e : st m ≤ k ∧ k < st m + pcs l
    · have e1 := hW (k - st m) (by omega)
      rw [show st m + (k - st m) = k by omega] at e1
      rw [e1, mk_gen hg]
      exact Nat.le_refl _
    · rw [hV k (by omega)] at ho ⊢
      exact h.top k hk ho
  · rw [stx_old _ _ hle]
    by_cases e : i < mm
    · rw [hV _ (by omega)]
      exact h.new i e
    · have e1 := hW (i - mm) (by omega)
      rw [show st m + (i - mm) = st ms + i by omega] at e1
      rw [e1]
      exact ⟨mk_ok (by omega) hl, mk_gen hg⟩
  · rw [stx_old _ _ hle] at hc ⊢
    rw [bef_stx (by omega), bef_congr (S := vw f A' D' (mm + pcs l)) (S' := vw f A D mm) (fun k hk => hV k (.inl (by omega))) (fun i hi => hr.lt_at hi hle)]
    exact h.back c hc
  · by_cases e : st m ≤ k ∧ k < st m + pcs l
    · have e1 := hW (k - st m) (by omega)
      rw [show st m + (k - st m) = k by omega] at e1
      rw [e1]
      exact mk_ok (by omega) hl
    · rw [hV k (by omega)] at ho ⊢
      exact h.same k hk ho

theorem Inv.sync (h : Inv n f mm A D g m st ms) : Inv n (kept f A D (fun _ => true) mm) 0 A D g m st m := by
  have e := vs_all f A D mm
  have e0 := vw_zero (kept f A D (fun _ => true) mm) A D
  have hms := h.recs.run.mono m h.le (Nat.le_refl _)
  refine ⟨Nat.le_refl _, by rw [e0, e]; exact h.recs, rfl, fun i hi => by omega, by rw [e0, e]; exact h.top, fun k h1 h2 ho => ?_, fun i hi => by omega, by rw [e0, e]; exact h.recs.fin, by rw [e0, e]; exact h.same, by rw [e]; exact h.same⟩
  rw [e, h.at_old (.inr h1)] at ho ⊢
  exact h.old k (by omega) h2 ho

theorem Inv.crash (h : Inv n f mm A D g m st ms) (c : Nat → Bool) : ∃ m', ms ≤ m' ∧ m' ≤ m ∧ Recs OkP (vs (kept f A D c mm)) n m' st ∧ (∀ k, k < st m' → vs (kept f A D c mm) k = vw f A D mm k) ∧
    (∀ k, k < n → OkP (vs (kept f A D c mm) k) → genS (vs (kept f A D c mm) k) ≤ g) ∧ (∀ k, k < n → OkR (vs (kept f A D c mm) k) → OkP (vs (kept f A D c mm) k)) := by
  have hu := h.used
  have hr := h.recs.run
  have two : ∀ k, vs (kept f A D c mm) k = vs f k ∨ vs (kept f A D c mm) k = vw f A D mm k := fun k => by
    rw [vs_kept c k mm h.at_]
    by_cases e : st ms ≤ k ∧ k < st ms + mm ∧ c (k - st ms) = true
    · rw [if_pos e]
      right
      have e1 := vw_new (f := f) (D := D) (i := k - st ms) h.at_ (by omega)
      rw [show st ms + (k - st ms) = k by omega] at e1
      rw [e1]
    · rw [if_neg e]
      exact .inl rfl
  have out : ∀ k, k < st ms ∨ st m ≤ k → vs (kept f A D c mm) k = vw f A D mm k := fun k hk => by
    rw [h.at_old hk, vs_kept c k mm h.at_, if_neg (by omega)]
  generalize vs (kept f A D c mm) = W at *
  have hnew : ∀ k, st ms ≤ k → k < st m → OkP (vw f A D mm k) ∧ genS (vw f A D mm k) = g := fun k h1 h2 => by
    have := h.new (k - st ms) (by omega)
    rw [show st ms + (k - st ms) = k by omega] at this
    exact this
  have find : ∀ d, ms + d ≤ m → (∃ m', ms ≤ m' ∧ m' < m ∧ (∀ k, k < st m' → W k = vw f A D mm k) ∧ ∃ k, st m' ≤ k ∧ k < st (m' + 1) ∧ W k ≠ vw f A D mm k) ∨ (∀ k, k < st (ms + d) → W k = vw f A D mm k) := fun d => by
    induction d with
    | zero => exact fun _ => .inr fun k hk => out k (.inl hk)
    | succ d ih =>
      intro hd
      rcases ih (by omega) with ih | ih
      · exact .inl ih
      · by_cases e : ∀ k, st (ms + d) ≤ k → k < st (ms + d + 1) → W k = vw f A D mm k
        · right
          intro k hk
          by_cases e1 : k < st (ms + d)
          · exact ih k e1
          · exact e k (by omega) hk
        · left
          refine ⟨ms + d, by omega, by omega, ih, ?_⟩
          simp only [Classical.not_forall] at e
          obtain ⟨k, h1, h2, h3⟩ := e
          exact ⟨k, h1, h2, h3⟩
  have hsm : ∀ k, k < n → OkP (W k) → genS (W k) ≤ g := fun k hk ho => by
    rcases two k with e | e
    · by_cases e1 : k < st ms
      · rw [out k (.inl e1)] at ho ⊢
        exact h.top k hk ho
      · rw [e] at ho ⊢
        exact Nat.le_of_lt (h.old k (by omega) hk ho)
    · rw [e] at ho ⊢
      exact h.top k hk ho
  have hsame : ∀ k, k < n → OkR (W k) → OkP (W k) := fun k hk ho => by
    rcases two k with e | e
    · rw [e] at ho ⊢
      exact h.sameB k hk ho
    · rw [e] at ho ⊢
      exact h.same k hk ho
  have hfd := find (m - ms) (by have := h.le; omega)
  rw [show ms + (m - ms) = m by have := h.le; omega] at hfd
  rcases hfd with ⟨m', h1, h2, h3, k0, k1, k2, k3⟩ | h3
  · have hst : st ms ≤ st m' := hr.mono m' h1 (by omega)
    have hst2 : st m' < st m := hr.lt_at h2 (Nat.le_refl _)
    have hst3 : st (m' + 1) ≤ st m := hr.mono m h2 (Nat.le_refl _)
    refine ⟨m', h1, by omega, ⟨(hr.take (by omega)).congr fun k hk => (h3 k hk).symm, fun c' hc => ?_⟩, h3, hsm, hsame⟩
    have hbe : bef W st m' = bef (vw f A D mm) st m' := bef_congr h3 (fun i hi => hr.lt_at hi (by omega))
    rw [hbe]
    have hfit := hc.fits
    have hpos := hc.pos
    by_cases hg : genS (W (st m')) = g
    · have hall : ∀ k, k < c' → W (st m' + k) = vw f A D mm (st m' + k) := fun k hk => by
        rcases two (st m' + k) with e | e
        · have g1 := hc.gen k hk
          have g2 := hc.ok k hk
          rw [e] at g1 g2
          have := h.old _ (by omega) (by omega) g2
          omega
        · exact e
      have hu2 := (hc.congr hall).uniq (hr.one m' h2)
      have := hall (k0 - st m') (by omega)
      rw [show st m' + (k0 - st m') = k0 by omega] at this
      exact absurd this k3
    · have o0 := hc.ok 0 hpos
      rw [Nat.add_zero] at o0
      have hW : W (st m') = vs f (st m') := by
        rcases two (st m') with e | e
        · exact e
        · rw [e] at hg
          exact absurd (hnew _ hst hst2).2 hg
      by_cases e : ms < m'
      · have : bef (vw f A D mm) st m' = g := by
          unfold bef
          rw [if_neg (by omega)]
          exact (hnew _ (hr.mono (m' - 1) (by omega) (by omega)) (hr.lt_at (by omega) (Nat.le_refl _))).2
        rw [this]
        rw [hW] at o0 ⊢
        exact h.old _ hst (by omega) o0
      · obtain rfl : m' = ms := by omega
        have hall : ∀ k, k < c' → W (st m' + k) = vs f (st m' + k) := fun k hk => by
          by_cases e : st m ≤ st m' + k
          · rw [out _ (.inr e), h.at_old (.inr e)]
          · rcases two (st m' + k) with e1 | e1
            · exact e1
            · have g1 := hc.gen k hk
              rw [e1, (hnew _ (by omega) (by omega)).2] at g1
              exact absurd g1.symm hg
        rw [hW]
        exact h.back c' (hc.congr hall)
  · refine ⟨m, h.le, Nat.le_refl _, ⟨hr.congr fun k hk => (h3 k hk).symm, fun c' hc => ?_⟩, h3, hsm, hsame⟩
    have hall : ∀ k, k < c' → W (st m + k) = vw f A D mm (st m + k) := fun k hk => out _ (.inr (by omega))
    have := h.recs.fin c' (hc.congr hall)
    rw [bef_congr (S := W) (S' := vw f A D mm) h3 (fun i hi => hr.lt_at hi (Nat.le_refl _))]
    rw [out _ (.inr (Nat.le_refl _))]
    exact this

end

end Go.Proofs.Ytbbjklenpgkooaa.Jo

/-
  What Size, Pending, Read and Dump of a disk do, and the inner has and sector: contracts over plain numbers ('DkPlain').
  Conditions: the disk is one that New gave ('PDk'), or one of whose Size is known.
-/
namespace Go.Proofs.Ytbbjklenpgkooaa
open Go.RowKit By Dk
set_option linter.unusedVariables false
set_option linter.unusedSimpArgs false
set_option maxRecDepth 100000

theorem info_ptr : (Try.prog.info? 78).map (fun i => (i.zero, i.size, i.bytes)) = some (some (.pointer none), 1, 8) := by kernel_rfl

theorem made_row (z : Value) (n : Nat) : madeCells #[z] n = (rowOf (fun _ => z) n).toArray := by
  apply Array.ext'
  rw [toList_madeCells_one]
  apply List.ext_getElem?
  intro i
  by_cases hi : i < n
  · rw [rowOf_get _ _ _ hi]; simp [hi]
  · rw [List.getElem?_eq_none (by simp; omega), List.getElem?_eq_none (by rw [rowOf_len]; omega)]

theorem make_blk (w : World) (m : Nat) (hm : m ≤ 281474976710656) : ∃ w1 : World,
    (Instr.makeSlice 23 (.int .i64 (m : Int)) (.int .i64 (m : Int))).run Try.prog w = .ok (.slice (some ⟨w.heap.size, 0, none⟩) m m) w1 ∧
    Blk w1 w.heap.size 5 m (fun _ => .int .u8 0) ∧ Below w.heap.size w w1 ∧ w1.heap.size = w.heap.size + 1 := by
  have h := run_make_row' (P := Try.prog) 23 5 (.int .u8 0) 1 Try.underlying23 info_byte rfl .i64 .i64 m (by omega) (by omega) w
  exact ⟨_, h, Blk.new _ _ _ _ _ (made_row _ _), (Below.refl _ _).alloc (Nat.le_refl _) _, by simp⟩

theorem make_ptrs (w : World) (m : Nat) (hm : m ≤ 4096) : ∃ w1 : World,
    (Instr.makeSlice 73 (.int .i64 (m : Int)) (.int .i64 (m : Int))).run Try.prog w = .ok (.slice (some ⟨w.heap.size, 0, none⟩) m m) w1 ∧
    Blk w1 w.heap.size 78 m (fun _ => .pointer none) ∧ Below w.heap.size w w1 ∧ w1.heap.size = w.heap.size + 1 := by
  have h := run_make_row' (P := Try.prog) 73 78 (.pointer none) 8 Try.underlying73 info_ptr rfl .i64 .i64 m (by omega) (by omega) w
  exact ⟨_, h, Blk.new _ _ _ _ _ (made_row _ _), (Below.refl _ _).alloc (Nat.le_refl _) _, by simp⟩

def over (v : Nat → Value) (off m : Nat) (u : Nat → Value) : Nat → Value := fun i => if off ≤ i ∧ i < off + m then u (i - off) else v i

theorem splice_over (v u : Nat → Value) (N off m : Nat) (h : off + m ≤ N) : (rowOf v N).take off ++ rowOf u m ++ (rowOf v N).drop (off + m) = rowOf (over v off m u) N := by
  apply List.ext_getElem?
  intro i
  by_cases hi : i < N
  · rw [rowOf_get _ _ _ hi]
    have hl : ((rowOf v N).take off).length = off := by rw [List.length_take, rowOf_len]; omega
    unfold over
    rw [List.append_assoc]
    by_cases h1 : i < off
    · rw [List.getElem?_append_left (by omega), List.getElem?_take, if_pos h1, rowOf_get _ _ _ hi, if_neg (by omega)]
    · rw [List.getElem?_append_right (by omega), hl]
      by_cases h2 : i < off + m
      · rw [List.getElem?_append_left (by rw [rowOf_len]; omega), rowOf_get _ _ _ (by omega), if_pos ⟨by omega, h2⟩]
      · rw [List.getElem?_append_right (by rw [rowOf_len]; omega), rowOf_len, List.getElem?_drop, show off + m + (i - off - m) = i by omega, rowOf_get _ _ _ hi, if_neg (by omega)]
  · rw [List.getElem?_eq_none (by simp [rowOf_len]; omega), List.getElem?_eq_none (by rw [rowOf_len]; omega)]

theorem copy_blk (w : World) (g off dCap N m c b o : Nat) (t : TypeId) (v u : Nat → Value) (h : Blk w g t N v) (hfit : off + m ≤ N) (hsrc : ∀ j, j < m → w.cell? ⟨b, o + j, none⟩ = some (u j)) (hone : ∀ j, (u j).oneCell' = true) :
    ∃ w', (Builtin.copy_ #[23, 23] 3 #[.slice (some ⟨g, off, none⟩) m dCap, .slice (some ⟨b, o, none⟩) m c]).run Try.prog w = .ok (.int .i64 (m : Int)) w' ∧ Blk w' g t N (over v off m u) ∧ Turns (fun k => k = g) w w' ∧ w'.heap.size = w.heap.size := by
  have hsz : (Try.prog.info? 5).map (·.size) = some 1 := by kernel_rfl
  have hrun := run_copy_row (P := Try.prog) w 23 23 3 5 g off m dCap ⟨b, o, none⟩ m c (rowOf v N).toArray t (rowOf u m) Try.underlying23 hsz h (by rw [rowOf_len]; exact (Nat.min_self m).symm) (fun j z hj => by
    have hjm : j < m := by have := (List.getElem?_eq_some_iff.1 hj).1; rwa [rowOf_len] at this
    rw [rowOf_get _ _ _ hjm] at hj
    rw [add_at, hsrc j hjm, ← hj]) (by rw [rowOf_len]; simpa [rowOf_len] using hfit) (rowOf_one _ _ hone)
  rw [rowOf_len] at hrun
  refine ⟨_, hrun, ?_, ⟨rfl, rfl, rfl, by simp [World.setRow], fun k hk hg => setRow_other w g k _ hg⟩, by simp [World.setRow]⟩
  unfold Blk
  rw [setRow_heap w g _ _ t _ h]
  rw [splice_over v u N off m hfit]


theorem cut_lh (g o m c l h : Nat) (w : World) (h1 : l ≤ h) (h2 : h ≤ c) (h3 : l < c) :
    (Instr.slice 23 (.slice (some ⟨g, o, none⟩) m c) (some (.int .i64 (l : Int))) (some (.int .i64 (h : Int))) none).run Try.prog w = .ok (.slice (some ⟨g, o + l, none⟩) (h - l) (c - l)) w := by
  rw [run_slice_lh w 23 _ _ _ elem_row .i64 .i64 (l : Int) (h : Int) (by omega) (by omega) (by omega), elem_is, size_byte]
  simp only [Result.andThen, sliced, Int.toNat_natCast, Nat.mul_one, Option.map]
  rw [if_neg (by omega), add_at]

theorem cut_arr (b : Nat) (w : World) : (Instr.sliceAt 106 (.pointer (some ⟨b, 1, none⟩)) none none none).run Try.prog w = .ok (.slice (some ⟨b, 1, none⟩) 64 64) w := by kernel_rfl

/- Size, Pending. -/
theorem size_any (p n c : Nat) (x : Option Addr) (w : World) (h : w.cell? ⟨p, 2, none⟩ = some (.slice x n c)) :
    Calls Try.prog 50 #[.pointer (some ⟨p, 0, none⟩)] w fun e w' => e = .returned (.int .i64 (n : Int)) ∧ w' = w := by
  go_enter Try.func50, Try.ntmps50
  go_wp2_with fail
  go_ret
  exact ⟨rfl, rfl⟩

theorem size_nil (w : World) : Calls Try.prog 50 #[.pointer none] w fun e w' => e = .returned (.int .i64 ((0 : Nat) : Int)) ∧ w' = w := by
  go_enter Try.func50, Try.ntmps50
  go_wp2_with fail
  go_ret
  exact ⟨rfl, rfl⟩

/- Is there such a sector? -/
theorem has_any (v : Value) (n : Nat) (z : Int) (t : Bool) (w : World) (hS : Calls Try.prog 50 #[v] w fun e w' => e = .returned (.int .i64 (n : Int)) ∧ w' = w) (hy : 0 ≤ z → z < n → t = true) (hn : ¬ (0 ≤ z ∧ z < n) → t = false) :
    Calls Try.prog 73 #[v, .int .i64 z] w fun e w' => e = .returned (.bool t) ∧ w' = w := by
  by_cases h0 : 0 ≤ z
  · have ht : decide (z < (n : Int)) = t := by
      by_cases h : z < (n : Int)
      · rw [hy h0 h]; simpa using h
      · rw [hn (fun e => h e.2)]; simpa using h
    clear hy hn
    go_enter Try.func73, Try.ntmps73
    go_wp2_with ((go_at_call 50; refine hS.mono ?_; rintro e w' ⟨rfl, hw⟩; subst w'))
    go_ret
    exact ⟨rfl, rfl⟩
  · have ht := hn (fun e => h0 e.1)
    subst ht
    have h0' : z < 0 := by omega
    clear hy hn hS
    go_enter Try.func73, Try.ntmps73
    go_wp2_with fail
    go_ret
    exact ⟨rfl, rfl⟩

theorem sector_any (p gs s n a : Nat) (z : Int) (hz : z = (a : Int)) (w : World) (h : w.cell? ⟨p, 0, none⟩ = some (.slice (some ⟨gs, 0, none⟩) s s)) (hs : s = 64 * n) (ha : a < n) (hn : n ≤ 4096) :
    Calls Try.prog 62 #[.pointer (some ⟨p, 0, none⟩), .int .i64 z] w fun e w' => e = .returned (.slice (some ⟨gs, 64 * a, none⟩) 64 (s - 64 * a)) ∧ w' = w := by
  obtain ⟨l, hl⟩ : ∃ l : Nat, l = 64 * a := ⟨_, rfl⟩
  obtain ⟨h2, hh⟩ : ∃ l : Nat, l = 64 * a + 64 := ⟨_, rfl⟩
  have e1 : z * 64 = (l : Int) := by omega
  have e2 : (z + 1) * 64 = (h2 : Int) := by omega
  have hcut := cut_lh gs 0 s s l h2 w (by omega) (by omega) (by omega)
  rw [Nat.zero_add, show h2 - l = 64 by omega] at hcut
  rw [← hl]
  have b1 : 0 ≤ z ∧ z ≤ 4096 := by omega
  obtain ⟨b1, b2⟩ := b1
  have b3 : l ≤ 262144 := by omega
  have b4 : h2 ≤ 262144 := by omega
  clear hl hh hz ha hs
  go_enter Try.func62, Try.ntmps62
  go_wp2_with fail
  go_ret
  exact ⟨rfl, rfl⟩

end Go.Proofs.Ytbbjklenpgkooaa

/-
  What Read and Dump of a disk tell: contracts over plain numbers ('DkPlain').
  Conditions: the disk is one that New gave ('PDk'), or one of which has is known.
-/
namespace Go.Proofs.Ytbbjklenpgkooaa
open Go.RowKit By Dk
set_option linter.unusedVariables false
set_option linter.unusedSimpArgs false
set_option maxRecDepth 100000

theorem read_no (v : Value) (z : Int) (w : World) (hH : Calls Try.prog 73 #[v, .int .i64 z] w fun e w' => e = .returned (.bool false) ∧ w' = w) :
    Calls Try.prog 68 #[v, .int .i64 z] w fun e w' => e = .returned (.tuple #[.slice none 0 0, .int .i64 1]) ∧ w' = w := by
  go_enter Try.func68, Try.ntmps68
  go_wp2_with ((go_at_call 73; refine hH.mono ?_; rintro e w' ⟨rfl, hw⟩; subst w'))
  go_ret2
  exact ⟨rfl, rfl⟩

theorem over_all {v u : Nat → Value} {m i : Nat} (h : i < m) : over v 0 m u i = u i := by simp [over, h]

set_option maxHeartbeats 1000000 in
theorem read_yes (p n m a : Nat) (F : Nat → Prop) (f A : Nat → Nat) (D : Nat → Nat → Nat) (z : Int) (hz : z = (a : Int)) (w : World) (h : Pd w F p n m f A D) (ha : a < n) :
    Calls Try.prog 68 #[.pointer (some ⟨p, 0, none⟩), .int .i64 z] w fun e w' => e = .returned (.tuple #[.slice (some ⟨w.heap.size, 0, none⟩) 64 64, .int .i64 0]) ∧ Below w.heap.size w w' ∧ Blk w' w.heap.size 5 64 (fun i => .int .u8 (now f A D a m i : Int)) := by
  obtain ⟨gs, gn, R, s, q, h⟩ := h
  obtain ⟨w1, hmk, hB1, hb1, hs1⟩ := make_blk w 64 (by omega)
  have hmk : (Instr.makeSlice 23 (.int .i64 64) (.int .i64 64)).run Try.prog w = .ok (.slice (some ⟨w.heap.size, 0, none⟩) 64 64) w1 := hmk
  have hn2 := h.n2
  have h1 := h.below hb1
  have hH : Calls Try.prog 73 #[.pointer (some ⟨p, 0, none⟩), .int .i64 z] w fun e w' => e = .returned (.bool true) ∧ w' = w := has_any _ n z true w (size_any p n n _ w h.c2) (fun _ _ => rfl) (fun e => absurd ⟨by omega, by omega⟩ e)
  have c2 := h1.c2
  have hnear := h1.near.cell ha
  have z0 : 0 ≤ z := by omega
  have z1 : z < (n : Int) := by omega
  have hzt : z.toNat = a := by omega
  have hgo : ∀ (b o c : Nat) (u : Nat → Value), (∀ j, j < 64 → w1.cell? ⟨b, o + j, none⟩ = some (u j)) → (∀ j, (u j).oneCell' = true) → (∀ j, j < 64 → u j = .int .u8 (now f A D a m j : Int)) → ∃ w2, (Builtin.copy_ #[23, 23] 3 #[.slice (some ⟨w.heap.size, 0, none⟩) 64 64, .slice (some ⟨b, o, none⟩) 64 c]).run Try.prog w1 = .ok (.int .i64 ((64 : Nat) : Int)) w2 ∧ Hid (Below w.heap.size w w2 ∧ Blk w2 w.heap.size 5 64 (fun i => .int .u8 (now f A D a m i : Int))) := fun b o c u k1 k2 k3 => by
    obtain ⟨w2, r1, r2, r3, r4⟩ := copy_blk w1 w.heap.size 0 64 64 64 c b o 5 _ u hB1 (by omega) k1 k2
    refine ⟨w2, r1, hb1.trans (r3.below (fun k hk => by omega) (by omega)), r2.congr fun k hk => ?_⟩
    rw [over_all hk, k3 k hk]
  by_cases h0 : last A a m = 0
  · have hne : nearV q A m a = .pointer none := by simp [nearV, h0]
    rw [hne] at hnear
    have hsec : Calls Try.prog 62 #[.pointer (some ⟨p, 0, none⟩), .int .i64 z] w1 fun e w' => e = .returned (.slice (some ⟨gs, 64 * a, none⟩) 64 (s - 64 * a)) ∧ w' = w1 := sector_any p gs s n a z hz w1 h1.c0 h.len ha h.n2
    obtain ⟨w2, hcp, H2⟩ := hgo gs (64 * a) (s - 64 * a) (fun j => .int .u8 (f (64 * a + j) : Int)) (fun j hj => h1.safe.cell (k := 64 * a + j) (by have := h.len; omega)) (fun _ => rfl) (fun j hj => by simp [now, h0, sec])
    generalize 64 * a = o at *
    generalize s - o = c at *
    clear h h1 hgo hB1 hb1 h0 hne hz hs1
    go_enter Try.func68, Try.ntmps68
    go_wp2_with (first
      | (go_at_call 73; refine hH.mono ?_; rintro e w' ⟨rfl, hw⟩; subst w'; clear hH)
      | (go_at_call 62; refine hsec.mono ?_; rintro e w' ⟨rfl, hw⟩; subst w'; clear hsec))
    go_ret2
    exact ⟨rfl, H2.out⟩
  · have hne : nearV q A m a = .pointer (some ⟨q (last A a m - 1), 0, none⟩) := by simp [nearV, h0]
    rw [hne] at hnear
    have hle := last_le A a m
    have hq := h1.wr (last A a m - 1) (by omega)
    obtain ⟨w2, hcp, H2⟩ := hgo (q (last A a m - 1)) 1 64 (fun j => .int .u8 (D (last A a m - 1) j : Int)) (fun j hj => by
      have := hq.cell (k := 1 + j) (by omega)
      rw [this]
      simp [wrV, Nat.add_comm]) (fun _ => rfl) (fun j hj => by simp [now, h0])
    generalize q (last A a m - 1) = b at *
    have hca := fun v => cut_arr b v
    clear h h1 hgo hB1 hb1 h0 hne hz hs1 hq hle
    go_enter Try.func68, Try.ntmps68
    go_wp2_with (first
      | (go_at_call 73; refine hH.mono ?_; rintro e w' ⟨rfl, hw⟩; subst w'; clear hH))
    go_ret2
    exact ⟨rfl, H2.out⟩

end Go.Proofs.Ytbbjklenpgkooaa

/-
  What New and Write of a disk do: contracts over plain numbers ('DkPlain').
  Conditions: Write's disk is one that New gave ('PDk'), or one of which has is known.
-/
namespace Go.Proofs.Ytbbjklenpgkooaa
open Go.RowKit By Dk
set_option linter.unusedVariables false
set_option linter.unusedSimpArgs false
set_option maxRecDepth 100000

theorem new_no (z : Int) (w : World) (h : z < 1 ∨ 4096 < z) :
    Calls Try.prog 22 #[.int .i64 z] w fun e w' => e = .returned (.tuple #[.pointer none, .int .i64 1]) ∧ w' = w := by
  by_cases h1 : z < 1
  · clear h
    go_enter Try.func22, Try.ntmps22
    go_wp2_with fail
    go_ret2
    exact ⟨rfl, rfl⟩
  · have h2 : 4096 < z := by omega
    clear h
    go_enter Try.func22, Try.ntmps22
    go_wp2_with fail
    go_ret2
    exact ⟨rfl, rfl⟩

theorem pd_new {w w1 w2 : World} {gs gn n s : Nat} (A : Nat → Nat) (D : Nat → Nat → Nat) (hD : ∀ i j, D i j < 256) (hs : s = 64 * n) (h1 : 1 ≤ n) (h2 : n ≤ 4096) (hb : Below w.heap.size w w2) (b1 : Blk w2 gs 5 s (fun _ => .int .u8 0)) (b2 : Blk w2 gn 78 n (fun _ => .pointer none)) (g1 : w.heap.size ≤ gs) (g2 : w.heap.size ≤ gn) :
    Below w.heap.size w (w2.alloc (.cells #[.slice (some ⟨gs, 0, none⟩) s s, .slice none 0 0, .slice (some ⟨gn, 0, none⟩) n n] 75)) ∧
    Pd (w2.alloc (.cells #[.slice (some ⟨gs, 0, none⟩) s s, .slice none 0 0, .slice (some ⟨gn, 0, none⟩) n n] 75)) (fun k => w.heap.size ≤ k ∧ k < w2.heap.size + 1) w2.heap.size n 0 (fun _ => 0) A D := by
  have hb3 : Below w2.heap.size w2 (w2.alloc (.cells #[.slice (some ⟨gs, 0, none⟩) s s, .slice none 0 0, .slice (some ⟨gn, 0, none⟩) n n] 75)) := (Below.refl _ _).alloc (Nat.le_refl _) _
  have l1 := b1.lt
  have l2 := b2.lt
  have hsz := hb.size
  refine ⟨hb.trans (hb3.mono hb.size), gs, gn, .slice none 0 0, s, fun _ => 0, ⟨Blk.new _ _ _ _ _ rfl, ?_, ?_, ⟨rfl, .inl ⟨rfl, rfl⟩⟩, fun i hi => by omega, fun i hi => by omega, hs, by simp [Value.ownBlock], ⟨hsz, by omega⟩, ⟨g1, by omega⟩, ⟨g2, by omega⟩, fun i hi => by omega, fun g hg => by simp [Value.ownBlock] at hg, fun _ => by omega, hD, fun k hk => by simp; omega, h1, h2, by omega⟩⟩
  · exact b1.of_heap (hb3.block _ l1)
  · exact (b2.of_heap (hb3.block _ l2)).congr fun k hk => rfl

set_option maxHeartbeats 1000000 in
set_option maxRecDepth 100000 in
theorem new_yes (n : Nat) (z : Int) (hz : z = (n : Int)) (A : Nat → Nat) (D : Nat → Nat → Nat) (hD : ∀ i j, D i j < 256) (w : World) (h1 : 1 ≤ n) (h2 : n ≤ 4096) :
    Calls Try.prog 22 #[.int .i64 z] w fun e w' => ∃ p, e = .returned (.tuple #[.pointer (some ⟨p, 0, none⟩), .int .i64 0]) ∧ Below w.heap.size w w' ∧ Pd w' (fun k => w.heap.size ≤ k ∧ k < w'.heap.size) p n 0 (fun _ => 0) A D := by
  subst hz
  obtain ⟨s, hs⟩ : ∃ s, s = 64 * n := ⟨_, rfl⟩
  have e1 : (n : Int) * 64 = (s : Int) := by omega
  have hs9 : s ≤ 262144 := by omega
  have hwr : IntKind.i64.wrap (s : Int) = (s : Int) := by rw [IntKind.wrap_i64]; omega
  obtain ⟨w1, m1, a1, b1, c1⟩ := make_blk w.drew s (by omega)
  obtain ⟨w2, m2, a2, b2, c2⟩ := make_ptrs w1 n h2
  obtain ⟨v1, m3, a3, b3, c3⟩ := make_ptrs w.drew n h2
  obtain ⟨v2, m4, a4, b4, c4⟩ := make_blk v1 s (by omega)
  have hp1 : Below w.heap.size w w2 := by
    have h0 : Below w.heap.size w w.drew := (Below.refl _ _).drew
    exact h0.trans (b1.trans (b2.mono (by rw [c1]; exact Nat.le_succ _)))
  have hp2 : Below w.heap.size w v2 := by
    have h0 : Below w.heap.size w w.drew := (Below.refl _ _).drew
    exact h0.trans (b3.trans (b4.mono (by rw [c3]; exact Nat.le_succ _)))
  have hd1 := pd_new (w := w) (w1 := w1) A D hD hs h1 h2 hp1 (a1.of_heap (b2.block _ a1.lt)) a2 (Nat.le_refl _) (by rw [c1]; exact Nat.le_succ _)
  have hd2 := pd_new (w := w) (w1 := w1) A D hD hs h1 h2 hp2 a4 (a3.of_heap (b4.block _ a3.lt)) (by rw [c3]; exact Nat.le_succ _) (Nat.le_refl _)
  have H1 := hid hd1
  have H2 := hid hd2
  clear a1 a2 a3 a4 b1 b2 b3 b4 hs hD hp1 hp2 hd1 hd2 c1 c2 c3 c4
  have hd : w.drew.heap.size = w.heap.size := rfl
  rw [hd] at m1 m3
  rw [hd] at H1 H2
  clear hd
  go_enter Try.func22, Try.ntmps22
  go_wp2_with fail
  go_region
  all_goals go_wp2_with fail
  · go_ret2
    refine ⟨_, rfl, H1.out.1, ?_⟩
    simpa using H1.out.2
  · go_ret2
    refine ⟨_, rfl, H2.out.1, ?_⟩
    simpa using H2.out.2

theorem write_no (v : Value) (z : Int) (x : Option Addr) (l c : Nat) (t : Bool) (w : World) (hH : Calls Try.prog 73 #[v, .int .i64 z] w fun e w' => e = .returned (.bool t) ∧ w' = w) (hl : t = true → l ≠ 64) :
    Calls Try.prog 59 #[v, .int .i64 z, .slice x l c] w fun e w' => e = .returned (.int .i64 1) ∧ w' = w := by
  cases t with
  | false =>
    clear hl
    go_enter Try.func59, Try.ntmps59
    go_wp2_with ((go_at_call 73; refine hH.mono ?_; rintro e w' ⟨rfl, hw⟩; subst w'))
    go_ret
    exact ⟨rfl, rfl⟩
  | true =>
    have hl : ((l : Int) == 64) = false := by
      have := hl rfl
      rw [beq_eq_false_iff_ne]
      omega
    go_enter Try.func59, Try.ntmps59
    go_wp2_with ((go_at_call 73; refine hH.mono ?_; rintro e w' ⟨rfl, hw⟩; subst w'))
    go_ret
    exact ⟨rfl, rfl⟩

end Go.Proofs.Ytbbjklenpgkooaa

/-
  What Write of a disk does: a contract over plain numbers ('DkPlain').
  Conditions: the disk is one that New gave ('PDk'); there is such a sector; Sector bytes are written.
-/
namespace Go.Proofs.Ytbbjklenpgkooaa
open Go.RowKit By Dk
set_option linter.unusedVariables false
set_option linter.unusedSimpArgs false
set_option maxRecDepth 100000

def wcs (a : Nat) : Array Value := (rowOf (wrV a (fun _ => 0)) 65).toArray

theorem pd_write {w w4 : World} {F : Nat → Prop} {p gs gn : Nat} {R R' : Value} {n s m Q a : Nat} {f A g : Nat → Nat} {D : Nat → Nat → Nat} {q : Nat → Nat} (h : PDk w F p gs gn R n s m f A D q) (T : Turns (fun k => R.ownBlock = some k) w w4)
    (hQ : Blk w4 Q 108 65 (wrV a g)) (hQs : w.heap.size ≤ Q) (ho : w4.ownsRow 0 78 1 R' (m + 1) (rowOf (fun i => .pointer (some ⟨q i, 0, none⟩)) m ++ [.pointer (some ⟨Q, 0, none⟩)])) (hR' : ∀ k, R'.ownBlock = some k → R.ownBlock = some k ∨ w.heap.size ≤ k) (ha : a < n) (hg : ∀ i, g i < 256) (hm : m < 1000) :
    Turns F w ((w4.setCell ⟨p, 1, none⟩ R').setCell ⟨gn, a, none⟩ (.pointer (some ⟨Q, 0, none⟩))) ∧
    Pd ((w4.setCell ⟨p, 1, none⟩ R').setCell ⟨gn, a, none⟩ (.pointer (some ⟨Q, 0, none⟩))) (grow F w ((w4.setCell ⟨p, 1, none⟩ R').setCell ⟨gn, a, none⟩ (.pointer (some ⟨Q, 0, none⟩)))) p n (m + 1) f (ext A m a) (ext D m g) := by
  have hp := h.obj.lt
  have hgs := h.safe.lt
  have hgn := h.near.lt
  have np : R.ownBlock ≠ some p := ownsRow_ne h.own h.obj (by decide)
  have ns : R.ownBlock ≠ some gs := ownsRow_ne h.own h.safe (by decide)
  have nq : ∀ i, i < m → R.ownBlock ≠ some (q i) := fun i hi => ownsRow_ne h.own (h.wr i hi) (by decide)
  have pgn : p ≠ gn := h.obj.ne h.near (by decide)
  have pgs : p ≠ gs := h.obj.ne h.safe (by decide)
  have gsn : gs ≠ gn := h.safe.ne h.near (by decide)
  have T' : Turns F w w4 := T.weak (fun k hk => h.fR k hk)
  have T5 := T'.setCell (p := ⟨p, 1, none⟩) (.inl h.fp) R'
  have T6 := T5.setCell (p := ⟨gn, a, none⟩) (.inl h.fn) (.pointer (some ⟨Q, 0, none⟩))
  have hsz := T6.size
  have keep : ∀ k, k ≠ p → k ≠ gn → ((w4.setCell ⟨p, 1, none⟩ R').setCell ⟨gn, a, none⟩ (.pointer (some ⟨Q, 0, none⟩))).heap[k]? = w4.heap[k]? := fun k h1 h2 =>
    (Below.heap_setCell _ _ _ _ h2).trans (Below.heap_setCell _ _ _ _ h1)
  have hpos : ∀ k, R'.ownBlock = some k → k ≠ p ∧ k ≠ gn := fun k hk => by
    rcases hR' k hk with h1 | h1
    · exact ⟨fun e => np (by rw [h1, e]), fun e => h.rn (by rw [h1, e])⟩
    · omega
  refine ⟨T6, gs, gn, R', s, ext q m Q, ⟨?_, ?_, ?_, ?_, fun i hi => ?_, fun i hi => ?_, h.len, fun e => (hpos _ e).2 rfl, .inl h.fp, .inl h.fs, .inl h.fn, fun i hi => ?_, fun k hk => ?_, h.lt, fun i j => ?_, fun k hk => ?_, h.n1, h.n2, by omega⟩⟩
  · refine Blk.of_heap (w := w4.setCell ⟨p, 1, none⟩ R') (((h.obj.of_heap (T.block _ hp np)).set 1 R').congr fun k hk => ?_) (Below.heap_setCell _ _ _ _ pgn)
    unfold upd obj3
    by_cases e : k = 1
    · simp [e]
    · simp [e]
  · exact (h.safe.of_heap (T.block _ hgs ns)).of_heap (keep _ (Ne.symm pgs) gsn)
  · have b4 : Blk (w4.setCell ⟨p, 1, none⟩ R') gn 78 n (nearV q A m) := (h.near.of_heap (T.block _ hgn h.rn)).of_heap (Below.heap_setCell _ _ _ _ (Ne.symm pgn))
    refine (b4.set a (.pointer (some ⟨Q, 0, none⟩))).congr fun k hk => ?_
    unfold upd nearV
    rw [last_ext]
    by_cases e : k = a
    · subst e
      simp [ext_new]
    · have e' : ¬ a = k := fun h => e h.symm
      rw [if_neg e]
      simp only [if_neg e']
      by_cases h0 : last A k m = 0
      · simp [h0]
      · have := last_le A k m
        rw [if_neg h0, if_neg h0, ext_old q m Q (by omega)]
  · have e : rowOf (fun i => Value.pointer (some ⟨ext q m Q i, 0, none⟩)) (m + 1) = rowOf (fun i => .pointer (some ⟨q i, 0, none⟩)) m ++ [.pointer (some ⟨Q, 0, none⟩)] := by
      rw [rowOf_succ, ext_new, rowOf_congr (fun k hk => by rw [ext_old q m Q hk])]
    rw [e]
    exact ownsRow_same ho (fun k hk => keep k (hpos k hk).1 (hpos k hk).2)
  · by_cases e : i < m
    · have b := h.wr i e
      rw [ext_old q m Q e, ext_old A m a e, ext_old D m g e]
      refine (b.of_heap (T.block _ b.lt (nq i e))).of_heap (keep _ (b.ne h.obj (by decide)) (b.ne h.near (by decide)))
    · obtain rfl : i = m := by omega
      rw [ext_new, ext_new, ext_new]
      exact hQ.of_heap (keep _ (by omega) (by omega))
  · by_cases e : i < m
    · rw [ext_old A m a e]; exact h.at_ i e
    · obtain rfl : i = m := by omega
      rw [ext_new]; exact ha
  · by_cases e : i < m
    · rw [ext_old q m Q e]; exact .inl (h.fq i e)
    · obtain rfl : i = m := by omega
      rw [ext_new]
      refine .inr ⟨hQs, ?_⟩
      have := hQ.lt
      simpa [World.setCell] using this
  · rcases hR' k hk with h1 | h1
    · exact .inl (h.fR k h1)
    · refine .inr ⟨h1, ?_⟩
      have := (ho.lt k hk).2
      simpa [World.setCell] using this
  · unfold ext
    split
    · exact h.ltD i j
    · exact hg j
  · rcases hk with hk | hk
    · exact Nat.lt_of_lt_of_le (h.flt k hk) hsz
    · exact hk.2

set_option maxHeartbeats 1000000 in
theorem write_yes (p n m a c : Nat) (F : Nat → Prop) (f A g : Nat → Nat) (D : Nat → Nat → Nat) (x : Option Addr) (z : Int) (hz : z = (a : Int)) (w : World) (h : Pd w F p n m f A D) (ha : a < n) (hx : RowAt w x 64 g) (hg : ∀ i, g i < 256) (hm : m < 1000) :
    Calls Try.prog 59 #[.pointer (some ⟨p, 0, none⟩), .int .i64 z, .slice x 64 c] w fun e w' => e = .returned (.int .i64 0) ∧ Turns F w w' ∧ Pd w' (grow F w w') p n (m + 1) f (ext A m a) (ext D m g) := by
  subst hz
  obtain ⟨gs, gn, R, s, q, h⟩ := h
  have hn2 := h.n2
  have hH : Calls Try.prog 73 #[.pointer (some ⟨p, 0, none⟩), .int .i64 (a : Int)] w fun e w' => e = .returned (.bool true) ∧ w' = w := has_any _ n a true w (size_any p n n _ w h.c2) (fun _ _ => rfl) (fun e => absurd ⟨by omega, by omega⟩ e)
  rcases hx with hx | ⟨b, o, rfl, hb, hc⟩
  · omega
  have b1 : Below w.heap.size w (w.alloc (.cells (wcs a) 108)) := (Below.refl _ _).alloc (Nat.le_refl _) _
  have hQ1 : Blk (w.alloc (.cells (wcs a) 108)) w.heap.size 108 65 (wrV a (fun _ => 0)) := Blk.new _ _ _ _ _ rfl
  obtain ⟨w2, hcp, hQ2, t2, s2⟩ := copy_blk (w.alloc (.cells (wcs a) 108)) w.heap.size 1 64 65 64 c b o 108 _ (fun j => .int .u8 (g j : Int)) hQ1 (by omega) (fun j hj => (b1.cell (p := ⟨b, o + j, none⟩) hb).trans (hc j hj)) (fun _ => rfl)
  have hsz2 : w2.heap.size = w.heap.size + 1 := by simpa using s2
  have h1 := h.below b1
  have bw2 : Below w.heap.size w w2 := b1.trans (t2.below (fun k hk => by omega) (by simp))
  have h2 := h.below bw2
  have b3 : Below w.heap.size w (w2.alloc (.cells #[.pointer (some ⟨w.heap.size, 0, none⟩)] 78)) := bw2.alloc bw2.size _
  have h3 := h.below b3
  obtain ⟨i0, hi, hz0, hz1, hz2⟩ := info_parts info_ptr
  obtain ⟨R', w4, hap, ho, hgr, hR'⟩ := push_gen (w2.alloc (.cells #[.pointer (some ⟨w.heap.size, 0, none⟩)] 78)) 73 78 i0 (.pointer none) 1 8 Try.underlying73 hi hz0 hz1 hz2 rfl (by decide) R m _ h3.own
    ⟨w2.heap.size, 0, none⟩ 1 1 [.pointer (some ⟨w.heap.size, 0, none⟩)] rfl (fun j u hj => by
      match j, hj with
      | 0, hj => rw [add_at]; simpa using hj
      | j + 1, hj => simp at hj) (fun u hu => by simp at hu; subst hu; rfl) (by omega) (by unfold maxLen; omega) (by omega)
  obtain ⟨x', c', hRe, _⟩ := ownsRow_form ho
  subst hRe
  have T4 : Turns (fun k => R.ownBlock = some k) w w4 := (Turns.of_below b3).grown hgr (fun k hk => .inl hk)
  have hRlt : ∀ k, R.ownBlock = some k → k < w.heap.size := fun k hk => h.flt k (h.fR k hk)
  have hQ4 : Blk w4 w.heap.size 108 65 (wrV a g) := by
    have e1 : Blk w2 w.heap.size 108 65 (wrV a g) := hQ2.congr fun k hk => by
      unfold over wrV
      by_cases e : k = 0
      · simp [e]
      · rw [if_pos ⟨by omega, by omega⟩, if_neg e]
    have e2 := e1.of_heap (w' := w2.alloc (.cells #[.pointer (some ⟨w.heap.size, 0, none⟩)] 78)) (heap_alloc_old _ _ (by omega))
    exact e2.of_heap (hgr.block _ e2.lt (fun e => by have := hRlt _ e.symm; omega))
  have hsz3 : (w2.alloc (.cells #[.pointer (some ⟨w.heap.size, 0, none⟩)] 78)).heap.size = w.heap.size + 2 := by simp [hsz2]
  have HF := hid (pd_write h T4 hQ4 (Nat.le_refl _) ho (fun k hk => by rcases hR' k hk with e | e; exact .inl e; right; omega) ha hg hm)
  have np : R.ownBlock ≠ some p := ownsRow_ne h.own h.obj (by decide)
  have o4 := h.obj.of_heap (T4.block _ h.obj.lt np)
  have n4 := h.near.of_heap (T4.block _ h.near.lt h.rn)
  have k1 := h2.c1
  have k4 := o4.cell (k := 1) (by omega)
  have f4 := o4.frozen 1
  have o5 := o4.set 1 (.slice x' (m + 1) c')
  have k5 : (w4.setCell ⟨p, 1, none⟩ (.slice x' (m + 1) c')).cell? ⟨p, 2, none⟩ = some (.slice (some ⟨gn, 0, none⟩) n n) := o5.cell (k := 2) (by omega)
  have n5 : Blk (w4.setCell ⟨p, 1, none⟩ (.slice x' (m + 1) c')) gn 78 n (nearV q A m) := n4.of_heap (Below.heap_setCell _ _ _ _ (Ne.symm (h.obj.ne h.near (by decide))))
  have k6 := n5.cell ha
  have f6 := n5.frozen a
  have hca : ∀ v, _ := fun v => cut_arr w.heap.size v
  clear h h1 h2 h3 b1 b3 bw2 hQ1 hQ2 hQ4 t2 s2 T4 ho hgr hR' hRlt hc hb np o4 n4 o5 n5 hi hz0 hz1 hz2 hsz2 hsz3 hg
  generalize nearV q A m a = V at *
  go_enter Try.func59, Try.ntmps59
  go_wp2_with (first
    | (go_at_call 73; refine hH.mono ?_; rintro e w' ⟨rfl, hw⟩; subst w'; clear hH)
    | (refine wpList_buildAs rfl _ _ rfl (wcs a) (by kernel_rfl) ?_)
    | (at_builtin; refine wpList_append_run rfl _ _ 73 rfl _ _ rfl rfl hap ?_; clear hap))
  go_ret
  exact ⟨rfl, HF.out⟩

end Go.Proofs.Ytbbjklenpgkooaa
