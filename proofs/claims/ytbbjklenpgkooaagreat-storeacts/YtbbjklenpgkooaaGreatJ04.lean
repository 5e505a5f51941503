/-
  4 texts of this proof, one behind the other: JoPlain, JoInv, JoSmall, JoFive.
-/
import Derived.Test.YtbbjklenpgkooaaGreatJ02
import Derived.Test.YtbbjklenpgkooaaGreatJ03
import Derived.Laws.BitsAllLaws
import Derived.Laws.ResultCell
/-
  A journal in plain numbers: a part's sector, which records sectors are, what a record that is put, a flush and a crash make of them.
  Conditions: none.
-/
namespace Go.Proofs.YtbbjklenpgkooaaGreat.Jo
open Su Dk Go.Proofs.YtbbjklenpgkooaaGreat
set_option linter.unusedVariables false
set_option linter.unusedSimpArgs false
set_option maxRecDepth 100000

def genS (s : Nat → Nat) : Nat := s 1 + 256 * s 2
def num (s : Nat → Nat) : Nat := s 3 + 256 * (s 4 + 256 * (s 5 + 256 * s 6))
def cnt (s : Nat → Nat) : Nat := s 8 % 128
def lst (s : Nat → Nat) : Bool := decide (128 ≤ s 8)

def canB (p n : Nat) (l : Bool) : Prop := if l = true then n ≤ 51 ∧ p < 255 ∧ (0 < n ∨ p = 0) else n = 51 ∧ p + 1 < 255

theorem canB_le {p n : Nat} {l : Bool} (h : canB p n l) : n ≤ 51 := by
  unfold canB at h
  split at h <;> omega

structure OkP (s : Nat → Nat) : Prop where
  ends : Ends s 60
  mark : s 0 = 74
  can : canB (s 7) (cnt s) (lst s)
  zero : ∀ i, 9 + cnt s ≤ i → i < 60 → s i = 0

structure OkR (s : Nat → Nat) : Prop where
  ends : Ends s 60
  mark : s 0 = 74
  can : cnt s ≤ 51 ∧ (cnt s = 51 ∨ lst s = true)
  zero : ∀ i, 9 + cnt s ≤ i → i < 60 → s i = 0

theorem OkP.r {s : Nat → Nat} (h : OkP s) : OkR s := ⟨h.ends, h.mark, by
  have := h.can
  unfold canB at this
  by_cases e : lst s = true
  · rw [if_pos e] at this
    exact ⟨this.1, .inr e⟩
  · rw [if_neg e] at this
    exact ⟨by omega, .inl this.1⟩, h.zero⟩

/- A record that begins at a sector, of so many parts. -/
structure Rec (ok : (Nat → Nat) → Prop) (S : Nat → Nat → Nat) (n a r c : Nat) : Prop where
  pos : 0 < c
  fits : a + c ≤ n
  ok : ∀ k, k < c → ok (S (a + k))
  num : ∀ k, k < c → num (S (a + k)) = r
  plc : ∀ k, k < c → S (a + k) 7 = k
  gen : ∀ k, k < c → genS (S (a + k)) = genS (S a)
  mid : ∀ k, k + 1 < c → lst (S (a + k)) = false
  last : lst (S (a + (c - 1))) = true

section
variable {ok ok' : (Nat → Nat) → Prop} {S S' : Nat → Nat → Nat} {n a r c c' m m' : Nat} {st st' : Nat → Nat}

theorem Rec.lt (h : Rec ok S n a r c) (k : Rec ok S n a r c') : ¬ c < c' := fun e => by
  have h1 := k.mid (c - 1) (by have := h.pos; omega)
  rw [h.last] at h1
  cases h1

theorem Rec.uniq (h : Rec ok S n a r c) (k : Rec ok S n a r c') : c = c' := by
  have := h.lt k
  have := k.lt h
  omega

theorem Rec.congr (h : Rec ok S n a r c) (e : ∀ k, k < c → S (a + k) = S' (a + k)) : Rec ok S' n a r c := by
  have e0 : S a = S' a := by have := e 0 h.pos; simpa using this
  exact ⟨h.pos, h.fits, fun k hk => by rw [← e k hk]; exact h.ok k hk, fun k hk => by rw [← e k hk]; exact h.num k hk, fun k hk => by rw [← e k hk]; exact h.plc k hk, fun k hk => by rw [← e k hk, ← e0]; exact h.gen k hk,
    fun k hk => by rw [← e k (by omega)]; exact h.mid k hk, by rw [← e (c - 1) (by have := h.pos; omega)]; exact h.last⟩

theorem Rec.okc (h : Rec ok S n a r c) (e : ∀ k, k < n → ok (S k) → ok' (S k)) : Rec ok' S n a r c :=
  ⟨h.pos, h.fits, fun k hk => e _ (by have := h.fits; omega) (h.ok k hk), h.num, h.plc, h.gen, h.mid, h.last⟩

def bef (S : Nat → Nat → Nat) (st : Nat → Nat) (m : Nat) : Nat := if m = 0 then 0 else genS (S (st (m - 1)))

structure Run (ok : (Nat → Nat) → Prop) (S : Nat → Nat → Nat) (n m : Nat) (st : Nat → Nat) : Prop where
  zero : st 0 = 0
  up : ∀ i, i < m → st i < st (i + 1)
  one : ∀ i, i < m → Rec ok S n (st i) (i + 1) (st (i + 1) - st i)
  gen : ∀ i, i < m → bef S st i ≤ genS (S (st i))

structure Recs (ok : (Nat → Nat) → Prop) (S : Nat → Nat → Nat) (n m : Nat) (st : Nat → Nat) : Prop where
  run : Run ok S n m st
  fin : ∀ c, Rec ok S n (st m) (m + 1) c → genS (S (st m)) < bef S st m

theorem Run.take (h : Run ok S n m st) (hm : m' ≤ m) : Run ok S n m' st := ⟨h.zero, fun i hi => h.up i (by omega), fun i hi => h.one i (by omega), fun i hi => h.gen i (by omega)⟩

theorem Run.mono (h : Run ok S n m st) {i : Nat} : ∀ j, i ≤ j → j ≤ m → st i ≤ st j
  | 0, h1, _ => by obtain rfl : i = 0 := by omega
                   exact Nat.le_refl _
  | j + 1, h1, h2 => by
    rcases Nat.lt_or_ge j i with e | e
    · obtain rfl : i = j + 1 := by omega
      exact Nat.le_refl _
    · have := h.mono j e (by omega)
      have := h.up j (by omega)
      omega

theorem Run.lt_at (h : Run ok S n m st) {i j : Nat} (h1 : i < j) (h2 : j ≤ m) : st i < st j := by
  have := h.up i (by omega)
  have := h.mono j (i := i + 1) h1 h2
  omega

theorem Run.count (h : Run ok S n m st) : ∀ i, i ≤ m → i ≤ st i
  | 0, _ => Nat.zero_le _
  | i + 1, hi => by
    have := h.count i (by omega)
    have := h.up i (by omega)
    omega

theorem Run.le (h : Run ok S n m st) : st m ≤ n := by
  cases m with
  | zero => rw [h.zero]; exact Nat.zero_le _
  | succ m =>
    have h1 := (h.one m (Nat.lt_succ_self m)).fits
    have := h.up m (Nat.lt_succ_self m)
    omega

theorem bef_congr (e : ∀ k, k < st m → S k = S' k) (hup : ∀ i, i < m → st i < st m) : bef S st m = bef S' st m := by
  unfold bef
  split
  · rfl
  · rw [e _ (hup _ (by omega))]

theorem Run.congr (h : Run ok S n m st) (e : ∀ k, k < st m → S k = S' k) : Run ok S' n m st := by
  refine ⟨h.zero, h.up, fun i hi => (h.one i hi).congr fun k hk => e _ ?_, fun i hi => ?_⟩
  · have := h.mono m (i := i + 1) hi (Nat.le_refl _)
    omega
  · rw [← bef_congr (S := S) (fun k hk => e k (by have := h.mono m (i := i) (by omega) (Nat.le_refl _); omega)) (fun j hj => h.lt_at hj (by omega)), ← e _ (h.lt_at hi (Nat.le_refl _))]
    exact h.gen i hi

theorem Run.same (h : Run ok S n m st) (k : Run ok S n m' st') : ∀ i, i ≤ m → i ≤ m' → st i = st' i
  | 0, _, _ => by rw [h.zero, k.zero]
  | i + 1, h1, h2 => by
    have ih := h.same k i (by omega) (by omega)
    have r1 := h.one i (by omega)
    have r2 := k.one i (by omega)
    rw [← ih] at r2
    have := r1.uniq r2
    have := h.up i (by omega)
    have := k.up i (by omega)
    omega

theorem bef_same (e : ∀ i, i ≤ m → st i = st' i) : bef S st m = bef S st' m := by
  unfold bef
  split
  · rfl
  · rw [e _ (by omega)]

theorem Recs.not_lt (h : Recs ok S n m st) (k : Run ok S n m' st') : ¬ m < m' := fun e => by
  have hs := fun i hi => h.run.same k i hi (by omega)
  have r := k.one m e
  have g := k.gen m e
  rw [← hs m (Nat.le_refl _)] at r g
  have f := h.fin _ r
  rw [bef_same hs] at f
  omega

theorem Recs.uniq (h : Recs ok S n m st) (k : Recs ok S n m' st') : m = m' ∧ ∀ i, i ≤ m → st i = st' i := by
  have h1 := h.not_lt k.run
  have h2 := k.not_lt h.run
  obtain rfl : m = m' := by omega
  exact ⟨rfl, fun i hi => h.run.same k.run i hi hi⟩

theorem Recs.okc (h : Recs ok S n m st) (e : ∀ k, k < n → (ok (S k) ↔ ok' (S k))) : Recs ok' S n m st :=
  ⟨⟨h.run.zero, h.run.up, fun i hi => (h.run.one i hi).okc fun k hk => (e k hk).1, h.run.gen⟩, fun c hc => h.fin c (hc.okc fun k hk => (e k hk).2)⟩

end

def rlen (S : Nat → Nat → Nat) (a c : Nat) : Nat := 51 * (c - 1) + cnt (S (a + (c - 1)))
def rbyte (S : Nat → Nat → Nat) (a : Nat) : Nat → Nat := fun j => S (a + j / 51) (9 + j % 51)

/- A part's sector. -/
def pcs (l : Nat) : Nat := if l = 0 then 1 else (l + 50) / 51
def plen (l k : Nat) : Nat := min (l - 51 * k) 51
def plast (l k : Nat) : Bool := decide (k + 1 = pcs l)

def hd (g r l : Nat) (b : Nat → Nat) (k : Nat) : Nat → Nat := fun i =>
  if i = 0 then 74 else if i = 1 then g % 256 else if i = 2 then g / 256 % 256 else if i = 3 then r % 256 else if i = 4 then r / 256 % 256 else if i = 5 then r / 65536 % 256
  else if i = 6 then r / 16777216 % 256 else if i = 7 then k % 256 else if i = 8 then plen l k + (if plast l k = true then 128 else 0) else if i < 9 + plen l k then b (51 * k + (i - 9)) else 0

def mkS (g r l : Nat) (b : Nat → Nat) (k : Nat) : Nat → Nat := fun i => if i < 60 then hd g r l b k i else if i < 64 then lo (sumOf (hd g r l b k) 60) (i - 60) else 0

theorem pcs_pos (l : Nat) : 0 < pcs l := by unfold pcs; split <;> omega

theorem pcs_le {l : Nat} (h : l ≤ 13005) : pcs l ≤ 255 := by unfold pcs; split <;> omega

theorem pcs_fits {l k : Nat} : pcs l ≤ k ↔ 0 < k ∧ l ≤ 51 * k := by unfold pcs; split <;> omega

theorem plen_le (l k : Nat) : plen l k ≤ 51 := by unfold plen; omega

theorem plen_mid {l k : Nat} (h : k + 1 < pcs l) : plen l k = 51 := by
  unfold pcs at h
  unfold plen
  split at h <;> omega

theorem plen_last {l : Nat} : 51 * (pcs l - 1) + plen l (pcs l - 1) = l := by
  unfold pcs plen
  split <;> omega

theorem plen_zero {l k : Nat} (h : k < pcs l) (h0 : plen l k = 0) : k = 0 := by
  unfold pcs at h
  unfold plen at h0
  split at h <;> omega

section
variable {g r l k : Nat} {b : Nat → Nat}

theorem hd_lt (hb : ∀ i, b i < 256) (i : Nat) : hd g r l b k i < 256 := by
  unfold hd
  have := plen_le l k
  repeat' split
  all_goals first | omega | exact hb _

theorem mk_lt (hb : ∀ i, b i < 256) (i : Nat) : mkS g r l b k i < 256 := by
  unfold mkS
  split
  · exact hd_lt hb i
  · split
    · exact lo_lt _ _
    · omega

theorem mk_gen (hg : g < 65536) : genS (mkS g r l b k) = g := by
  show g % 256 + 256 * (g / 256 % 256) = g
  omega

theorem mk_num (hr : r < 4294967296) : num (mkS g r l b k) = r := by
  show r % 256 + 256 * (r / 256 % 256 + 256 * (r / 65536 % 256 + 256 * (r / 16777216 % 256))) = r
  omega

theorem mk_plc (hk : k < 256) : mkS g r l b k 7 = k := Nat.mod_eq_of_lt hk

theorem mk_eight : mkS g r l b k 8 = plen l k + (if plast l k = true then 128 else 0) := rfl

theorem mk_cnt : cnt (mkS g r l b k) = plen l k := by
  unfold cnt
  rw [mk_eight]
  have := plen_le l k
  split <;> omega

theorem mk_lst : lst (mkS g r l b k) = plast l k := by
  unfold lst
  rw [mk_eight]
  have := plen_le l k
  split
  · rename_i h; rw [h]; simp
  · rename_i h
    have : plast l k = false := by simpa using h
    rw [this]
    simp
    omega

theorem mk_ends : Ends (mkS g r l b k) 60 := fun i hi => by
  rw [sumOf_congr (f := mkS g r l b k) (g := hd g r l b k) (n := 60) fun i hi => by simp [mkS, hi]]
  unfold mkS
  rw [if_neg (by omega), if_pos (by omega)]
  congr 1
  omega

theorem mk_ok (hk : k < pcs l) (hl : l ≤ 13005) : OkP (mkS g r l b k) := by
  have hp := pcs_le hl
  refine ⟨mk_ends, rfl, ?_, fun i h1 h2 => ?_⟩
  · rw [mk_plc (by omega), mk_cnt, mk_lst]
    unfold canB
    by_cases e : plast l k = true
    · rw [if_pos e]
      refine ⟨plen_le l k, by omega, ?_⟩
      by_cases e0 : plen l k = 0
      · exact .inr (plen_zero hk e0)
      · exact .inl (by omega)
    · rw [if_neg e]
      have : k + 1 ≠ pcs l := fun h => e (by simp [plast, h])
      exact ⟨plen_mid (by omega), by omega⟩
  · rw [mk_cnt] at h1
    unfold mkS hd
    rw [if_pos h2]
    have : ¬ i < 9 + plen l k := by omega
    simp only [this, if_false]
    repeat' split
    all_goals first | rfl | omega

theorem mk_byte {j : Nat} (hj : j < l) : mkS g r l b (j / 51) (9 + j % 51) = b j := by
  have hp : j % 51 < plen l (j / 51) := by unfold plen; omega
  unfold mkS hd
  rw [if_pos (by omega)]
  have e1 : ∀ c, c < 9 → ¬ (9 + j % 51 = c) := fun c hc => by omega
  simp only [e1 0 (by omega), e1 1 (by omega), e1 2 (by omega), e1 3 (by omega), e1 4 (by omega), e1 5 (by omega), e1 6 (by omega), e1 7 (by omega), e1 8 (by omega), if_false]
  rw [if_pos (by omega)]
  congr 1
  omega

end

/- A put record is read. -/
theorem rec_put {V : Nat → Nat → Nat} {n a r g l : Nat} {b : Nat → Nat} (hl : l ≤ 13005) (hg : g < 65536) (hr : r < 4294967296) (hn : a + pcs l ≤ n) (e : ∀ k, k < pcs l → V (a + k) = mkS g r l b k) :
    Rec OkP V n a r (pcs l) ∧ genS (V a) = g ∧ rlen V a (pcs l) = l ∧ ∀ j, j < l → rbyte V a j = b j := by
  have h0 := pcs_pos l
  have hp := pcs_le hl
  have e0 : genS (V a) = g := by have := e 0 h0; rw [Nat.add_zero] at this; rw [this, mk_gen hg]
  refine ⟨⟨h0, hn, fun k hk => by rw [e k hk]; exact mk_ok hk hl, fun k hk => by rw [e k hk]; exact mk_num hr, fun k hk => by rw [e k hk]; exact mk_plc (by omega), fun k hk => by rw [e k hk, e0]; exact mk_gen hg, fun k hk => ?_, ?_⟩, e0, ?_, fun j hj => ?_⟩
  · rw [e k (by omega), mk_lst]
    simp [plast]
    omega
  · rw [e _ (by omega), mk_lst]
    simp [plast]
    omega
  · unfold rlen
    rw [e _ (by omega), mk_cnt]
    exact plen_last
  · unfold rbyte
    rw [e (j / 51) (by unfold pcs; split <;> omega)]
    exact mk_byte hj

end Go.Proofs.YtbbjklenpgkooaaGreat.Jo

/-
  A journal on a disk, in plain numbers: what holds ahead of each call holds behind it; behind a crash the records are those that were synced and a beginning of the others.
  Conditions: none.
-/
namespace Go.Proofs.YtbbjklenpgkooaaGreat.Jo
open Su Dk Go.Proofs.YtbbjklenpgkooaaGreat
set_option linter.unusedVariables false
set_option linter.unusedSimpArgs false
set_option maxRecDepth 100000

def cut (s : Nat → Nat) : Nat → Nat := fun j => if j < 64 then s j else 0
def vs (f : Nat → Nat) : Nat → Nat → Nat := fun k => cut (sec f k)
def vw (f A : Nat → Nat) (D : Nat → Nat → Nat) (m : Nat) : Nat → Nat → Nat := fun k => cut (now f A D k m)

theorem cut_congr {s t : Nat → Nat} (h : ∀ j, j < 64 → s j = t j) : cut s = cut t := by
  funext j
  unfold cut
  split
  · exact h j (by assumption)
  · rfl

theorem cut_mk {g r l k : Nat} {b : Nat → Nat} : cut (mkS g r l b k) = mkS g r l b k := by
  funext j
  unfold cut
  split
  · rfl
  · unfold mkS
    rw [if_neg (by omega), if_neg (by omega)]

theorem cut_lt {s : Nat → Nat} (h : ∀ i, s i < 256) (j : Nat) : cut s j < 256 := by
  unfold cut
  split
  · exact h j
  · omega

theorem vw_zero (f A : Nat → Nat) (D : Nat → Nat → Nat) : vw f A D 0 = vs f := by
  funext k
  rfl

theorem vs_all (f A : Nat → Nat) (D : Nat → Nat → Nat) (m : Nat) : vs (kept f A D (fun _ => true) m) = vw f A D m := by
  funext k
  exact cut_congr fun j hj => kept_all f A D k m j hj

section
variable {f A : Nat → Nat} {D : Nat → Nat → Nat} {u : Nat}

theorem last_seq (k : Nat) : ∀ m, (∀ i, i < m → A i = u + i) → last A k m = if u ≤ k ∧ k < u + m then k - u + 1 else 0
  | 0, _ => by rw [if_neg (by omega)]; rfl
  | m + 1, h => by
    unfold last
    rw [h m (Nat.lt_succ_self m), last_seq k m fun i hi => h i (by omega)]
    by_cases e : u + m = k
    · rw [if_pos e, if_pos (by omega)]
      omega
    · rw [if_neg e]
      by_cases e2 : u ≤ k ∧ k < u + m
      · rw [if_pos e2, if_pos (by omega)]
      · rw [if_neg e2, if_neg (by omega)]

theorem vw_new {m i : Nat} (h : ∀ i, i < m → A i = u + i) (hi : i < m) : vw f A D m (u + i) = cut (D i) := by
  have e : last A (u + i) m = i + 1 := by rw [last_seq _ m h, if_pos (by omega)]; omega
  unfold vw now
  rw [e, if_neg (by omega), Nat.add_sub_cancel]

theorem vw_old {m k : Nat} (h : ∀ i, i < m → A i = u + i) (hk : k < u ∨ u + m ≤ k) : vw f A D m k = vs f k := by
  have e : last A k m = 0 := by rw [last_seq _ m h, if_neg (by omega)]
  unfold vw now vs
  rw [e, if_pos rfl]

theorem vs_put (a : Nat) (d : Nat → Nat) (k : Nat) : vs (put f a d) k = if k = a then cut d else vs f k := by
  unfold vs
  by_cases e : k = a
  · rw [if_pos e]
    exact cut_congr fun j hj => by rw [put_sec _ _ _ _ _ hj, if_pos e]
  · rw [if_neg e]
    exact cut_congr fun j hj => by rw [put_sec _ _ _ _ _ hj, if_neg e]

theorem vs_kept (c : Nat → Bool) (k : Nat) : ∀ m, (∀ i, i < m → A i = u + i) → vs (kept f A D c m) k = if u ≤ k ∧ k < u + m ∧ c (k - u) = true then cut (D (k - u)) else vs f k
  | 0, _ => by rw [if_neg (by omega)]; rfl
  | m + 1, h => by
    have ih := vs_kept c k m fun i hi => h i (by omega)
    unfold kept
    by_cases hc : c m = true
    · rw [if_pos hc, vs_put, ih, h m (Nat.lt_succ_self m)]
      by_cases e : k = u + m
      · subst e
        have e2 : u + m - u = m := by omega
        rw [if_pos rfl, if_pos ⟨by omega, by omega, by rw [e2]; exact hc⟩, e2]
      · rw [if_neg e]
        by_cases e2 : u ≤ k ∧ k < u + m ∧ c (k - u) = true
        · rw [if_pos e2, if_pos ⟨e2.1, by omega, e2.2.2⟩]
        · rw [if_neg e2, if_neg (fun h => e2 ⟨h.1, by omega, h.2.2⟩)]
    · rw [if_neg hc, ih]
      by_cases e2 : u ≤ k ∧ k < u + m ∧ c (k - u) = true
      · rw [if_pos e2, if_pos ⟨e2.1, by omega, e2.2.2⟩]
      · rw [if_neg e2, if_neg (fun h => e2 ⟨h.1, by
          have h1 := h.2.1
          have : k ≠ u + m := fun e => by
            subst e
            have h2 := h.2.2
            rw [show u + m - u = m by omega] at h2
            exact hc h2
          omega, h.2.2⟩)]

end

structure Inv (n : Nat) (f : Nat → Nat) (mm : Nat) (A : Nat → Nat) (D : Nat → Nat → Nat) (g m : Nat) (st : Nat → Nat) (ms : Nat) : Prop where
  le : ms ≤ m
  recs : Recs OkP (vw f A D mm) n m st
  used : st m = st ms + mm
  at_ : ∀ i, i < mm → A i = st ms + i
  top : ∀ k, k < n → OkP (vw f A D mm k) → genS (vw f A D mm k) ≤ g
  old : ∀ k, st ms ≤ k → k < n → OkP (vs f k) → genS (vs f k) < g
  new : ∀ i, i < mm → OkP (vw f A D mm (st ms + i)) ∧ genS (vw f A D mm (st ms + i)) = g
  back : ∀ c, Rec OkP (vs f) n (st ms) (ms + 1) c → genS (vs f (st ms)) < bef (vw f A D mm) st ms
  same : ∀ k, k < n → OkR (vw f A D mm k) → OkP (vw f A D mm k)
  sameB : ∀ k, k < n → OkR (vs f k) → OkP (vs f k)

theorem Inv.open_ {n g m : Nat} {f A st : Nat → Nat} {D : Nat → Nat → Nat} (h : Recs OkP (vs f) n m st) (hg : ∀ k, k < n → OkP (vs f k) → genS (vs f k) < g) (hs : ∀ k, k < n → OkR (vs f k) → OkP (vs f k)) : Inv n f 0 A D g m st m := by
  have e := vw_zero f A D
  exact ⟨Nat.le_refl _, by rw [e]; exact h, rfl, fun i hi => by omega, by rw [e]; exact fun k hk ho => Nat.le_of_lt (hg k hk ho), fun k _ hk ho => hg k hk ho, fun i hi => by omega, by rw [e]; exact h.fin, by rw [e]; exact hs, hs⟩

def stx (st : Nat → Nat) (m c : Nat) : Nat → Nat := fun i => if i ≤ m then st i else st m + c

theorem stx_old (st : Nat → Nat) (c : Nat) {m i : Nat} (h : i ≤ m) : stx st m c i = st i := by simp [stx, h]
theorem stx_new (st : Nat → Nat) (m c : Nat) : stx st m c (m + 1) = st m + c := by unfold stx; rw [if_neg (by omega)]

theorem bef_stx {V : Nat → Nat → Nat} {st : Nat → Nat} {m c i : Nat} (hi : i ≤ m + 1) : bef V (stx st m c) i = bef V st i := by
  unfold bef
  split
  · rfl
  · rw [stx_old _ _ (by omega)]

theorem Run.push {ok : (Nat → Nat) → Prop} {S : Nat → Nat → Nat} {n m c : Nat} {st : Nat → Nat} (h : Run ok S n m st) (r : Rec ok S n (st m) (m + 1) c) (hb : bef S st m ≤ genS (S (st m))) : Run ok S n (m + 1) (stx st m c) := by
  refine ⟨by rw [stx_old _ _ (by omega)]; exact h.zero, fun i hi => ?_, fun i hi => ?_, fun i hi => ?_⟩
  · by_cases e : i = m
    · subst e
      rw [stx_new, stx_old _ _ (Nat.le_refl _)]
      have := r.pos
      omega
    · rw [stx_old _ _ (by omega), stx_old _ _ (by omega)]
      exact h.up i (by omega)
  · by_cases e : i = m
    · subst e
      rw [stx_new, stx_old _ _ (Nat.le_refl _), Nat.add_sub_cancel_left]
      exact r
    · rw [stx_old _ _ (by omega), stx_old _ _ (by omega)]
      exact h.one i (by omega)
  · rw [bef_stx (by omega), stx_old _ _ (by omega)]
    by_cases e : i = m
    · subst e
      exact hb
    · exact h.gen i (by omega)

section
variable {n mm g m ms : Nat} {f A st : Nat → Nat} {D : Nat → Nat → Nat}

theorem Inv.at_old (h : Inv n f mm A D g m st ms) {k : Nat} (hk : k < st ms ∨ st m ≤ k) : vw f A D mm k = vs f k := vw_old h.at_ (by have := h.used; omega)

theorem Inv.befg (h : Inv n f mm A D g m st ms) : bef (vw f A D mm) st m ≤ g := by
  unfold bef
  split
  · exact Nat.zero_le _
  · have hr := h.recs.run
    have h1 := hr.lt_at (i := m - 1) (j := m) (by omega) (Nat.le_refl _)
    have h2 := hr.le
    have h3 := (hr.one (m - 1) (by omega)).ok 0 (hr.one (m - 1) (by omega)).pos
    rw [Nat.add_zero] at h3
    exact h.top _ (by omega) h3

theorem Inv.put {l : Nat} {b A' : Nat → Nat} {D' : Nat → Nat → Nat} (h : Inv n f mm A D g m st ms) (hl : l ≤ 13005) (hg : g < 65536) (hm : m + 1 < 4294967296) (hn : st m + pcs l ≤ n)
    (hA : ∀ i, i < mm → A' i = A i ∧ D' i = D i) (hN : ∀ k, k < pcs l → A' (mm + k) = st m + k ∧ ∀ j, j < 64 → D' (mm + k) j = mkS g (m + 1) l b k j) :
    Inv n f (mm + pcs l) A' D' g (m + 1) (stx st m (pcs l)) ms ∧ (∀ k, k < st m ∨ st m + pcs l ≤ k → vw f A' D' (mm + pcs l) k = vw f A D mm k) ∧ (∀ k, k < pcs l → vw f A' D' (mm + pcs l) (st m + k) = mkS g (m + 1) l b k) := by
  have hle := h.le
  have hu := h.used
  have at' : ∀ i, i < mm + pcs l → A' i = st ms + i := fun i hi => by
    by_cases e : i < mm
    · rw [(hA i e).1]; exact h.at_ i e
    · have := (hN (i - mm) (by omega)).1
      rw [show mm + (i - mm) = i by omega] at this
      rw [this]
      omega
  have hV : ∀ k, k < st m ∨ st m + pcs l ≤ k → vw f A' D' (mm + pcs l) k = vw f A D mm k := fun k hk => by
    by_cases e : st ms ≤ k ∧ k < st m
    · have e1 := vw_new (f := f) (D := D') (i := k - st ms) at' (by omega)
      have e2 := vw_new (f := f) (D := D) (i := k - st ms) h.at_ (by omega)
      rw [show st ms + (k - st ms) = k by omega] at e1 e2
      rw [e1, e2, (hA _ (by omega)).2]
    · rw [vw_old at' (by omega), vw_old h.at_ (by omega)]
  have hW : ∀ k, k < pcs l → vw f A' D' (mm + pcs l) (st m + k) = mkS g (m + 1) l b k := fun k hk => by
    have e1 := vw_new (f := f) (D := D') (i := mm + k) at' (by omega)
    rw [show st ms + (mm + k) = st m + k by omega] at e1
    rw [e1, cut_congr (hN k hk).2, cut_mk]
  have hr := h.recs.run
  have hp := pcs_pos l
  have hr' : Run OkP (vw f A' D' (mm + pcs l)) n m st := hr.congr fun k hk => (hV k (.inl hk)).symm
  obtain ⟨hrec, hgen, _, _⟩ := rec_put (V := vw f A' D' (mm + pcs l)) (a := st m) hl hg hm hn hW
  have hbef : bef (vw f A' D' (mm + pcs l)) st m = bef (vw f A D mm) st m := bef_congr (fun k hk => hV k (.inl hk)) (fun i hi => hr.lt_at hi (Nat.le_refl _))
  have hold : ∀ k, st m ≤ k → vw f A D mm k = vs f k := fun k hk => h.at_old (.inr hk)
  have hms : st ms ≤ st m := hr.mono m hle (Nat.le_refl _)
  refine ⟨⟨by omega, ⟨hr'.push hrec (by rw [hbef, hgen]; exact h.befg), fun c hc => ?_⟩, by rw [stx_new, stx_old _ _ hle]; omega, by rw [stx_old _ _ hle]; exact at', fun k hk ho => ?_, by rw [stx_old _ _ hle]; exact h.old, fun i hi => ?_, fun c hc => ?_, fun k hk ho => ?_, h.sameB⟩, hV, hW⟩
  · rw [stx_new] at hc ⊢
    have h0 := hc.ok 0 hc.pos
    rw [Nat.add_zero] at h0
    have h1 := hc.fits
    have h2 := hc.pos
    rw [bef_stx (Nat.le_refl _)]
    unfold bef
    rw [if_neg (by omega), Nat.add_sub_cancel, hgen]
    rw [hV _ (.inr (Nat.le_refl _)), hold _ (by omega)] at h0 ⊢
    exact h.old _ (by omega) (by omega) h0
  · by_cases e : st m ≤ k ∧ k < st m + pcs l
    · have e1 := hW (k - st m) (by omega)
      rw [show st m + (k - st m) = k by omega] at e1
      rw [e1, mk_gen hg]
      exact Nat.le_refl _
    · rw [hV k (by omega)] at ho ⊢
      exact h.top k hk ho
  · rw [stx_old _ _ hle]
    by_cases e : i < mm
    · rw [hV _ (by omega)]
      exact h.new i e
    · have e1 := hW (i - mm) (by omega)
      rw [show st m + (i - mm) = st ms + i by omega] at e1
      rw [e1]
      exact ⟨mk_ok (by omega) hl, mk_gen hg⟩
  · rw [stx_old _ _ hle] at hc ⊢
    rw [bef_stx (by omega), bef_congr (S := vw f A' D' (mm + pcs l)) (S' := vw f A D mm) (fun k hk => hV k (.inl (by omega))) (fun i hi => hr.lt_at hi hle)]
    exact h.back c hc
  · by_cases e : st m ≤ k ∧ k < st m + pcs l
    · have e1 := hW (k - st m) (by omega)
      rw [show st m + (k - st m) = k by omega] at e1
      rw [e1]
      exact mk_ok (by omega) hl
    · rw [hV k (by omega)] at ho ⊢
      exact h.same k hk ho

theorem Inv.sync (h : Inv n f mm A D g m st ms) : Inv n (kept f A D (fun _ => true) mm) 0 A D g m st m := by
  have e := vs_all f A D mm
  have e0 := vw_zero (kept f A D (fun _ => true) mm) A D
  have hms := h.recs.run.mono m h.le (Nat.le_refl _)
  refine ⟨Nat.le_refl _, by rw [e0, e]; exact h.recs, rfl, fun i hi => by omega, by rw [e0, e]; exact h.top, fun k h1 h2 ho => ?_, fun i hi => by omega, by rw [e0, e]; exact h.recs.fin, by rw [e0, e]; exact h.same, by rw [e]; exact h.same⟩
  rw [e, h.at_old (.inr h1)] at ho ⊢
  exact h.old k (by omega) h2 ho

theorem Inv.crash (h : Inv n f mm A D g m st ms) (c : Nat → Bool) : ∃ m', ms ≤ m' ∧ m' ≤ m ∧ Recs OkP (vs (kept f A D c mm)) n m' st ∧ (∀ k, k < st m' → vs (kept f A D c mm) k = vw f A D mm k) ∧
    (∀ k, k < n → OkP (vs (kept f A D c mm) k) → genS (vs (kept f A D c mm) k) ≤ g) ∧ (∀ k, k < n → OkR (vs (kept f A D c mm) k) → OkP (vs (kept f A D c mm) k)) := by
  have hu := h.used
  have hr := h.recs.run
  have two : ∀ k, vs (kept f A D c mm) k = vs f k ∨ vs (kept f A D c mm) k = vw f A D mm k := fun k => by
    rw [vs_kept c k mm h.at_]
    by_cases e : st ms ≤ k ∧ k < st ms + mm ∧ c (k - st ms) = true
    · rw [if_pos e]
      right
      have e1 := vw_new (f := f) (D := D) (i := k - st ms) h.at_ (by omega)
      rw [show st ms + (k - st ms) = k by omega] at e1
      rw [e1]
    · rw [if_neg e]
      exact .inl rfl
  have out : ∀ k, k < st ms ∨ st m ≤ k → vs (kept f A D c mm) k = vw f A D mm k := fun k hk => by
    rw [h.at_old hk, vs_kept c k mm h.at_, if_neg (by omega)]
  generalize vs (kept f A D c mm) = W at *
  have hnew : ∀ k, st ms ≤ k → k < st m → OkP (vw f A D mm k) ∧ genS (vw f A D mm k) = g := fun k h1 h2 => by
    have := h.new (k - st ms) (by omega)
    rw [show st ms + (k - st ms) = k by omega] at this
    exact this
  have find : ∀ d, ms + d ≤ m → (∃ m', ms ≤ m' ∧ m' < m ∧ (∀ k, k < st m' → W k = vw f A D mm k) ∧ ∃ k, st m' ≤ k ∧ k < st (m' + 1) ∧ W k ≠ vw f A D mm k) ∨ (∀ k, k < st (ms + d) → W k = vw f A D mm k) := fun d => by
    induction d with
    | zero => exact fun _ => .inr fun k hk => out k (.inl hk)
    | succ d ih =>
      intro hd
      rcases ih (by omega) with ih | ih
      · exact .inl ih
      · by_cases e : ∀ k, st (ms + d) ≤ k → k < st (ms + d + 1) → W k = vw f A D mm k
        · right
          intro k hk
          by_cases e1 : k < st (ms + d)
          · exact ih k e1
          · exact e k (by omega) hk
        · left
          refine ⟨ms + d, by omega, by omega, ih, ?_⟩
          simp only [Classical.not_forall] at e
          obtain ⟨k, h1, h2, h3⟩ := e
          exact ⟨k, h1, h2, h3⟩
  have hsm : ∀ k, k < n → OkP (W k) → genS (W k) ≤ g := fun k hk ho => by
    rcases two k with e | e
    · by_cases e1 : k < st ms
      · rw [out k (.inl e1)] at ho ⊢
        exact h.top k hk ho
      · rw [e] at ho ⊢
        exact Nat.le_of_lt (h.old k (by omega) hk ho)
    · rw [e] at ho ⊢
      exact h.top k hk ho
  have hsame : ∀ k, k < n → OkR (W k) → OkP (W k) := fun k hk ho => by
    rcases two k with e | e
    · rw [e] at ho ⊢
      exact h.sameB k hk ho
    · rw [e] at ho ⊢
      exact h.same k hk ho
  have hfd := find (m - ms) (by have := h.le; omega)
  rw [show ms + (m - ms) = m by have := h.le; omega] at hfd
  rcases hfd with ⟨m', h1, h2, h3, k0, k1, k2, k3⟩ | h3
  · have hst : st ms ≤ st m' := hr.mono m' h1 (by omega)
    have hst2 : st m' < st m := hr.lt_at h2 (Nat.le_refl _)
    have hst3 : st (m' + 1) ≤ st m := hr.mono m h2 (Nat.le_refl _)
    refine ⟨m', h1, by omega, ⟨(hr.take (by omega)).congr fun k hk => (h3 k hk).symm, fun c' hc => ?_⟩, h3, hsm, hsame⟩
    have hbe : bef W st m' = bef (vw f A D mm) st m' := bef_congr h3 (fun i hi => hr.lt_at hi (by omega))
    rw [hbe]
    have hfit := hc.fits
    have hpos := hc.pos
    by_cases hg : genS (W (st m')) = g
    · have hall : ∀ k, k < c' → W (st m' + k) = vw f A D mm (st m' + k) := fun k hk => by
        rcases two (st m' + k) with e | e
        · have g1 := hc.gen k hk
          have g2 := hc.ok k hk
          rw [e] at g1 g2
          have := h.old _ (by omega) (by omega) g2
          omega
        · exact e
      have hu2 := (hc.congr hall).uniq (hr.one m' h2)
      have := hall (k0 - st m') (by omega)
      rw [show st m' + (k0 - st m') = k0 by omega] at this
      exact absurd this k3
    · have o0 := hc.ok 0 hpos
      rw [Nat.add_zero] at o0
      have hW : W (st m') = vs f (st m') := by
        rcases two (st m') with e | e
        · exact e
        · rw [e] at hg
          exact absurd (hnew _ hst hst2).2 hg
      by_cases e : ms < m'
      · have : bef (vw f A D mm) st m' = g := by
          unfold bef
          rw [if_neg (by omega)]
          exact (hnew _ (hr.mono (m' - 1) (by omega) (by omega)) (hr.lt_at (by omega) (Nat.le_refl _))).2
        rw [this]
        rw [hW] at o0 ⊢
        exact h.old _ hst (by omega) o0
      · obtain rfl : m' = ms := by omega
        have hall : ∀ k, k < c' → W (st m' + k) = vs f (st m' + k) := fun k hk => by
          by_cases e : st m ≤ st m' + k
          · rw [out _ (.inr e), h.at_old (.inr e)]
          · rcases two (st m' + k) with e1 | e1
            · exact e1
            · have g1 := hc.gen k hk
              rw [e1, (hnew _ (by omega) (by omega)).2] at g1
              exact absurd g1.symm hg
        rw [hW]
        exact h.back c' (hc.congr hall)
  · refine ⟨m, h.le, Nat.le_refl _, ⟨hr.congr fun k hk => (h3 k hk).symm, fun c' hc => ?_⟩, h3, hsm, hsame⟩
    have hall : ∀ k, k < c' → W (st m + k) = vw f A D mm (st m + k) := fun k hk => out _ (.inr (by omega))
    have := h.recs.fin c' (hc.congr hall)
    rw [bef_congr (S := W) (S' := vw f A D mm) h3 (fun i hi => hr.lt_at hi (Nat.le_refl _))]
    rw [out _ (.inr (Nat.le_refl _))]
    exact this

end

end Go.Proofs.YtbbjklenpgkooaaGreat.Jo

/-
  What the inner allZero and canBe of package journal do: contracts over plain numbers ('JoPlain').
  Conditions: bytes that are looked at lie in memory.
-/
namespace Go.Proofs.YtbbjklenpgkooaaGreat
open Go.RowKit By Dk Su Jo
set_option linter.unusedVariables false
set_option linter.unusedSimpArgs false
set_option maxRecDepth 100000

theorem allzero_any (x : Option Addr) (n c : Nat) (f : Nat → Nat) (t : Bool) (w : World) (h : RowAt w x n f) (hn : n ≤ 281474976710656) (hy : (∀ i, i < n → f i = 0) → t = true) (hx : ¬ (∀ i, i < n → f i = 0) → t = false) :
    Calls Tryz.prog 93 #[.slice x n c] w fun e w' => e = .returned (.bool t) ∧ w' = w := by
  have HY := hid hy
  have HX := hid hx
  clear hy hx
  rcases h with h0 | ⟨b, o, rfl, _, hc⟩
  · subst h0
    have ht := HY.out fun i hi => by omega
    go_enter Tryz.func93, Tryz.ntmps93
    go_wp2_with fail
    refine wp_loop_rounds 1 ?_
    rw [rounds_succ]
    go_wp2_with fail
    go_ret
    exact ⟨by rw [ht]; rfl, rfl⟩
  · go_enter Tryz.func93, Tryz.ntmps93
    go_wp2_with fail
    go_loop [7] (fun i => ∃ k : Nat, k ≤ n ∧ i = .int .i64 k ∧ Hid (∀ i, i < k → f i = 0)) (fun i => n - (intOf i).toNat)
    case atStart => exact ⟨0, by omega, rfl, fun i hi => by omega⟩
    case round =>
      obtain ⟨k, hk, rfl, HK⟩ := hrel
      by_cases hlt : k < n
      · have c1 := hc k hlt
        have hlt' : (k : Int) < (n : Int) := by omega
        by_cases e : f k = 0
        · have HN : Hid (∀ i, i < k + 1 → f i = 0) := fun i hi => by
            rcases Nat.lt_or_ge i k with h | h
            · exact HK.out i h
            · obtain rfl : i = k := by omega
              exact e
          rw [e] at c1
          clear hc e
          go_wp2_with fail
          go_round
          case rel => exact ⟨k + 1, by omega, by go_num, HN⟩
          case measure => simp [intOf]; omega
        · have ht := HX.out fun h => e (h k hlt)
          have e' : ((f k : Int) != 0) = true := by simpa using e
          clear hc
          generalize f k = v at *
          go_wp2_with fail
          go_ret
          first | exact ⟨rfl, rfl⟩ | exact ⟨by rw [ht]; rfl, rfl⟩
      · obtain rfl : k = n := by omega
        have ht := HY.out HK.out
        clear hc
        go_wp2_with fail
        go_ret
        first | exact ⟨rfl, rfl⟩ | exact ⟨by rw [ht]; rfl, rfl⟩

theorem canbe_any (p n : Nat) (l t : Bool) (w : World) (hp : p < 1000) (hn : n < 1000) (ht : canB p n l ↔ t = true) :
    Calls Tryz.prog 92 #[.int .i64 p, .int .i64 n, .bool l] w fun e w' => e = .returned (.bool t) ∧ w' = w := by
  cases l with
  | false =>
    have ht : (n = 51 ∧ p + 1 < 255) ↔ t = true := by rw [← ht]; simp [canB]
    by_cases h1 : n = 51
    · subst h1
      by_cases h2 : p + 1 < 255
      · have e := ht.1 ⟨rfl, h2⟩
        subst e
        have h2' : (p : Int) + 1 < 255 := by omega
        clear ht
        go_enter Tryz.func92, Tryz.ntmps92
        go_wp2_with fail
        go_ret
        exact ⟨by simp [h2'], rfl⟩
      · have e : t = false := by cases t; rfl; exact absurd (ht.2 rfl).2 h2
        subst e
        have h2' : ¬ (p : Int) + 1 < 255 := by omega
        clear ht
        go_enter Tryz.func92, Tryz.ntmps92
        go_wp2_with fail
        go_ret
        exact ⟨by simp [h2'], rfl⟩
    · have e : t = false := by cases t; rfl; exact absurd (ht.2 rfl).1 h1
      subst e
      have h1' : ((n : Int) == 51) = false := by
        rw [beq_eq_false_iff_ne]
        omega
      clear ht
      go_enter Tryz.func92, Tryz.ntmps92
      go_wp2_with fail
      go_ret
      exact ⟨rfl, rfl⟩
  | true =>
    have ht : (n ≤ 51 ∧ p < 255 ∧ (0 < n ∨ p = 0)) ↔ t = true := by rw [← ht]; simp [canB]
    by_cases h1 : n ≤ 51
    · have h1' : (n : Int) ≤ 51 := by omega
      by_cases h2 : p < 255
      · have h2' : (p : Int) < 255 := by omega
        by_cases h3 : 0 < n
        · have e := ht.1 ⟨h1, h2, .inl h3⟩
          subst e
          have h3' : (0 : Int) < n := by omega
          clear ht
          go_enter Tryz.func92, Tryz.ntmps92
          go_wp2_with fail
          go_ret
          exact ⟨rfl, rfl⟩
        · have h3' : ¬ (0 : Int) < n := by omega
          have et : t = decide (p = 0) := by
            by_cases e : p = 0
            · rw [ht.1 ⟨h1, h2, .inr e⟩]; simp [e]
            · have : t = false := by cases t; rfl; exact absurd (ht.2 rfl).2.2 (by omega)
              rw [this]; simp [e]
          subst et
          clear ht
          go_enter Tryz.func92, Tryz.ntmps92
          go_wp2_with fail
          go_ret
          refine ⟨?_, rfl⟩
          by_cases e : p = 0
          · subst e; rfl
          · simp [e]
      · have e : t = false := by cases t; rfl; exact absurd (ht.2 rfl).2.1 h2
        subst e
        have h2' : ¬ (p : Int) < 255 := by omega
        clear ht
        go_enter Tryz.func92, Tryz.ntmps92
        go_wp2_with fail
        go_ret
        exact ⟨rfl, rfl⟩
    · have e : t = false := by cases t; rfl; exact absurd (ht.2 rfl).1 h1
      subst e
      have h1' : ¬ (n : Int) ≤ 51 := by omega
      clear ht
      go_enter Tryz.func92, Tryz.ntmps92
      go_wp2_with fail
      go_ret
      exact ⟨rfl, rfl⟩

end Go.Proofs.YtbbjklenpgkooaaGreat

/-
  Five cells side by side; what the inner partOf of package journal does where the sum is another one.
  Conditions: the sector lies in memory.
-/
namespace Go.Proofs.YtbbjklenpgkooaaGreat
open Go.RowKit By Dk Su Jo
set_option linter.unusedVariables false
set_option linter.unusedSimpArgs false
set_option maxRecDepth 100000

def noPart : Value := .agg #[.int .i64 0, .int .u32 0, .int .i64 0, .bool false, .slice none 0 0]

/- Five cells, side by side, of a block. -/
structure Five (w : World) (p : Nat) (a b c d e : Value) : Prop where
  c0 : w.cell? ⟨p, 0, none⟩ = some a
  c1 : w.cell? ⟨p, 1, none⟩ = some b
  c2 : w.cell? ⟨p, 2, none⟩ = some c
  c3 : w.cell? ⟨p, 3, none⟩ = some d
  c4 : w.cell? ⟨p, 4, none⟩ = some e
  f0 : w.frozen? ⟨p, 0, none⟩ = false
  f1 : w.frozen? ⟨p, 1, none⟩ = false
  f2 : w.frozen? ⟨p, 2, none⟩ = false
  f3 : w.frozen? ⟨p, 3, none⟩ = false
  f4 : w.frozen? ⟨p, 4, none⟩ = false

theorem Five.new (w : World) (a b c d e : Value) (t : TypeId) : Five (w.alloc (.cells #[a, b, c, d, e] t)) w.heap.size a b c d e := by
  constructor <;> simp only [World.cell?, World.frozen?, heap_alloc_new] <;> rfl

theorem Five.below {w w' : World} {p B : Nat} {a b c d e : Value} (h : Five w p a b c d e) (hb : Below B w w') (hp : p < B) : Five w' p a b c d e :=
  ⟨(hb.cell (by exact hp)).trans h.c0, (hb.cell (by exact hp)).trans h.c1, (hb.cell (by exact hp)).trans h.c2, (hb.cell (by exact hp)).trans h.c3, (hb.cell (by exact hp)).trans h.c4,
    (hb.frozen (by exact hp)).trans h.f0, (hb.frozen (by exact hp)).trans h.f1, (hb.frozen (by exact hp)).trans h.f2, (hb.frozen (by exact hp)).trans h.f3, (hb.frozen (by exact hp)).trans h.f4⟩

theorem below_part {w w1 : World} (h : Below (w.heap.size + 1) (w.alloc (.cells #[.int .i64 0, .int .u32 0, .int .i64 0, .bool false, .slice none 0 0] 122)) w1) : Below w.heap.size w w1 :=
  ((Below.refl _ _).alloc (Nat.le_refl _) _).trans (h.mono (Nat.le_succ _))

theorem below_five {B p : Nat} {w w1 : World} (h : Below B w w1) (hp : B ≤ p) (v0 v1 v2 v3 v4 : Value) : Below B w (((((w1.setCell ⟨p, 0, none⟩ v0).setCell ⟨p, 1, none⟩ v1).setCell ⟨p, 2, none⟩ v2).setCell ⟨p, 3, none⟩ v3).setCell ⟨p, 4, none⟩ v4) :=
  ((((h.setCell (p := ⟨p, 0, none⟩) hp _).setCell (p := ⟨p, 1, none⟩) hp _).setCell (p := ⟨p, 2, none⟩) hp _).setCell (p := ⟨p, 3, none⟩) hp _).setCell (p := ⟨p, 4, none⟩) hp _

def zPart (w : World) : World := w.alloc (.cells #[.int .i64 0, .int .u32 0, .int .i64 0, .bool false, .slice none 0 0] 122)

theorem zPart_size (w : World) : (zPart w).heap.size = w.heap.size + 1 := by simp [zPart]

theorem partof_sum (b o c : Nat) (s : Nat → Nat) (w : World) (hs : ∀ i, s i < 256) (hc : 64 ≤ c) (h : RowAt w (some ⟨b, o, none⟩) 64 s) (hno : ¬ Ends s 60) :
    Calls Tryz.prog 80 #[.slice (some ⟨b, o, none⟩) 64 c] w fun e w' => e = .returned (.tuple #[noPart, .bool false]) ∧ Below w.heap.size w w' := by
  have hst : Calls Tryz.prog 91 #[.slice (some ⟨b, o, none⟩) 64 c] (zPart w) fun e w' => e = .returned (.tuple #[.slice none 0 0, .bool false]) ∧ Hid (Below w.heap.size w w') ∧ Five w' w.heap.size (.int .i64 0) (.int .u32 0) (.int .i64 0) (.bool false) (.slice none 0 0) :=
    (strip_no 64 c b o 60 s (zPart w) hs (by omega) hc rfl (h.below ((Below.refl _ _).alloc (Nat.le_refl _) _)) hno).mono fun e v ⟨h1, h2⟩ => by
      rw [zPart_size] at h2
      exact ⟨h1, below_part h2, (Five.new w _ _ _ _ _ _).below h2 (Nat.lt_succ_self _)⟩
  clear h hno
  unfold zPart at hst
  go_enter Tryz.func80, Tryz.ntmps80
  go_wp2_with ((go_at_call 91; refine hst.mono ?_; rintro e w1 ⟨rfl, HB, c0, c1, c2, c3, c4, f0, f1, f2, f3, f4⟩; clear hst))
  refine bodyPost_ret (v := .tuple #[noPart, .bool false]) ?_ rfl ?_
  · rw [results_cell_tmp rfl]; go_simp; rfl
  · exact ⟨rfl, below_five HB.out (Nat.le_refl _) _ _ _ _ _⟩

/- partOf, from the sum on: what lies there is b's bytes (y), the answer's place (P), the part that is made (Q). -/
structure PSt (w wr : World) (y P Q : Nat) (s : Nat → Nat) (g r : Nat) : Prop where
  bel : Below w.heap.size w wr
  row : ∀ i, i < 60 → wr.cell? ⟨y, i, none⟩ = some (.int .u8 (s i : Int))
  res : Five wr P (.int .i64 0) (.int .u32 0) (.int .i64 0) (.bool false) (.slice none 0 0)
  par : Five wr Q (.int .i64 (g : Int)) (.int .u32 (r : Int)) (.int .i64 (s 7 : Int)) (.bool (lst s)) (.slice none 0 0)
  pq : P ≠ Q
  yq : y ≠ Q
  ip : w.heap.size ≤ P
  iq : w.heap.size ≤ Q
  yl : y < wr.heap.size

theorem cell_off {w : World} {a b : Addr} {v : Value} (h : a ≠ b) : (w.setCell a v).cell? b = w.cell? b := World.cell?_setCell_other _ _ _ _ h

theorem Five.other {w : World} {p q k : Nat} {a b c d e v : Value} (h : Five w p a b c d e) (hq : p ≠ q) : Five (w.setCell ⟨q, k, none⟩ v) p a b c d e := by
  have e1 : ∀ j, (w.setCell ⟨q, k, none⟩ v).cell? ⟨p, j, none⟩ = w.cell? ⟨p, j, none⟩ := fun j => cell_off (fun e => by injection e with e _; exact hq e.symm)
  have e2 : ∀ j, (w.setCell ⟨q, k, none⟩ v).frozen? ⟨p, j, none⟩ = w.frozen? ⟨p, j, none⟩ := fun j => by simp
  exact ⟨(e1 0).trans h.c0, (e1 1).trans h.c1, (e1 2).trans h.c2, (e1 3).trans h.c3, (e1 4).trans h.c4, (e2 0).trans h.f0, (e2 1).trans h.f1, (e2 2).trans h.f2, (e2 3).trans h.f3, (e2 4).trans h.f4⟩

theorem cell_same {w : World} {a : Addr} {v u : Value} (h : w.cell? a = some u) : (w.setCell a v).cell? a = some v := by simpa using World.cell?_setCell_same _ _ _ h

theorem off_ne {p j k : Nat} (h : j ≠ k) : (⟨p, j, none⟩ : Addr) ≠ ⟨p, k, none⟩ := fun e => by injection e with _ e _; exact h e

theorem Five.set0 {w : World} {p : Nat} {a b c d e v : Value} (h : Five w p a b c d e) : Five (w.setCell ⟨p, 0, none⟩ v) p v b c d e :=
  ⟨cell_same h.c0, (cell_off (off_ne (by decide))).trans h.c1, (cell_off (off_ne (by decide))).trans h.c2, (cell_off (off_ne (by decide))).trans h.c3, (cell_off (off_ne (by decide))).trans h.c4, by simpa using h.f0, by simpa using h.f1, by simpa using h.f2, by simpa using h.f3, by simpa using h.f4⟩

theorem Five.set1 {w : World} {p : Nat} {a b c d e v : Value} (h : Five w p a b c d e) : Five (w.setCell ⟨p, 1, none⟩ v) p a v c d e :=
  ⟨(cell_off (off_ne (by decide))).trans h.c0, cell_same h.c1, (cell_off (off_ne (by decide))).trans h.c2, (cell_off (off_ne (by decide))).trans h.c3, (cell_off (off_ne (by decide))).trans h.c4, by simpa using h.f0, by simpa using h.f1, by simpa using h.f2, by simpa using h.f3, by simpa using h.f4⟩

theorem Five.drew {w : World} {p : Nat} {a b c d e : Value} (h : Five w p a b c d e) : Five w.drew p a b c d e := ⟨h.c0, h.c1, h.c2, h.c3, h.c4, h.f0, h.f1, h.f2, h.f3, h.f4⟩

section
variable {w wr : World} {y P Q : Nat} {s : Nat → Nat} {g r : Nat}

theorem PSt.drew (h : PSt w wr y P Q s g r) : PSt w wr.drew y P Q s g r := ⟨h.bel.drew, h.row, h.res.drew, h.par.drew, h.pq, h.yq, h.ip, h.iq, h.yl⟩

theorem PSt.setG (h : PSt w wr y P Q s g r) (g' : Nat) : PSt w (wr.setCell ⟨Q, 0, none⟩ (.int .i64 (g' : Int))) y P Q s g' r :=
  ⟨h.bel.setCell (p := ⟨Q, 0, none⟩) h.iq _, fun i hi => (cell_off (fun e => by injection e with e _; exact h.yq e.symm)).trans (h.row i hi), h.res.other h.pq, h.par.set0, h.pq, h.yq, h.ip, h.iq, by simpa [World.setCell] using h.yl⟩

theorem PSt.setR (h : PSt w wr y P Q s g r) (r' : Nat) : PSt w (wr.setCell ⟨Q, 1, none⟩ (.int .u32 (r' : Int))) y P Q s g r' :=
  ⟨h.bel.setCell (p := ⟨Q, 1, none⟩) h.iq _, fun i hi => (cell_off (fun e => by injection e with e _; exact h.yq e.symm)).trans (h.row i hi), h.res.other h.pq, h.par.set1, h.pq, h.yq, h.ip, h.iq, by simpa [World.setCell] using h.yl⟩

end

theorem pst_start {w w1 : World} {y : Nat} {s : Nat → Nat} (h1 : Below w.heap.size w w1) (h2 : ∀ i, i < 60 → w1.cell? ⟨y, i, none⟩ = some (.int .u8 (s i : Int))) (h3 : y < w1.heap.size) (h4 : w.heap.size < w1.heap.size) (h5 : Five w1 w.heap.size (.int .i64 0) (.int .u32 0) (.int .i64 0) (.bool false) (.slice none 0 0)) :
    PSt w (w1.alloc (.cells #[.int .i64 0, .int .u32 0, .int .i64 (s 7 : Int), .bool (lst s), .slice none 0 0] 122)).drew y w.heap.size w1.heap.size s 0 0 := by
  have hb : ∀ ob, Below w1.heap.size w1 (w1.alloc ob).drew := fun ob => ((Below.refl w1.heap.size w1).alloc (Nat.le_refl _) ob).drew
  exact ⟨h1.trans ((hb _).mono h1.size), fun i hi => ((hb _).cell (p := ⟨y, i, none⟩) h3).trans (h2 i hi), h5.below (hb _) h4, (Five.new w1 _ _ _ _ _ _).drew, by omega, by omega, Nat.le_refl _, by omega, by have := (hb (.cells #[.int .i64 0, .int .u32 0, .int .i64 (s 7 : Int), .bool (lst s), .slice none 0 0] 122)).size; omega⟩

def gk (s : Nat → Nat) (k : Nat) : Nat := if k = 0 then 0 else if k = 1 then s 1 else genS s
def rk (s : Nat → Nat) (k : Nat) : Nat := if k = 0 then 0 else if k = 1 then s 3 else if k = 2 then s 3 + 256 * s 4 else if k = 3 then s 3 + 256 * s 4 + 65536 * s 5 else num s

end Go.Proofs.YtbbjklenpgkooaaGreat
