/-
  2 texts of this proof, one behind the other: IvPlain, IvMem.
-/
import Derived.Test.YthlfmbijagpggaaJCrAwake
import Derived.Test.YthlfmbijagpggaaJPlUp
/-
  Package interval plainly: who keeps a placement group by one map, and intervals, gone through forward or backward.
  Conditions: none.
-/
namespace Go.Proofs.Ythlfmbijagpggaa.Iv
open Go.RowKit By Fl At Cr Pl
set_option linter.unusedVariables false
set_option linter.unusedSimpArgs false
set_option maxRecDepth 100000

structure Span where
  fr : Int
  til : Int
  ac : List Int
  lv : List Int
  bt : List Int

def mom (m : Mp) (pg : Int) : Span := ⟨m.ep, m.ep, actL m pg, (actL m pg).map (lf m.osds), (actL m pg).map (bo m.osds)⟩
def lik (a b : Span) : Bool := decide (a.ac = b.ac) && decide (a.lv = b.lv) && decide (a.bt = b.bt)

theorem lik_iff (a b : Span) : lik a b = true ↔ a.ac = b.ac ∧ a.lv = b.lv ∧ a.bt = b.bt := by
  unfold lik
  simp [and_assoc]
theorem lik_comm (a b : Span) : lik a b = lik b a := by
  rw [Bool.eq_iff_iff, lik_iff, lik_iff]
  exact ⟨fun ⟨h1, h2, h3⟩ => ⟨h1.symm, h2.symm, h3.symm⟩, fun ⟨h1, h2, h3⟩ => ⟨h1.symm, h2.symm, h3.symm⟩⟩

/- From the last one back: what is handed over, the last one first. -/
def bk : Span → List Span → List Span
  | x, [] => [x]
  | x, a :: t => if lik a x = true then bk { x with fr := a.fr } t else x :: bk a t

/- One more ahead of all. -/
def stp (a : Span) : List Span → List Span
  | [] => [a]
  | x :: r => if lik a x = true then { x with fr := a.fr } :: r else a :: x :: r
def mg : List Span → List Span
  | [] => []
  | a :: t => stp a (mg t)

/- One more behind all. -/
def snc (M : List Span) (a : Span) : List Span :=
  match M with
  | [] => [a]
  | [x] => if lik x a = true then [{ x with til := a.til }] else [x, a]
  | x :: y :: r => x :: snc (y :: r) a

theorem stp_ne (a : Span) (M : List Span) : stp a M ≠ [] := by
  cases M with
  | nil => simp [stp]
  | cons x r =>
    simp only [stp]
    split <;> simp
theorem mg_ne {L : List Span} (h : L ≠ []) : mg L ≠ [] := by
  cases L with
  | nil => exact absurd rfl h
  | cons a t => exact stp_ne a _

theorem stp_snc (b a : Span) : ∀ M : List Span, stp b (snc M a) = snc (stp b M) a
  | [] => by
    simp only [snc, stp]
    by_cases h : lik b a = true
    · rw [if_pos h, if_pos h]
      obtain ⟨h1, h2, h3⟩ := (lik_iff _ _).1 h
      obtain ⟨a1, a2, a3, a4, a5⟩ := a
      obtain ⟨b1, b2, b3, b4, b5⟩ := b
      simp only at h1 h2 h3
      simp [h1, h2, h3]
    · rw [if_neg h, if_neg h]
  | [x] => by
    simp only [snc]
    by_cases h : lik x a = true
    · rw [if_pos h]
      simp only [stp]
      have e : lik b { x with til := a.til } = lik b x := rfl
      rw [e]
      by_cases h2 : lik b x = true
      · rw [if_pos h2, if_pos h2]
        simp only [snc]
        rw [if_pos (show lik { x with fr := b.fr } a = true from h)]
      · rw [if_neg h2, if_neg h2]
        simp only [snc]
        rw [if_pos h]
    · rw [if_neg h]
      simp only [stp]
      by_cases h2 : lik b x = true
      · rw [if_pos h2, if_pos h2]
        simp only [snc]
        rw [if_neg (show ¬ lik { x with fr := b.fr } a = true from h)]
      · rw [if_neg h2, if_neg h2]
        simp only [snc]
        rw [if_neg h]
  | x :: y :: r => by
    simp only [snc, stp]
    by_cases h2 : lik b x = true
    · rw [if_pos h2, if_pos h2]
      simp only [snc]
    · rw [if_neg h2, if_neg h2]
      simp only [snc]

theorem mg_snoc (a : Span) : ∀ L : List Span, mg (L ++ [a]) = snc (mg L) a
  | [] => rfl
  | b :: t => by
    rw [List.cons_append]
    show stp b (mg (t ++ [a])) = snc (stp b (mg t)) a
    rw [mg_snoc a t, stp_snc]

/- How a list behaves whose last one is known. -/
theorem snc_app (a x : Span) : ∀ M : List Span, snc (M ++ [x]) a = if lik x a = true then M ++ [{ x with til := a.til }] else M ++ [x, a]
  | [] => by
    simp only [List.nil_append, snc]
  | [y] => by
    simp only [List.cons_append, List.nil_append, snc]
    split <;> rfl
  | y :: z :: r => by
    have ih := snc_app a x (z :: r)
    simp only [List.cons_append, snc]
    rw [List.cons_append] at ih
    rw [ih]
    split <;> rfl

theorem bk_mg : ∀ (l : List Span) (x : Span) (R : List Span), (bk x l).reverse ++ R = l.foldl (fun acc a => stp a acc) (x :: R)
  | [], x, R => rfl
  | a :: t, x, R => by
    simp only [bk, List.foldl_cons, stp]
    by_cases h : lik a x = true
    · rw [if_pos h, if_pos h]
      exact bk_mg t _ R
    · rw [if_neg h, if_neg h, List.reverse_cons, List.append_assoc]
      exact bk_mg t a (x :: R)

theorem fold_mg (l : List Span) : ∀ M : List Span, l.foldl (fun acc a => stp a acc) (mg M) = mg (l.reverse ++ M) := by
  induction l with
  | nil => intro M; rfl
  | cons a t ih =>
    intro M
    rw [List.foldl_cons, List.reverse_cons, List.append_assoc]
    exact ih (a :: M)

/- Backward and forward come to the same. -/
theorem bk_eq (x : Span) (l : List Span) : (bk x l).reverse = mg (l.reverse ++ [x]) := by
  have h := bk_mg l x []
  rw [List.append_nil] at h
  rw [h]
  exact fold_mg l [x]

/- Of maps one behind the other. -/
def moms (ms : List Mp) (pg : Int) : List Span := ms.map fun m => mom m pg
def ivs (ms : List Mp) (pg : Int) : List Span := mg (moms ms pg)
/- What is handed over from the last map on back. -/
def bks (ms : List Mp) (pg : Int) : List Span := (ivs ms pg).reverse

theorem bks_eq (ms : List Mp) (m : Mp) (pg : Int) : bks (ms ++ [m]) pg = bk (mom m pg) (moms ms pg).reverse := by
  unfold bks ivs moms
  rw [List.map_append]
  have h := bk_eq (mom m pg) (ms.map fun m => mom m pg).reverse
  rw [List.reverse_reverse] at h
  rw [show [m].map (fun m => mom m pg) = [mom m pg] from rfl, ← h, List.reverse_reverse]

theorem ivs_snoc (ms : List Mp) (m : Mp) (pg : Int) : ivs (ms ++ [m]) pg = snc (ivs ms pg) (mom m pg) := by
  unfold ivs moms
  rw [List.map_append]
  exact mg_snoc _ _

theorem ivs_ne {ms : List Mp} (h : ms ≠ []) (pg : Int) : ivs ms pg ≠ [] := mg_ne (by unfold moms; simpa using h)

theorem bk_len (l : List Span) : ∀ x : Span, (bk x l).length ≤ l.length + 1 := by
  induction l with
  | nil => intro x; simp [bk]
  | cons a t ih =>
    intro x
    unfold bk
    split
    · have := ih { x with fr := a.fr }
      simp only [List.length_cons]
      omega
    · have := ih a
      simp only [List.length_cons]
      omega
theorem stp_len (a : Span) (M : List Span) : (stp a M).length ≤ M.length + 1 := by
  cases M with
  | nil => simp [stp]
  | cons x r =>
    simp only [stp]
    split <;> simp
theorem mg_len : ∀ L : List Span, (mg L).length ≤ L.length
  | [] => by simp [mg]
  | a :: t => by
    have h1 := stp_len a (mg t)
    have h2 := mg_len t
    simp only [mg, List.length_cons]
    omega
theorem ivs_len (ms : List Mp) (pg : Int) : (ivs ms pg).length ≤ ms.length := by
  have := mg_len (moms ms pg)
  unfold moms at this
  rw [List.length_map] at this
  exact this
theorem bks_len (ms : List Mp) (pg : Int) : (bks ms pg).length ≤ ms.length := by
  unfold bks
  rw [List.length_reverse]
  exact ivs_len ms pg

/- What covers the epochs e0 to e1. -/
structure Cov (e0 e1 : Int) (L : List Span) : Prop where
  hd : ∀ x : Span, L[0]? = some x → x.fr = e0
  lst : ∀ x : Span, L[L.length - 1]? = some x → x.til = e1
  each : ∀ (i : Nat) (x : Span), L[i]? = some x → x.fr ≤ x.til
  next : ∀ (i : Nat) (x y : Span), L[i]? = some x → L[i + 1]? = some y → y.fr = x.til + 1 ∧ lik y x = false

theorem Cov.one (a : Span) (e : Int) (h1 : a.fr = e) (h2 : a.til = e) : Cov e e [a] := by
  refine ⟨fun x hx => ?_, fun x hx => ?_, fun i x hx => ?_, fun i x y hx hy => ?_⟩
  · simp at hx; rw [← hx]; exact h1
  · simp at hx; rw [← hx]; exact h2
  · cases i with
    | zero => simp at hx; rw [← hx]; omega
    | succ i => simp at hx
  · simp at hy

theorem Cov.stp {e0 e1 : Int} {x : Span} {r : List Span} (h : Cov (e0 + 1) e1 (x :: r)) (a : Span) (h1 : a.fr = e0) (h2 : a.til = e0) : Cov e0 e1 (stp a (x :: r)) := by
  have hx := h.hd x rfl
  simp only [Iv.stp]
  by_cases hl : lik a x = true
  · rw [if_pos hl]
    refine ⟨fun y hy => ?_, fun y hy => ?_, fun i y hy => ?_, fun i y z hy hz => ?_⟩
    · simp at hy; rw [← hy]; exact h1
    · by_cases hr : r = []
      · subst hr
        simp at hy
        have := h.lst x (by simp)
        rw [← hy]
        exact this
      · refine h.lst y ?_
        obtain ⟨b, t, rfl⟩ := List.exists_cons_of_ne_nil hr
        simpa using hy
    · cases i with
      | zero =>
        simp at hy
        have := h.each 0 x rfl
        rw [← hy]
        show a.fr ≤ x.til
        omega
      | succ i => exact h.each (i + 1) y (by simpa using hy)
    · cases i with
      | zero =>
        simp at hy
        have := h.next 0 x z rfl (by simpa using hz)
        rw [← hy]
        exact this
      | succ i => exact h.next (i + 1) y z (by simpa using hy) (by simpa using hz)
  · rw [if_neg hl]
    refine ⟨fun y hy => ?_, fun y hy => ?_, fun i y hy => ?_, fun i y z hy hz => ?_⟩
    · simp at hy; rw [← hy]; exact h1
    · refine h.lst y ?_
      simpa using hy
    · cases i with
      | zero => simp at hy; rw [← hy]; omega
      | succ i => exact h.each i y (by simpa using hy)
    · cases i with
      | zero =>
        simp at hy hz
        subst hy hz
        refine ⟨by omega, ?_⟩
        rw [lik_comm]
        simpa using hl
      | succ i => exact h.next i y z (by simpa using hy) (by simpa using hz)

theorem cov_mg : ∀ (L : List Span) (e0 : Int), (∀ (i : Nat) (x : Span), L[i]? = some x → x.fr = e0 + i ∧ x.til = e0 + i) → L ≠ [] → Cov e0 (e0 + L.length - 1) (mg L)
  | [], _, _, h => absurd rfl h
  | [a], e0, h, _ => by
    obtain ⟨h1, h2⟩ := h 0 a rfl
    have := Cov.one a e0 (by simpa using h1) (by simpa using h2)
    show Cov e0 (e0 + 1 - 1) [a]
    rwa [show e0 + 1 - 1 = e0 by omega]
  | a :: b :: t, e0, h, _ => by
    have ih := cov_mg (b :: t) (e0 + 1) (fun i x hx => by
      have := h (i + 1) x (by simpa using hx)
      omega) (by simp)
    obtain ⟨h1, h2⟩ := h 0 a rfl
    have hn : mg (b :: t) ≠ [] := mg_ne (by simp)
    show Cov e0 (e0 + ((b :: t).length + 1 : Nat) - 1) (stp a (mg (b :: t)))
    obtain ⟨x, r, hx⟩ := List.exists_cons_of_ne_nil hn
    rw [hx] at ih ⊢
    have e : e0 + 1 + ((b :: t).length : Int) - 1 = e0 + (((b :: t).length + 1 : Nat) : Int) - 1 := by omega
    rw [e] at ih
    exact ih.stp a (by simpa using h1) (by simpa using h2)

theorem cov_ivs {ms : List Mp} {e0 : Int} (h : ∀ (i : Nat) (m : Mp), ms[i]? = some m → m.ep = e0 + i) (hn : ms ≠ []) (pg : Int) : Cov e0 (e0 + ms.length - 1) (ivs ms pg) := by
  have := cov_mg (moms ms pg) e0 (fun i x hx => by
    unfold moms at hx
    rw [List.getElem?_map] at hx
    obtain ⟨m, hm, rfl⟩ := Option.map_eq_some_iff.1 hx
    exact ⟨h i m hm, h i m hm⟩) (by unfold moms; simpa using hn)
  unfold moms at this
  rw [List.length_map] at this
  exact this

/- Maps that are one behind the other. -/
def okR (p : Pool) : Int → List Mp → Bool
  | _, [] => true
  | e, m :: t => mayM m && eqP m.pool p && decide (m.ep = e) && okR p (e + 1) t
def okM (ms : List Mp) (pg : Int) : Bool :=
  match ms with
  | [] => false
  | m :: t => decide (t.length + 1 ≤ 4096) && decide (0 ≤ pg) && decide (pg < m.pool.pgs) && okR m.pool m.ep (m :: t)

theorem okR_get {p : Pool} : ∀ {ms : List Mp} {e : Int}, okR p e ms = true → ∀ (i : Nat) (m : Mp), ms[i]? = some m → mayM m = true ∧ m.pool = p ∧ m.ep = e + i
  | [], _, _, i, m, hm => by simp at hm
  | a :: t, e, h, i, m, hm => by
    unfold okR at h
    simp only [Bool.and_eq_true, decide_eq_true_eq, eqP_iff] at h
    cases i with
    | zero =>
      simp at hm
      subst hm
      exact ⟨h.1.1.1, h.1.1.2, by omega⟩
    | succ i =>
      obtain ⟨h1, h2, h3⟩ := okR_get h.2 i m (by simpa using hm)
      exact ⟨h1, h2, by omega⟩

theorem okR_of {p : Pool} : ∀ {ms : List Mp} {e : Int}, (∀ (i : Nat) (m : Mp), ms[i]? = some m → mayM m = true ∧ m.pool = p ∧ m.ep = e + i) → okR p e ms = true
  | [], _, _ => rfl
  | a :: t, e, h => by
    unfold okR
    obtain ⟨h1, h2, h3⟩ := h 0 a rfl
    have := okR_of (p := p) (ms := t) (e := e + 1) (fun i m hm => by
      obtain ⟨g1, g2, g3⟩ := h (i + 1) m (by simpa using hm)
      exact ⟨g1, g2, by omega⟩)
    simp only [Bool.and_eq_true, decide_eq_true_eq, eqP_iff]
    exact ⟨⟨⟨h1, h2⟩, by omega⟩, this⟩

/- All maps of such a row, and one of its placement groups. -/
structure Rw (ms : List Mp) (pg : Int) : Prop where
  ne : ms ≠ []
  le : ms.length ≤ 4096
  fine : ∀ (i : Nat) (m : Mp), ms[i]? = some m → Fine m pg
  ep : ∃ e0 : Int, 0 ≤ e0 ∧ ∀ (i : Nat) (m : Mp), ms[i]? = some m → m.ep = e0 + i

theorem rw_of {ms : List Mp} {pg : Int} (h : okM ms pg = true) : Rw ms pg := by
  cases ms with
  | nil => simp [okM] at h
  | cons m t =>
    unfold okM at h
    simp only [Bool.and_eq_true, decide_eq_true_eq] at h
    have hg := okR_get h.2
    refine ⟨by simp, by simpa using h.1.1.1, fun i q hq => ?_, m.ep, ?_, fun i q hq => (hg i q hq).2.2⟩
    · obtain ⟨h1, h2, h3⟩ := hg i q hq
      exact fine_of h1 h.1.1.2 (by rw [h2]; exact h.1.2)
    · have h1 := (hg 0 m rfl).1
      unfold mayM at h1
      simp only [Bool.and_eq_true, wi_iff] at h1
      omega

end Go.Proofs.Ythlfmbijagpggaa.Iv

/-
  Rows of maps and intervals as they lie in memory.
  Conditions: none.
-/
namespace Go.Proofs.Ythlfmbijagpggaa.Iv
open Go.RowKit By Fl At Cr Pl
set_option linter.unusedVariables false
set_option linter.unusedSimpArgs false
set_option maxRecDepth 100000

theorem Nu.turns {F : Nat → Prop} {w w' : World} {x : Option Addr} {n c : Nat} {l : List Int} (h : Nu w x n c l) (t : Turns F w w') (hx : n ≠ 0 → ∀ a, x = some a → ¬ F a.block) : Nu w' x n c l := by
  refine ⟨h.len, h.le, ?_⟩
  rcases h.row with h0 | ⟨b, o, h1, h2, h3⟩
  · exact .inl h0
  · by_cases h0 : n = 0
    · exact .inl h0
    · exact .inr ⟨b, o, h1, Nat.lt_of_lt_of_le h2 t.size, fun k z hk => (World.cell?_of_block (a := ⟨b, o + k, none⟩) (t.block b h2 (hx h0 _ h1))).trans (h3 k z hk)⟩

theorem Nu.lt {w : World} {x : Option Addr} {n c : Nat} {l : List Int} (h : Nu w x n c l) (hn : n ≠ 0) {a : Addr} (ha : x = some a) : a.block < w.heap.size := by
  rcases h.row with h0 | ⟨b, o, h1, h2, h3⟩
  · exact absurd h0 hn
  · rw [ha] at h1
    injection h1 with h1
    rw [h1]
    exact h2

/- A map with where its OSDs lie. -/
structure MV where
  m : Mp
  x : Option Addr
  n : Nat
  c : Nat

def vMV (v : MV) : Value := vM v.m.ep v.m.pool v.x v.n v.c
def enM (v : MV) : List Value := [.int .i64 v.m.ep, .int .i64 v.m.pool.k, .int .i64 v.m.pool.m, .int .i64 v.m.pool.pgs, .int .i64 v.m.pool.dom, .slice v.x v.n v.c]

theorem mprow : Row 22 32 6 64 enM := by
  have hi : (Try.prog.info? 32).map (fun i => (i.zero, i.size, i.bytes)) = some (some (.agg #[.int .i64 0, .int .i64 0, .int .i64 0, .int .i64 0, .int .i64 0, .slice none 0 0]), 6, 64) := by kernel_rfl
  obtain ⟨i0, h1, h2, h3, h4⟩ := info_parts hi
  exact ⟨Try.underlying22, ⟨i0, _, h1, h2, h3, h4, rfl⟩, by decide, by decide, fun a => rfl, fun a v hv => by simp [enM] at hv; rcases hv with rfl | rfl | rfl | rfl | rfl | rfl <;> rfl⟩

/- A row of maps that is read. -/
structure Ms (w : World) (x : Option Addr) (n c : Nat) (L : List MV) : Prop where
  len : L.length = n
  le : n ≤ c
  nil : x = none → n = 0 ∧ c = 0
  row : n = 0 ∨ ∃ b o, x = some ⟨b, o, none⟩ ∧ b < w.heap.size ∧ ∀ (k : Nat) (v : MV), L[k]? = some v → ∀ (j : Nat) (u : Value), (enM v)[j]? = some u → w.cell? ⟨b, o + k * 6 + j, none⟩ = some u
  each : ∀ (k : Nat) (v : MV), L[k]? = some v → At.Os w v.x v.n v.c v.m.osds ∧ v.m.pool.k ≤ 9223372036854775807

theorem Ms.below {w w' : World} {x : Option Addr} {n c : Nat} {L : List MV} (h : Ms w x n c L) (hb : Below w.heap.size w w') : Ms w' x n c L := by
  refine ⟨h.len, h.le, h.nil, ?_, fun k v hk => ⟨(h.each k v hk).1.below hb, (h.each k v hk).2⟩⟩
  rcases h.row with h0 | ⟨b, o, h1, h2, h3⟩
  · exact .inl h0
  · exact .inr ⟨b, o, h1, Nat.lt_of_lt_of_le h2 hb.size, fun k v hk j u hu => keep hb (h3 k v hk j u hu)⟩

theorem Ms.take {w : World} {x : Option Addr} {n c k : Nat} {L : List MV} (h : Ms w x n c L) (hk : k ≤ n) : Ms w x k c (L.take k) := by
  have hl := h.len
  have hg : ∀ (j : Nat) (v : MV), (L.take k)[j]? = some v → L[j]? = some v := fun j v hv => by
    rw [List.getElem?_take] at hv
    split at hv
    · exact hv
    · cases hv
  refine ⟨by rw [List.length_take]; omega, by have := h.le; omega, fun e => by have := h.nil e; omega, ?_, fun j v hv => h.each j v (hg j v hv)⟩
  rcases h.row with h0 | ⟨b, o, h1, h2, h3⟩
  · exact .inl (by omega)
  · exact .inr ⟨b, o, h1, h2, fun j v hv => h3 j v (hg j v hv)⟩

theorem Ms.at {w : World} {b o k : Nat} {L : List MV} {v : MV} (h : ∀ (k : Nat) (v : MV), L[k]? = some v → ∀ (j : Nat) (u : Value), (enM v)[j]? = some u → w.cell? ⟨b, o + k * 6 + j, none⟩ = some u) (hk : L[k]? = some v) :
    w.cell? ⟨b, o + k * 6, none⟩ = some (.int .i64 v.m.ep) ∧ w.cell? ⟨b, o + k * 6 + 1, none⟩ = some (.int .i64 v.m.pool.k) ∧ w.cell? ⟨b, o + k * 6 + 2, none⟩ = some (.int .i64 v.m.pool.m) ∧ w.cell? ⟨b, o + k * 6 + 3, none⟩ = some (.int .i64 v.m.pool.pgs) ∧
    w.cell? ⟨b, o + k * 6 + 4, none⟩ = some (.int .i64 v.m.pool.dom) ∧ w.cell? ⟨b, o + k * 6 + 5, none⟩ = some (.slice v.x v.n v.c) :=
  ⟨h k v hk 0 _ rfl, h k v hk 1 _ rfl, h k v hk 2 _ rfl, h k v hk 3 _ rfl, h k v hk 4 _ rfl, h k v hk 5 _ rfl⟩

/- An interval with where its lists lie. -/
structure SpV where
  s : Span
  x1 : Option Addr
  n1 : Nat
  c1 : Nat
  x2 : Option Addr
  n2 : Nat
  c2 : Nat
  x3 : Option Addr
  n3 : Nat
  c3 : Nat

def vS (v : SpV) : Value := .agg #[.int .i64 v.s.fr, .int .i64 v.s.til, .slice v.x1 v.n1 v.c1, .slice v.x2 v.n2 v.c2, .slice v.x3 v.n3 v.c3, .int .i64 (prm v.s.ac)]
def enS (v : SpV) : List Value := [.int .i64 v.s.fr, .int .i64 v.s.til, .slice v.x1 v.n1 v.c1, .slice v.x2 v.n2 v.c2, .slice v.x3 v.n3 v.c3, .int .i64 (prm v.s.ac)]
def cS (v : SpV) : Array Value := #[.int .i64 v.s.fr, .int .i64 v.s.til, .slice v.x1 v.n1 v.c1, .slice v.x2 v.n2 v.c2, .slice v.x3 v.n3 v.c3, .int .i64 (prm v.s.ac)]

theorem srow : Row 34 25 6 96 enS := by
  have hi : (Try.prog.info? 25).map (fun i => (i.zero, i.size, i.bytes)) = some (some (.agg #[.int .i64 0, .int .i64 0, .slice none 0 0, .slice none 0 0, .slice none 0 0, .int .i64 0]), 6, 96) := by kernel_rfl
  obtain ⟨i0, h1, h2, h3, h4⟩ := info_parts hi
  exact ⟨Try.underlying34, ⟨i0, _, h1, h2, h3, h4, rfl⟩, by decide, by decide, fun a => rfl, fun a v hv => by simp [enS] at hv; rcases hv with rfl | rfl | rfl | rfl | rfl | rfl <;> rfl⟩

structure SpAt (w : World) (v : SpV) : Prop where
  a : Nu w v.x1 v.n1 v.c1 v.s.ac
  l : Nu w v.x2 v.n2 v.c2 v.s.lv
  b : Nu w v.x3 v.n3 v.c3 v.s.bt
  sm : v.n1 ≤ 1000 ∧ v.n2 ≤ 1000 ∧ v.n3 ≤ 1000

/- The blocks of its lists. -/
def blks (v : SpV) (k : Nat) : Prop := (v.n1 ≠ 0 ∧ ∃ a, v.x1 = some a ∧ a.block = k) ∨ (v.n2 ≠ 0 ∧ ∃ a, v.x2 = some a ∧ a.block = k) ∨ (v.n3 ≠ 0 ∧ ∃ a, v.x3 = some a ∧ a.block = k)

theorem SpAt.turns {F : Nat → Prop} {w w' : World} {v : SpV} (h : SpAt w v) (t : Turns F w w') (hF : ∀ k, blks v k → ¬ F k) : SpAt w' v :=
  ⟨Nu.turns h.a t (fun hn a ha => hF _ (.inl ⟨hn, a, ha, rfl⟩)), Nu.turns h.l t (fun hn a ha => hF _ (.inr (.inl ⟨hn, a, ha, rfl⟩))), Nu.turns h.b t (fun hn a ha => hF _ (.inr (.inr ⟨hn, a, ha, rfl⟩))), h.sm⟩
theorem SpAt.below {w w' : World} {v : SpV} (h : SpAt w v) (hb : Below w.heap.size w w') : SpAt w' v := h.turns (Turns.of_below (F := fun _ => False) hb) (fun _ _ e => e)
theorem SpAt.lt {w : World} {v : SpV} (h : SpAt w v) {k : Nat} (hk : blks v k) : k < w.heap.size := by
  rcases hk with ⟨hn, a, ha, rfl⟩ | ⟨hn, a, ha, rfl⟩ | ⟨hn, a, ha, rfl⟩
  · exact Nu.lt h.a hn ha
  · exact Nu.lt h.l hn ha
  · exact Nu.lt h.b hn ha
theorem blks_same {v u : SpV} (h1 : u.x1 = v.x1) (h2 : u.n1 = v.n1) (h3 : u.x2 = v.x2) (h4 : u.n2 = v.n2) (h5 : u.x3 = v.x3) (h6 : u.n3 = v.n3) (k : Nat) : blks u k ↔ blks v k := by
  unfold blks
  rw [h1, h2, h3, h4, h5, h6]

/- A box that holds one. -/
def SBox (w : World) (a : Nat) (v : SpV) : Prop := w.heap[a]? = some (.cells (cS v) 25 (0, 0))
theorem SBox.lt {w : World} {a : Nat} {v : SpV} (h : SBox w a v) : a < w.heap.size := (Array.getElem?_eq_some_iff.1 h).1
theorem SBox.turns {G : Nat → Prop} {w w' : World} {a : Nat} {v : SpV} (h : SBox w a v) (t : Turns G w w') (hg : ¬ G a) : SBox w' a v := (t.block a h.lt hg).trans h
theorem SBox.at {w : World} {a : Nat} {v : SpV} (h : SBox w a v) : w.cell? ⟨a, 0, none⟩ = some (.int .i64 v.s.fr) ∧ w.cell? ⟨a, 1, none⟩ = some (.int .i64 v.s.til) ∧ w.cell? ⟨a, 2, none⟩ = some (.slice v.x1 v.n1 v.c1) ∧ w.cell? ⟨a, 3, none⟩ = some (.slice v.x2 v.n2 v.c2) ∧
    w.cell? ⟨a, 4, none⟩ = some (.slice v.x3 v.n3 v.c3) ∧ w.cell? ⟨a, 5, none⟩ = some (.int .i64 (prm v.s.ac)) := by
  unfold SBox cS at h
  exact ⟨cell_heap h rfl, cell_heap h rfl, cell_heap h rfl, cell_heap h rfl, cell_heap h rfl, cell_heap h rfl⟩
theorem SBox.fr {w : World} {a : Nat} {v : SpV} (h : SBox w a v) (j : Nat) : w.frozen? ⟨a, j, none⟩ = false := fr_heap h j

/- Six stores into such a box. -/
def put6 (w : World) (g : Nat) (v : SpV) : World :=
  (((((w.setCell ⟨g, 0, none⟩ (.int .i64 v.s.fr)).setCell ⟨g, 1, none⟩ (.int .i64 v.s.til)).setCell ⟨g, 2, none⟩ (.slice v.x1 v.n1 v.c1)).setCell ⟨g, 3, none⟩ (.slice v.x2 v.n2 v.c2)).setCell ⟨g, 4, none⟩ (.slice v.x3 v.n3 v.c3)).setCell ⟨g, 5, none⟩ (.int .i64 (prm v.s.ac))
theorem turns_put6 (w : World) (g : Nat) (v : SpV) : Turns (fun k => k = g) w (put6 w g v) := turns_put (turns_put (turns_put (turns_put (turns_put (turns_put (Turns.refl _ w) _ _) _ _) _ _) _ _) _ _) _ _
theorem put6_box {w : World} {g : Nat} {cs : Array Value} (h : w.heap[g]? = some (.cells cs 25 (0, 0))) (hs : cs.size = 6) (v : SpV) : SBox (put6 w g v) g v := by
  unfold put6 SBox cS
  refine (heap_set (heap_set (heap_set (heap_set (heap_set (heap_set h _) _) _) _) _) _).trans ?_
  obtain ⟨l⟩ := cs
  match l, hs with
  | [a0, a1, a2, a3, a4, a5], _ => simp

end Go.Proofs.Ythlfmbijagpggaa.Iv
