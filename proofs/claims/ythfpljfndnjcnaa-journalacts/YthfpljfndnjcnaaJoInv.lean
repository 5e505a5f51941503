/-
  A journal on a disk, in plain numbers: what holds ahead of each call holds behind it; behind a crash the records are those that were synced and a beginning of the others.
  Conditions: none.
-/
import Derived.Test.YthfpljfndnjcnaaJoPlain
namespace Go.Proofs.Ythfpljfndnjcnaa.Jo
open Su Dk Go.Proofs.Ythfpljfndnjcnaa
set_option linter.unusedVariables false
set_option linter.unusedSimpArgs false

def cut (s : Nat → Nat) : Nat → Nat := fun j => if j < 64 then s j else 0
def vs (f : Nat → Nat) : Nat → Nat → Nat := fun k => cut (sec f k)
def vw (f A : Nat → Nat) (D : Nat → Nat → Nat) (m : Nat) : Nat → Nat → Nat := fun k => cut (now f A D k m)

theorem cut_congr {s t : Nat → Nat} (h : ∀ j, j < 64 → s j = t j) : cut s = cut t := by
  funext j
  unfold cut
  split
  · exact h j (by assumption)
  · rfl

theorem cut_mk {g r l k : Nat} {b : Nat → Nat} : cut (mkS g r l b k) = mkS g r l b k := by
  funext j
  unfold cut
  split
  · rfl
  · unfold mkS
    rw [if_neg (by omega), if_neg (by omega)]

theorem cut_lt {s : Nat → Nat} (h : ∀ i, s i < 256) (j : Nat) : cut s j < 256 := by
  unfold cut
  split
  · exact h j
  · omega

theorem vw_zero (f A : Nat → Nat) (D : Nat → Nat → Nat) : vw f A D 0 = vs f := by
  funext k
  rfl

theorem vs_all (f A : Nat → Nat) (D : Nat → Nat → Nat) (m : Nat) : vs (kept f A D (fun _ => true) m) = vw f A D m := by
  funext k
  exact cut_congr fun j hj => kept_all f A D k m j hj

section
variable {f A : Nat → Nat} {D : Nat → Nat → Nat} {u : Nat}

theorem last_seq (k : Nat) : ∀ m, (∀ i, i < m → A i = u + i) → last A k m = if u ≤ k ∧ k < u + m then k - u + 1 else 0
  | 0, _ => by rw [if_neg (by omega)]; rfl
  | m + 1, h => by
    unfold last
    rw [h m (Nat.lt_succ_self m), last_seq k m fun i hi => h i (by omega)]
    by_cases e : u + m = k
    · rw [if_pos e, if_pos (by omega)]
      omega
    · rw [if_neg e]
      by_cases e2 : u ≤ k ∧ k < u + m
      · rw [if_pos e2, if_pos (by omega)]
      · rw [if_neg e2, if_neg (by omega)]

theorem vw_new {m i : Nat} (h : ∀ i, i < m → A i = u + i) (hi : i < m) : vw f A D m (u + i) = cut (D i) := by
  have e : last A (u + i) m = i + 1 := by rw [last_seq _ m h, if_pos (by omega)]; omega
  unfold vw now
  rw [e, if_neg (by omega), Nat.add_sub_cancel]

theorem vw_old {m k : Nat} (h : ∀ i, i < m → A i = u + i) (hk : k < u ∨ u + m ≤ k) : vw f A D m k = vs f k := by
  have e : last A k m = 0 := by rw [last_seq _ m h, if_neg (by omega)]
  unfold vw now vs
  rw [e, if_pos rfl]

theorem vs_put (a : Nat) (d : Nat → Nat) (k : Nat) : vs (put f a d) k = if k = a then cut d else vs f k := by
  unfold vs
  by_cases e : k = a
  · rw [if_pos e]
    exact cut_congr fun j hj => by rw [put_sec _ _ _ _ _ hj, if_pos e]
  · rw [if_neg e]
    exact cut_congr fun j hj => by rw [put_sec _ _ _ _ _ hj, if_neg e]

theorem vs_kept (c : Nat → Bool) (k : Nat) : ∀ m, (∀ i, i < m → A i = u + i) → vs (kept f A D c m) k = if u ≤ k ∧ k < u + m ∧ c (k - u) = true then cut (D (k - u)) else vs f k
  | 0, _ => by rw [if_neg (by omega)]; rfl
  | m + 1, h => by
    have ih := vs_kept c k m fun i hi => h i (by omega)
    unfold kept
    by_cases hc : c m = true
    · rw [if_pos hc, vs_put, ih, h m (Nat.lt_succ_self m)]
      by_cases e : k = u + m
      · subst e
        have e2 : u + m - u = m := by omega
        rw [if_pos rfl, if_pos ⟨by omega, by omega, by rw [e2]; exact hc⟩, e2]
      · rw [if_neg e]
        by_cases e2 : u ≤ k ∧ k < u + m ∧ c (k - u) = true
        · rw [if_pos e2, if_pos ⟨e2.1, by omega, e2.2.2⟩]
        · rw [if_neg e2, if_neg (fun h => e2 ⟨h.1, by omega, h.2.2⟩)]
    · rw [if_neg hc, ih]
      by_cases e2 : u ≤ k ∧ k < u + m ∧ c (k - u) = true
      · rw [if_pos e2, if_pos ⟨e2.1, by omega, e2.2.2⟩]
      · rw [if_neg e2, if_neg (fun h => e2 ⟨h.1, by
          have h1 := h.2.1
          have : k ≠ u + m := fun e => by
            subst e
            have h2 := h.2.2
            rw [show u + m - u = m by omega] at h2
            exact hc h2
          omega, h.2.2⟩)]

end

structure Inv (n : Nat) (f : Nat → Nat) (mm : Nat) (A : Nat → Nat) (D : Nat → Nat → Nat) (g m : Nat) (st : Nat → Nat) (ms : Nat) : Prop where
  le : ms ≤ m
  recs : Recs OkP (vw f A D mm) n m st
  used : st m = st ms + mm
  at_ : ∀ i, i < mm → A i = st ms + i
  top : ∀ k, k < n → OkP (vw f A D mm k) → genS (vw f A D mm k) ≤ g
  old : ∀ k, st ms ≤ k → k < n → OkP (vs f k) → genS (vs f k) < g
  new : ∀ i, i < mm → OkP (vw f A D mm (st ms + i)) ∧ genS (vw f A D mm (st ms + i)) = g
  back : ∀ c, Rec OkP (vs f) n (st ms) (ms + 1) c → genS (vs f (st ms)) < bef (vw f A D mm) st ms
  same : ∀ k, k < n → OkR (vw f A D mm k) → OkP (vw f A D mm k)
  sameB : ∀ k, k < n → OkR (vs f k) → OkP (vs f k)

theorem Inv.open_ {n g m : Nat} {f A st : Nat → Nat} {D : Nat → Nat → Nat} (h : Recs OkP (vs f) n m st) (hg : ∀ k, k < n → OkP (vs f k) → genS (vs f k) < g) (hs : ∀ k, k < n → OkR (vs f k) → OkP (vs f k)) : Inv n f 0 A D g m st m := by
  have e := vw_zero f A D
  exact ⟨Nat.le_refl _, by rw [e]; exact h, rfl, fun i hi => by omega, by rw [e]; exact fun k hk ho => Nat.le_of_lt (hg k hk ho), fun k _ hk ho => hg k hk ho, fun i hi => by omega, by rw [e]; exact h.fin, by rw [e]; exact hs, hs⟩

def stx (st : Nat → Nat) (m c : Nat) : Nat → Nat := fun i => if i ≤ m then st i else st m + c

theorem stx_old (st : Nat → Nat) (c : Nat) {m i : Nat} (h : i ≤ m) : stx st m c i = st i := by simp [stx, h]
theorem stx_new (st : Nat → Nat) (m c : Nat) : stx st m c (m + 1) = st m + c := by unfold stx; rw [if_neg (by omega)]

theorem bef_stx {V : Nat → Nat → Nat} {st : Nat → Nat} {m c i : Nat} (hi : i ≤ m + 1) : bef V (stx st m c) i = bef V st i := by
  unfold bef
  split
  · rfl
  · rw [stx_old _ _ (by omega)]

theorem Run.push {ok : (Nat → Nat) → Prop} {S : Nat → Nat → Nat} {n m c : Nat} {st : Nat → Nat} (h : Run ok S n m st) (r : Rec ok S n (st m) (m + 1) c) (hb : bef S st m ≤ genS (S (st m))) : Run ok S n (m + 1) (stx st m c) := by
  refine ⟨by rw [stx_old _ _ (by omega)]; exact h.zero, fun i hi => ?_, fun i hi => ?_, fun i hi => ?_⟩
  · by_cases e : i = m
    · subst e
      rw [stx_new, stx_old _ _ (Nat.le_refl _)]
      have := r.pos
      omega
    · rw [stx_old _ _ (by omega), stx_old _ _ (by omega)]
      exact h.up i (by omega)
  · by_cases e : i = m
    · subst e
      rw [stx_new, stx_old _ _ (Nat.le_refl _), Nat.add_sub_cancel_left]
      exact r
    · rw [stx_old _ _ (by omega), stx_old _ _ (by omega)]
      exact h.one i (by omega)
  · rw [bef_stx (by omega), stx_old _ _ (by omega)]
    by_cases e : i = m
    · subst e
      exact hb
    · exact h.gen i (by omega)

section
variable {n mm g m ms : Nat} {f A st : Nat → Nat} {D : Nat → Nat → Nat}

theorem Inv.at_old (h : Inv n f mm A D g m st ms) {k : Nat} (hk : k < st ms ∨ st m ≤ k) : vw f A D mm k = vs f k := vw_old h.at_ (by have := h.used; omega)

theorem Inv.befg (h : Inv n f mm A D g m st ms) : bef (vw f A D mm) st m ≤ g := by
  unfold bef
  split
  · exact Nat.zero_le _
  · have hr := h.recs.run
    have h1 := hr.lt_at (i := m - 1) (j := m) (by omega) (Nat.le_refl _)
    have h2 := hr.le
    have h3 := (hr.one (m - 1) (by omega)).ok 0 (hr.one (m - 1) (by omega)).pos
    rw [Nat.add_zero] at h3
    exact h.top _ (by omega) h3

theorem Inv.put {l : Nat} {b A' : Nat → Nat} {D' : Nat → Nat → Nat} (h : Inv n f mm A D g m st ms) (hl : l ≤ 13005) (hg : g < 65536) (hm : m + 1 < 4294967296) (hn : st m + pcs l ≤ n)
    (hA : ∀ i, i < mm → A' i = A i ∧ D' i = D i) (hN : ∀ k, k < pcs l → A' (mm + k) = st m + k ∧ ∀ j, j < 64 → D' (mm + k) j = mkS g (m + 1) l b k j) :
    Inv n f (mm + pcs l) A' D' g (m + 1) (stx st m (pcs l)) ms ∧ (∀ k, k < st m ∨ st m + pcs l ≤ k → vw f A' D' (mm + pcs l) k = vw f A D mm k) ∧ (∀ k, k < pcs l → vw f A' D' (mm + pcs l) (st m + k) = mkS g (m + 1) l b k) := by
  have hle := h.le
  have hu := h.used
  have at' : ∀ i, i < mm + pcs l → A' i = st ms + i := fun i hi => by
    by_cases e : i < mm
    · rw [(hA i e).1]; exact h.at_ i e
    · have := (hN (i - mm) (by omega)).1
      rw [show mm + (i - mm) = i by omega] at this
      rw [this]
      omega
  have hV : ∀ k, k < st m ∨ st m + pcs l ≤ k → vw f A' D' (mm + pcs l) k = vw f A D mm k := fun k hk => by
    by_cases e : st ms ≤ k ∧ k < st m
    · have e1 := vw_new (f := f) (D := D') (i := k - st ms) at' (by omega)
      have e2 := vw_new (f := f) (D := D) (i := k - st ms) h.at_ (by omega)
      rw [show st ms + (k - st ms) = k by omega] at e1 e2
      rw [e1, e2, (hA _ (by omega)).2]
    · rw [vw_old at' (by omega), vw_old h.at_ (by omega)]
  have hW : ∀ k, k < pcs l → vw f A' D' (mm + pcs l) (st m + k) = mkS g (m + 1) l b k := fun k hk => by
    have e1 := vw_new (f := f) (D := D') (i := mm + k) at' (by omega)
    rw [show st ms + (mm + k) = st m + k by omega] at e1
    rw [e1, cut_congr (hN k hk).2, cut_mk]
  have hr := h.recs.run
  have hp := pcs_pos l
  have hr' : Run OkP (vw f A' D' (mm + pcs l)) n m st := hr.congr fun k hk => (hV k (.inl hk)).symm
  obtain ⟨hrec, hgen, _, _⟩ := rec_put (V := vw f A' D' (mm + pcs l)) (a := st m) hl hg hm hn hW
  have hbef : bef (vw f A' D' (mm + pcs l)) st m = bef (vw f A D mm) st m := bef_congr (fun k hk => hV k (.inl hk)) (fun i hi => hr.lt_at hi (Nat.le_refl _))
  have hold : ∀ k, st m ≤ k → vw f A D mm k = vs f k := fun k hk => h.at_old (.inr hk)
  have hms : st ms ≤ st m := hr.mono m hle (Nat.le_refl _)
  refine ⟨⟨by omega, ⟨hr'.push hrec (by rw [hbef, hgen]; exact h.befg), fun c hc => ?_⟩, by rw [stx_new, stx_old _ _ hle]; omega, by rw [stx_old _ _ hle]; exact at', fun k hk ho => ?_, by rw [stx_old _ _ hle]; exact h.old, fun i hi => ?_, fun c hc => ?_, fun k hk ho => ?_, h.sameB⟩, hV, hW⟩
  · rw [stx_new] at hc ⊢
    have h0 := hc.ok 0 hc.pos
    rw [Nat.add_zero] at h0
    have h1 := hc.fits
    have h2 := hc.pos
    rw [bef_stx (Nat.le_refl _)]
    unfold bef
    rw [if_neg (by omega), Nat.add_sub_cancel, hgen]
    rw [hV _ (.inr (Nat.le_refl _)), hold _ (by omega)] at h0 ⊢
    exact h.old _ (by omega) (by omega) h0
  · by_cases e : st m ≤ k ∧ k < st m + pcs l
    · have e1 := hW (k - st m) (by omega)
      rw [show st m + (k - st m) = k by omega] at e1
      rw [e1, mk_gen hg]
      exact Nat.le_refl _
    · rw [hV k (by omega)] at ho ⊢
      exact h.top k hk ho
  · rw [stx_old _ _ hle]
    by_cases e : i < mm
    · rw [hV _ (by omega)]
      exact h.new i e
    · have e1 := hW (i - mm) (by omega)
      rw [show st m + (i - mm) = st ms + i by omega] at e1
      rw [e1]
      exact ⟨mk_ok (by omega) hl, mk_gen hg⟩
  · rw [stx_old _ _ hle] at hc ⊢
    rw [bef_stx (by omega), bef_congr (S := vw f A' D' (mm + pcs l)) (S' := vw f A D mm) (fun k hk => hV k (.inl (by omega))) (fun i hi => hr.lt_at hi hle)]
    exact h.back c hc
  · by_cases e : st m ≤ k ∧ k < st m + pcs l
    · have e1 := hW (k - st m) (by omega)
      rw [show st m + (k - st m) = k by omega] at e1
      rw [e1]
      exact mk_ok (by omega) hl
    · rw [hV k (by omega)] at ho ⊢
      exact h.same k hk ho

theorem Inv.sync (h : Inv n f mm A D g m st ms) : Inv n (kept f A D (fun _ => true) mm) 0 A D g m st m := by
  have e := vs_all f A D mm
  have e0 := vw_zero (kept f A D (fun _ => true) mm) A D
  have hms := h.recs.run.mono m h.le (Nat.le_refl _)
  refine ⟨Nat.le_refl _, by rw [e0, e]; exact h.recs, rfl, fun i hi => by omega, by rw [e0, e]; exact h.top, fun k h1 h2 ho => ?_, fun i hi => by omega, by rw [e0, e]; exact h.recs.fin, by rw [e0, e]; exact h.same, by rw [e]; exact h.same⟩
  rw [e, h.at_old (.inr h1)] at ho ⊢
  exact h.old k (by omega) h2 ho

theorem Inv.crash (h : Inv n f mm A D g m st ms) (c : Nat → Bool) : ∃ m', ms ≤ m' ∧ m' ≤ m ∧ Recs OkP (vs (kept f A D c mm)) n m' st ∧ (∀ k, k < st m' → vs (kept f A D c mm) k = vw f A D mm k) ∧
    (∀ k, k < n → OkP (vs (kept f A D c mm) k) → genS (vs (kept f A D c mm) k) ≤ g) ∧ (∀ k, k < n → OkR (vs (kept f A D c mm) k) → OkP (vs (kept f A D c mm) k)) := by
  have hu := h.used
  have hr := h.recs.run
  have two : ∀ k, vs (kept f A D c mm) k = vs f k ∨ vs (kept f A D c mm) k = vw f A D mm k := fun k => by
    rw [vs_kept c k mm h.at_]
    by_cases e : st ms ≤ k ∧ k < st ms + mm ∧ c (k - st ms) = true
    · rw [if_pos e]
      right
      have e1 := vw_new (f := f) (D := D) (i := k - st ms) h.at_ (by omega)
      rw [show st ms + (k - st ms) = k by omega] at e1
      rw [e1]
    · rw [if_neg e]
      exact .inl rfl
  have out : ∀ k, k < st ms ∨ st m ≤ k → vs (kept f A D c mm) k = vw f A D mm k := fun k hk => by
    rw [h.at_old hk, vs_kept c k mm h.at_, if_neg (by omega)]
  generalize vs (kept f A D c mm) = W at *
  have hnew : ∀ k, st ms ≤ k → k < st m → OkP (vw f A D mm k) ∧ genS (vw f A D mm k) = g := fun k h1 h2 => by
    have := h.new (k - st ms) (by omega)
    rw [show st ms + (k - st ms) = k by omega] at this
    exact this
  have find : ∀ d, ms + d ≤ m → (∃ m', ms ≤ m' ∧ m' < m ∧ (∀ k, k < st m' → W k = vw f A D mm k) ∧ ∃ k, st m' ≤ k ∧ k < st (m' + 1) ∧ W k ≠ vw f A D mm k) ∨ (∀ k, k < st (ms + d) → W k = vw f A D mm k) := fun d => by
    induction d with
    | zero => exact fun _ => .inr fun k hk => out k (.inl hk)
    | succ d ih =>
      intro hd
      rcases ih (by omega) with ih | ih
      · exact .inl ih
      · by_cases e : ∀ k, st (ms + d) ≤ k → k < st (ms + d + 1) → W k = vw f A D mm k
        · right
          intro k hk
          by_cases e1 : k < st (ms + d)
          · exact ih k e1
          · exact e k (by omega) hk
        · left
          refine ⟨ms + d, by omega, by omega, ih, ?_⟩
          simp only [Classical.not_forall] at e
          obtain ⟨k, h1, h2, h3⟩ := e
          exact ⟨k, h1, h2, h3⟩
  have hsm : ∀ k, k < n → OkP (W k) → genS (W k) ≤ g := fun k hk ho => by
    rcases two k with e | e
    · by_cases e1 : k < st ms
      · rw [out k (.inl e1)] at ho ⊢
        exact h.top k hk ho
      · rw [e] at ho ⊢
        exact Nat.le_of_lt (h.old k (by omega) hk ho)
    · rw [e] at ho ⊢
      exact h.top k hk ho
  have hsame : ∀ k, k < n → OkR (W k) → OkP (W k) := fun k hk ho => by
    rcases two k with e | e
    · rw [e] at ho ⊢
      exact h.sameB k hk ho
    · rw [e] at ho ⊢
      exact h.same k hk ho
  have hfd := find (m - ms) (by have := h.le; omega)
  rw [show ms + (m - ms) = m by have := h.le; omega] at hfd
  rcases hfd with ⟨m', h1, h2, h3, k0, k1, k2, k3⟩ | h3
  · have hst : st ms ≤ st m' := hr.mono m' h1 (by omega)
    have hst2 : st m' < st m := hr.lt_at h2 (Nat.le_refl _)
    have hst3 : st (m' + 1) ≤ st m := hr.mono m h2 (Nat.le_refl _)
    refine ⟨m', h1, by omega, ⟨(hr.take (by omega)).congr fun k hk => (h3 k hk).symm, fun c' hc => ?_⟩, h3, hsm, hsame⟩
    have hbe : bef W st m' = bef (vw f A D mm) st m' := bef_congr h3 (fun i hi => hr.lt_at hi (by omega))
    rw [hbe]
    have hfit := hc.fits
    have hpos := hc.pos
    by_cases hg : genS (W (st m')) = g
    · have hall : ∀ k, k < c' → W (st m' + k) = vw f A D mm (st m' + k) := fun k hk => by
        rcases two (st m' + k) with e | e
        · have g1 := hc.gen k hk
          have g2 := hc.ok k hk
          rw [e] at g1 g2
          have := h.old _ (by omega) (by omega) g2
          omega
        · exact e
      have hu2 := (hc.congr hall).uniq (hr.one m' h2)
      have := hall (k0 - st m') (by omega)
      rw [show st m' + (k0 - st m') = k0 by omega] at this
      exact absurd this k3
    · have o0 := hc.ok 0 hpos
      rw [Nat.add_zero] at o0
      have hW : W (st m') = vs f (st m') := by
        rcases two (st m') with e | e
        · exact e
        · rw [e] at hg
          exact absurd (hnew _ hst hst2).2 hg
      by_cases e : ms < m'
      · have : bef (vw f A D mm) st m' = g := by
          unfold bef
          rw [if_neg (by omega)]
          exact (hnew _ (hr.mono (m' - 1) (by omega) (by omega)) (hr.lt_at (by omega) (Nat.le_refl _))).2
        rw [this]
        rw [hW] at o0 ⊢
        exact h.old _ hst (by omega) o0
      · obtain rfl : m' = ms := by omega
        have hall : ∀ k, k < c' → W (st m' + k) = vs f (st m' + k) := fun k hk => by
          by_cases e : st m ≤ st m' + k
          · rw [out _ (.inr e), h.at_old (.inr e)]
          · rcases two (st m' + k) with e1 | e1
            · exact e1
            · have g1 := hc.gen k hk
              rw [e1, (hnew _ (by omega) (by omega)).2] at g1
              exact absurd g1.symm hg
        rw [hW]
        exact h.back c' (hc.congr hall)
  · refine ⟨m, h.le, Nat.le_refl _, ⟨hr.congr fun k hk => (h3 k hk).symm, fun c' hc => ?_⟩, h3, hsm, hsame⟩
    have hall : ∀ k, k < c' → W (st m + k) = vw f A D mm (st m + k) := fun k hk => out _ (.inr (by omega))
    have := h.recs.fin c' (hc.congr hall)
    rw [bef_congr (S := W) (S' := vw f A D mm) h3 (fun i hi => hr.lt_at hi (Nat.le_refl _))]
    rw [out _ (.inr (Nat.le_refl _))]
    exact this

end

end Go.Proofs.Ythfpljfndnjcnaa.Jo
