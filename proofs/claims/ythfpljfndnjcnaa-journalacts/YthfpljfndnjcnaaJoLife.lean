/-
  A journal's life: opened, put, synced, crashed and opened anew: contracts with all that holds then.
  Conditions: a disk of at most 300 sectors.
-/
import Derived.Test.YthfpljfndnjcnaaJoPut
namespace Go.Proofs.Ythfpljfndnjcnaa
open Go.RowKit By Dk Su Jo
set_option linter.unusedVariables false
set_option linter.unusedSimpArgs false

theorem Jn.base {w : World} {B B' jp p g u m : Nat} {R : Value} {A : Nat → Option Addr} {ln C : Nat → Nat} {ft : Nat → Nat → Nat} (h : Jn w B jp p g u R m A ln C ft) (hB : B' ≤ B) : Jn w B' jp p g u R m A ln C ft :=
  ⟨h.obj, ⟨h.own.own, fun q hq => Nat.le_trans hB (h.own.ob q hq), h.own.elt, h.own.far⟩, Nat.le_trans hB h.jb, fun i hi ad ha => ⟨Nat.le_trans hB (h.af i hi ad ha).1, (h.af i hi ad ha).2⟩⟩

/- The records that are read are those that were put. -/
def Alike (V : Nat → Nat → Nat) (st : Nat → Nat) (m : Nat) (ln : Nat → Nat) (ft : Nat → Nat → Nat) : Prop := ∀ i, i < m → lnOf V st i = ln i ∧ ∀ j, j < ln i → ftOf V st i j = ft i j

theorem alike_congr {V V' : Nat → Nat → Nat} {st : Nat → Nat} {n m : Nat} {ln : Nat → Nat} {ft : Nat → Nat → Nat} (hr : Run OkP V n m st) (h : Alike V st m ln ft) (e : ∀ k, k < st m → V' k = V k) : Alike V' st m ln ft := fun i hi => by
  obtain ⟨h1, h2⟩ := h i hi
  have hrec := hr.one i hi
  have hup := hr.up i hi
  have hmo := hr.mono m (i := i + 1) hi (Nat.le_refl _)
  have e1 : lnOf V' st i = lnOf V st i := by
    unfold lnOf rlen
    rw [e _ (by omega)]
  refine ⟨e1.trans h1, fun j hj => ?_⟩
  rw [← h2 j hj]
  unfold ftOf rbyte
  rw [e]
  rw [← h1] at hj
  unfold lnOf rlen at hj
  have hc := (ok_cnt (hrec.ok (st (i + 1) - st i - 1) (by omega))).1
  have : j / 51 < st (i + 1) - st i := by
    rcases Nat.lt_or_ge (j / 51) (st (i + 1) - st i) with h | h
    · exact h
    · exfalso
      have h3 : cnt (V (st i + (st (i + 1) - st i - 1))) ≤ 51 := hc
      rcases Nat.lt_or_ge (cnt (V (st i + (st (i + 1) - st i - 1)))) 51 with h4 | h4
      · omega
      · omega
  omega

structure Life (B : Nat) (w0 w : World) (K : Nat → Prop) (V : Nat → Nat → Nat) (p n jp g m : Nat) (st : Nat → Nat) (ms : Nat) (ln : Nat → Nat) (ft : Nat → Nat → Nat) (F : Nat → Prop) (mm : Nat) (f A : Nat → Nat) (D : Nat → Nat → Nat) (R : Value) (Aa : Nat → Option Addr) (C : Nat → Nat) : Prop where
  jd : JD B w0 w F p n mm f A D jp g (st m) R m Aa ln C ft
  inv : Inv n f mm A D g m st ms
  hV : V = vw f A D mm
  hK : K = both F R jp m Aa
  alike : Alike V st m ln ft
  n3 : n ≤ 300

section
variable {B : Nat} {w0 w w' : World} {K : Nat → Prop} {V : Nat → Nat → Nat} {p n jp g m : Nat} {st : Nat → Nat} {ms : Nat} {ln : Nat → Nat} {ft : Nat → Nat → Nat} {F : Nat → Prop} {mm : Nat} {f A : Nat → Nat} {D : Nat → Nat → Nat} {R : Value} {Aa : Nat → Option Addr} {C : Nat → Nat}

theorem Life.turns {G : Nat → Prop} (h : Life B w0 w K V p n jp g m st ms ln ft F mm f A D R Aa C) (t : Turns G w w') (hG : ∀ k, G k → B ≤ k) (hd : ∀ k, K k → ¬ G k) : Life B w0 w' K V p n jp g m st ms ln ft F mm f A D R Aa C :=
  ⟨h.jd.turns t hG (fun k hk => hd k (by rw [h.hK]; exact hk)), h.inv, h.hV, h.hK, h.alike, h.n3⟩

theorem Life.below (h : Life B w0 w K V p n jp g m st ms ln ft F mm f A D R Aa C) (t : Below w.heap.size w w') : Life B w0 w' K V p n jp g m st ms ln ft F mm f A D R Aa C :=
  ⟨h.jd.below t, h.inv, h.hV, h.hK, h.alike, h.n3⟩

theorem Life.foot (h : Life B w0 w K V p n jp g m st ms ln ft F mm f A D R Aa C) : ∀ k, K k → B ≤ k ∧ k < w.heap.size := by rw [h.hK]; exact h.jd.foot

theorem Life.used (h : Life B w0 w K V p n jp g m st ms ln ft F mm f A D R Aa C) : st m ≤ n := h.inv.recs.run.le

theorem Life.count (h : Life B w0 w K V p n jp g m st ms ln ft F mm f A D R Aa C) : m ≤ 300 := by
  have := h.inv.recs.run.count m (Nat.le_refl _)
  have := h.used
  have := h.n3
  omega

theorem Life.put_ok (h : Life B w0 w K V p n jp g m st ms ln ft F mm f A D R Aa C) (x : Option Addr) (l c : Nat) (b : Nat → Nat) (he : EltW w x l c b) (hx : l ≠ 0 → ∀ ad, x = some ad → ¬ K ad.block) (hl : l ≤ 13005) (hf : st m + pcs l ≤ n) (hg : g < 65536) :
    Calls Try.prog 22 #[.pointer (some ⟨jp, 0, none⟩), .slice x l c] w fun e w' => e = .returned (.int .i64 0) ∧ ∃ K' V' F' A' D' R' Aa' C', Life B w0 w' K' V' p n jp g (m + 1) (stx st m (pcs l)) ms (ext ln m l) (ext ft m b) F' (mm + pcs l) f A' D' R' Aa' C' ∧
      Turns K w w' ∧ (∀ q, q < w.heap.size → K' q → K q) ∧ (∀ k, k < st m ∨ st m + pcs l ≤ k → V' k = V k) ∧ (∀ k, k < pcs l → V' (st m + k) = mkS g (m + 1) l b k) := by
  have hcount := h.count
  have hn3 := h.n3
  have hu := h.inv.used
  rw [h.hK] at hx ⊢
  refine (h.jd.put_ok x l c b he hx hl hf (by omega) hg (by omega)).mono fun e w' ⟨h1, F', A', D', R', y, cy, h2, h3, h4, h5, h6⟩ => ⟨h1, ?_⟩
  obtain ⟨i1, i2, i3⟩ := h.inv.put (b := b) hl hg (by omega) hf h5 h6
  have hst : st m + pcs l = stx st m (pcs l) (m + 1) := (stx_new _ _ _).symm
  refine ⟨_, _, F', A', D', R', _, _, ⟨by rw [← hst]; exact h2, i1, rfl, rfl, fun i hi => ?_, hn3⟩, h3, h4, by rw [h.hV]; exact i2, i3⟩
  by_cases ei : i < m
  · rw [ext_old _ _ _ ei, ext_old _ _ _ ei]
    have hal := alike_congr (V' := vw f A' D' (mm + pcs l)) (by rw [h.hV]; exact h.inv.recs.run) h.alike (fun k hk => by rw [h.hV]; exact i2 k (.inl hk)) i ei
    unfold lnOf ftOf at hal ⊢
    rw [stx_old _ _ (by omega), stx_old _ _ (by omega)]
    exact hal
  · obtain rfl : i = m := by omega
    rw [ext_new, ext_new]
    obtain ⟨_, _, q1, q2⟩ := rec_put (V := vw f A' D' (mm + pcs l)) (a := st i) hl hg (by omega) hf i3
    unfold lnOf ftOf
    rw [stx_new, stx_old _ _ (Nat.le_refl _), Nat.add_sub_cancel_left]
    exact ⟨q1, q2⟩

theorem Life.put_long (h : Life B w0 w K V p n jp g m st ms ln ft F mm f A D R Aa C) (x : Option Addr) (l c : Nat) (hl : 13005 < l) :
    Calls Try.prog 22 #[.pointer (some ⟨jp, 0, none⟩), .slice x l c] w fun e w' => e = .returned (.int .i64 3) ∧ w' = w := h.jd.put_long x l c hl

theorem Life.put_full (h : Life B w0 w K V p n jp g m st ms ln ft F mm f A D R Aa C) (x : Option Addr) (l c : Nat) (hl : l ≤ 13005) (hf : ¬ st m + pcs l ≤ n) :
    Calls Try.prog 22 #[.pointer (some ⟨jp, 0, none⟩), .slice x l c] w fun e w' => e = .returned (.int .i64 2) ∧ ∃ k, w' = w.drewN k := h.jd.put_full h.used x l c hl hf

theorem Life.sync (h : Life B w0 w K V p n jp g m st ms ln ft F mm f A D R Aa C) :
    Calls Try.prog 11 #[.pointer (some ⟨jp, 0, none⟩)] w fun e w' => e = .returned (.tuple #[]) ∧ Turns K w w' ∧ Life B w0 w' K V p n jp g m st m ln ft F 0 (kept f A D (fun _ => true) mm) A D R Aa C :=
  (h.jd.jn.sync h.jd.dsk).mono fun e w' ⟨h1, h2, h3⟩ => ⟨h1, h2.weak (fun k hk => by rw [h.hK]; exact .inl hk), ⟨h3, h.jd.jn.turns h2 (fun k hk hF => h.jd.dis k hF hk), h.jd.dis⟩, h.inv.sync, by rw [vw_zero, vs_all]; exact h.hV, h.hK, h.alike, h.n3⟩

/- Behind a crash. -/
structure Down (B : Nat) (w0 w : World) (F : Nat → Prop) (p n g m : Nat) (st : Nat → Nat) (ln : Nat → Nat) (ft : Nat → Nat → Nat) (f A : Nat → Nat) (D : Nat → Nat → Nat) : Prop where
  dsk : Dsk B w0 w F p n 0 f A D
  recs : Recs OkP (vs f) n m st
  top : ∀ k, k < n → OkP (vs f k) → genS (vs f k) ≤ g
  same : ∀ k, k < n → OkR (vs f k) → OkP (vs f k)
  alike : Alike (vs f) st m ln ft
  n3 : n ≤ 300

theorem Life.crash (h : Life B w0 w K V p n jp g m st ms ln ft F mm f A D R Aa C) (y : Option Addr) (l lc : Nat) (b : Nat → Bool) (hy : BoolsAt w y l b) (hyF : l ≠ 0 → ∀ a, y = some a → ¬ K a.block) (hl : l ≤ 140737488355328) :
    Calls Try.prog 13 #[.pointer (some ⟨p, 0, none⟩), .slice y l lc] w fun e w' => e = .returned (.tuple #[]) ∧ Turns K w w' ∧ ∃ m' f', ms ≤ m' ∧ m' ≤ m ∧ Down B w0 w' F p n g m' st ln ft f' A D := by
  have hKF : ∀ k, F k → K k := fun k hk => by rw [h.hK]; exact .inl hk
  refine (dcrash B p n mm l lc F f A D y b w0 w h.jd.dsk hy (fun h0 a ha hF => hyF h0 a ha (hKF _ hF)) hl).mono fun e w' ⟨h1, h2, h3⟩ => ⟨h1, h2.weak hKF, ?_⟩
  obtain ⟨m', c1, c2, c3, c4, c5, c6⟩ := h.inv.crash (cutB l b)
  refine ⟨m', _, c1, c2, h3, c3, c5, c6, ?_, h.n3⟩
  have hrun := h.inv.recs.run.take c2
  have hal : Alike (vw f A D mm) st m' ln ft := fun i hi => by rw [← h.hV]; exact h.alike i (by omega)
  exact alike_congr hrun hal c4

theorem Down.open_ {f : Nat → Nat} (h : Down B w0 w F p n g m st ln ft f A D) (hg : g < 65535) (hB : B ≤ w.heap.size) :
    Calls Try.prog 10 #[.pointer (some ⟨p, 0, none⟩)] w fun e w' => ∃ jp G K R Aa C, e = .returned (.tuple #[.pointer (some ⟨jp, 0, none⟩), .int .i64 0]) ∧ Below w.heap.size w w' ∧ Top OkP (vs f) n G ∧ G ≤ g ∧ (∀ q, q < w.heap.size → K q → F q) ∧
      ∃ ln' ft', Life B w0 w' K (vs f) p n jp (G + 1) m st m ln' ft' F 0 f A D R Aa C ∧ (∀ i, i < m → ln' i = ln i ∧ ∀ j, j < ln i → ft' i j = ft i j) := by
  have e0 := vw_zero f A D
  have hGle : ∀ G, Top OkP (vs f) n G → G ≤ g := fun G hG => by
    rcases hG.is with e | ⟨k, k1, k2, k3⟩
    · omega
    · rw [← k3]; exact h.top k k1 k2
  refine (open_yes p n 0 F f A D w h.dsk.pd (fun G hG => by rw [e0] at hG; have := hGle G hG; omega)).mono fun e w' ⟨jp, G, k, st', R, Aa, C, h1, h2, h3, h4, h5⟩ => ?_
  rw [e0] at h3 h4 h5
  obtain ⟨rfl, hs⟩ := h.recs.uniq h4
  have hft := h.dsk.pd.flt
  have hst : st' m = st m := (hs m (Nat.le_refl _)).symm
  have hln : ∀ i, i < m → lnOf (vs f) st' i = lnOf (vs f) st i := fun i hi => by unfold lnOf; rw [hs i (by omega), hs (i + 1) (by omega)]
  have hfn : ∀ i, i < m → ftOf (vs f) st' i = ftOf (vs f) st i := fun i hi => by unfold ftOf; rw [hs i (by omega)]
  have hfoot := h5.foot
  refine ⟨jp, G, _, R, Aa, C, h1, h2, h3, hGle G h3, fun q hq hk => ?_, _, _, ⟨⟨h.dsk.below h2, by rw [← hst]; exact h5.base hB, fun q hq hj => ?_⟩, Inv.open_ h.recs (fun q hq ho => Nat.lt_succ_of_le (h3.le q hq ho)) h.same, e0.symm, rfl, fun i hi => ?_, h.n3⟩, fun i hi => ?_⟩
  · rcases hk with hk | hk
    · exact hk
    · have := (hfoot q hk).1; omega
  · have := hft q hq
    have := (hfoot q hj).1
    omega
  · rw [hln i hi, hfn i hi]
    exact ⟨rfl, fun j _ => rfl⟩
  · rw [hln i hi, hfn i hi]
    exact h.alike i hi

end

/- A new disk, opened. -/
theorem zero_no (k : Nat) : ¬ OkR (vs (fun _ => 0) k) := fun h => by
  have := h.mark
  unfold vs cut sec at this
  simp at this

theorem down_new {B : Nat} {w0 w : World} {F : Nat → Prop} {p n : Nat} {A : Nat → Nat} {D : Nat → Nat → Nat} (h : Dsk B w0 w F p n 0 (fun _ => 0) A D) (hn : n ≤ 300) (ln : Nat → Nat) (ft : Nat → Nat → Nat) : Down B w0 w F p n 0 0 (fun _ => 0) ln ft (fun _ => 0) A D :=
  ⟨h, ⟨⟨rfl, fun i hi => by omega, fun i hi => by omega, fun i hi => by omega⟩, fun c hc => absurd (hc.ok 0 hc.pos).r (zero_no _)⟩, fun k _ ho => absurd ho.r (zero_no k), fun k _ ho => absurd ho (zero_no k), fun i hi => by omega, hn⟩

end Go.Proofs.Ythfpljfndnjcnaa
