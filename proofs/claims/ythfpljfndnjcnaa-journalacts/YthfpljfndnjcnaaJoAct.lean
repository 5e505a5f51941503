/-
  A journal's life beside the document's own reading of its disk: what the statement's acts go by.
  Conditions: none.
-/
import Derived.Test.YthfpljfndnjcnaaJoCr
import Derived.Test.YthfpljfndnjcnaaJoRefMake
namespace Go.Proofs.Ythfpljfndnjcnaa
open Go.RowKit By Dk Su Jo
set_option linter.unusedVariables false
set_option linter.unusedSimpArgs false

section
variable {B : Nat} {w0 w w' : World} {K : Nat → Prop} {V : Nat → Nat → Nat} {p n jp g m : Nat} {st : Nat → Nat} {ms : Nat} {ln : Nat → Nat} {ft : Nat → Nat → Nat} {F : Nat → Prop} {mm : Nat} {f A : Nat → Nat} {D : Nat → Nat → Nat} {R : Value} {Aa : Nat → Option Addr} {C : Nat → Nat}

theorem Life.pend (h : Life B w0 w K V p n jp g m st ms ln ft F 0 f A D R Aa C) :
    Calls Try.prog 12 #[.pointer (some ⟨p, 0, none⟩)] w fun e w' => e = .returned (.int .i64 0) ∧ w' = w := by
  obtain ⟨gs, gn, R', s, q, hp⟩ := h.jd.dsk.pd
  obtain ⟨x, c, e, _⟩ := ownsRow_form hp.own
  have hc := hp.c1
  rw [e] at hc
  exact pending_any p 0 c x w hc

theorem Life.vlt (h : Life B w0 w K V p n jp g m st ms ln ft F mm f A D R Aa C) : ∀ i j, V i j < 256 := fun i j => by
  obtain ⟨gs, gn, R', s, q, hp⟩ := h.jd.dsk.pd
  rw [h.hV]
  exact vw_lt hp.lt hp.ltD _ _ _

theorem Life.secs (h : Life B w0 w K V p n jp g m st ms ln ft F mm f A D R Aa C) :
    Calls Try.prog 15 #[.pointer (some ⟨p, 0, none⟩)] w fun e w' => ∃ gw cw Aw Cw, e = .returned (.slice (some ⟨gw, 0, none⟩) n cw) ∧ Below w.heap.size w w' ∧ OwnG w' w.heap.size (.slice (some ⟨gw, 0, none⟩) n cw) n Aw (fun _ => 64) Cw V ∧ (∀ i, i < n → ∀ ad, Aw i = some ad → w.heap.size ≤ ad.block) := by
  rw [h.hV]
  exact sectors_any p n mm F f A D w h.jd.dsk.pd

/- The records that the document reads are the journal's. -/
theorem Life.recs_ref (h : Life B w0 w K V p n jp g m st ms ln ft F mm f A D R Aa C) {gl : Nat} (cl : Nat) (hs : SecL w gl n V) :
    Calls Try.prog 16 #[.slice (some ⟨gl, 0, none⟩) n cl] w fun e w' => ∃ x c A' C', e = .returned (.tuple #[.slice x m c, .int .i64 (st m : Int)]) ∧ Below w.heap.size w w' ∧ OwnG w' w.heap.size (.slice x m c) m A' ln C' ft := by
  refine (rrecs_any gl n cl V w hs h.n3).mono fun e w' ⟨m', st', x, c, A', C', h1, h2, h3, h4⟩ => ?_
  have hr : Recs OkP V n m st := by rw [h.hV]; exact h.inv.recs
  have hr2 : Recs OkR V n m st := hr.okc fun k hk => ⟨fun o => o.r, fun o => by have := h.inv.same k hk; rw [← h.hV] at this; exact this o⟩
  obtain ⟨e1, e2⟩ := hr2.uniq h2
  subst e1
  refine ⟨x, c, A', C', by rw [h1, e2 m (Nat.le_refl _)], h4, h3.congr fun i hi => ?_⟩
  obtain ⟨a1, a2⟩ := h.alike i hi
  have s1 : lnOf V st' i = lnOf V st i := by unfold lnOf; rw [e2 i (by omega), e2 (i + 1) (by omega)]
  have s2 : ftOf V st' i = ftOf V st i := by unfold ftOf; rw [e2 i (by omega)]
  refine ⟨rfl, s1.trans a1, rfl, fun j hj => ?_, (h.jd.jn.own.elt i hi).lt⟩
  rw [s2]
  exact a2 j (by rw [← a1, ← s1]; exact hj)

theorem Down.secs (h : Down B w0 w F p n g m st ln ft f A D) :
    Calls Try.prog 15 #[.pointer (some ⟨p, 0, none⟩)] w fun e w' => ∃ gw cw, e = .returned (.slice (some ⟨gw, 0, none⟩) n cw) ∧ Below w.heap.size w w' ∧ SecL w' gw n (vs f) := by
  obtain ⟨gs, gn, R', s, q, hp⟩ := h.dsk.pd
  refine (sectors_any p n 0 F f A D w h.dsk.pd).mono fun e w' ⟨gw, cw, Aw, Cw, h1, h2, h3, h4⟩ => ⟨gw, cw, h1, h2, ?_⟩
  rw [vw_zero] at h3
  exact h3.secL fun i j => by rw [← vw_zero f A D]; exact vw_lt hp.lt hp.ltD _ _ _

theorem Down.below (h : Down B w0 w F p n g m st ln ft f A D) (t : Below w.heap.size w w') : Down B w0 w' F p n g m st ln ft f A D :=
  ⟨h.dsk.below t, h.recs, h.top, h.same, h.alike, h.n3⟩

theorem Down.gen_ref (h : Down B w0 w F p n g m st ln ft f A D) {gl : Nat} (cl : Nat) (hs : SecL w gl n (vs f)) :
    Calls Try.prog 14 #[.slice (some ⟨gl, 0, none⟩) n cl] w fun e w' => ∃ G : Nat, e = .returned (.int .i64 (G : Int)) ∧ Below w.heap.size w w' ∧ Top OkP (vs f) n G :=
  (rgen_any gl n cl (vs f) w hs h.n3).mono fun e w' ⟨G, h1, h2, h3, h4⟩ => ⟨G, h1, h2, h3.congr fun k hk => ⟨h.same k hk, fun o => o.r⟩⟩

end

/- A list of sectors into which the statement writes. -/
structure Was (w : World) (g n : Nat) (A : Nat → Option Addr) (C : Nat → Nat) (ft : Nat → Nat → Nat) : Prop where
  lt : g < w.heap.size
  cell : ∀ i, i < n → w.cell? ⟨g, i, none⟩ = some (.slice (A i) 64 (C i))
  row : ∀ i, i < n → RowAt w (A i) 64 (ft i)
  far : ∀ i, i < n → ∀ ad, A i = some ad → ad.block ≠ g
  fz : ∀ j, w.frozen? ⟨g, j, none⟩ = false

section
variable {w w' : World} {B g n c : Nat} {A : Nat → Option Addr} {C : Nat → Nat} {ft : Nat → Nat → Nat}

theorem OwnG.was (h : OwnG w B (.slice (some ⟨g, 0, Option.none⟩) n c) n A (fun _ => 64) C ft) : Was w g n A C ft := by
  obtain ⟨x, c', e, _, _, h4⟩ := h.form
  injection e with e1 _ _
  subst e1
  refine ⟨h.olt g rfl, fun i hi => ?_, fun i hi => (h.elt i hi).row, fun i hi ad ha hb => h.far i hi ad ha (by rw [hb]; rfl), fun j => ?_⟩
  · obtain ⟨g', e2, hc⟩ := h4 i hi
    injection e2 with e2
    injection e2 with e2 _ _
    subst e2
    exact hc
  rcases h.own.2 with ⟨h0, _⟩ | ⟨g', cap, cur, hv, _, hh, _⟩
  · cases h0
  · injection hv with hv _ _
    injection hv with hv
    injection hv with hv _ _
    subst hv
    simp [World.frozen?, hh]

theorem Was.set (h : Was w g n A C ft) {i : Nat} (hi : i < n) {x : Option Addr} {f : Nat → Nat} (cx : Nat) (hr : RowAt w x 64 f) (hx : ∀ ad, x = some ad → ad.block ≠ g) :
    Was (w.setCell ⟨g, i, none⟩ (.slice x 64 cx)) g n (fun j => if j = i then x else A j) (fun j => if j = i then cx else C j) (fun j => if j = i then f else ft j) := by
  have T : Turns (fun q => q = g) w (w.setCell ⟨g, i, none⟩ (.slice x 64 cx)) := (Turns.refl (fun q => q = g) w).setCell (p := ⟨g, i, none⟩) (.inl rfl) _
  refine ⟨Nat.lt_of_lt_of_le h.lt T.size, fun j hj => ?_, fun j hj => ?_, fun j hj ad ha => ?_, fun j => by simpa using h.fz j⟩
  · by_cases e : j = i
    · subst e
      simp only [if_pos]
      exact World.cell?_setCell_same _ _ _ (h.cell j hj)
    · simp only [if_neg e]
      rw [World.cell?_setCell_other _ _ _ _ (by intro h; simp only [Addr.mk.injEq] at h; omega)]
      exact h.cell j hj
  · by_cases e : j = i
    · subst e
      simp only [if_pos]
      exact T.row hr hx
    · simp only [if_neg e]
      exact T.row (h.row j hj) (h.far j hj)
  · by_cases e : j = i
    · subst e
      simp only [if_pos] at ha
      exact hx ad ha
    · simp only [if_neg e] at ha
      exact h.far j hj ad ha

theorem Was.isG (h : Was w g n A C ft) : IsG w (some ⟨g, 0, none⟩) n A (fun _ => 64) C ft := ⟨.inr ⟨g, rfl, h.cell⟩, h.row⟩

theorem Was.below (h : Was w g n A C ft) (t : Below w.heap.size w w') : Was w' g n A C ft :=
  ⟨Nat.lt_of_lt_of_le h.lt t.size, fun i hi => (t.cell (p := ⟨g, i, none⟩) h.lt).trans (h.cell i hi), fun i hi => (h.row i hi).below t, h.far, fun j => (t.frozen (by exact h.lt)).trans (h.fz j)⟩

theorem Was.congr {ft' : Nat → Nat → Nat} (h : Was w g n A C ft) (e : ∀ i, i < n → ft i = ft' i) : Was w g n A C ft' :=
  ⟨h.lt, h.cell, fun i hi => by rw [← e i hi]; exact h.row i hi, h.far, h.fz⟩

end

def mixV (V M : Nat → Nat → Nat) (e t : Nat) : Nat → Nat → Nat := fun i => if e ≤ i ∧ i < e + t then M (i - e) else V i

/- Between two acts. -/
def Ac (w wr : World) (p n jp k : Nat) : Prop := ∃ K V g m st ms ln ft F mm f A D R Aa C, Life w.heap.size w wr K V p n jp g m st ms ln ft F mm f A D R Aa C ∧ g ≤ k + 1

/- Behind a Put: what was, what the document writes, what is. -/
structure Tl (w v : World) (p n jp k gw : Nat) (y : Option Addr) (N e : Nat) (V M V' : Nat → Nat → Nat) : Prop where
  ac : ∃ K g m st ms ln ft F mm f A D R Aa C, Life w.heap.size w v K V' p n jp g m st ms ln ft F mm f A D R Aa C ∧ g ≤ k + 1 ∧ ¬ K gw
  ge : w.heap.size ≤ gw
  was : ∃ A C, Was v gw n A C V
  mks : ∀ t, t < N → ∃ gy x c, y = some ⟨gy, 0, none⟩ ∧ gy ≠ gw ∧ gy < v.heap.size ∧ v.cell? ⟨gy, t, none⟩ = some (.slice x 64 c) ∧ RowAt v x 64 (M t) ∧ ∀ ad, x = some ad → ad.block ≠ gw
  le : e + N ≤ n
  n3 : n ≤ 300
  is : ∀ i, i < n → V' i = mixV V M e N i

structure TlR (w v wr : World) (n gw e : Nat) (V M : Nat → Nat → Nat) (t : Nat) : Prop where
  was : ∃ A C, Was wr gw n A C (mixV V M e t)
  T : Turns (fun q => q = gw) v wr

section
variable {w v wr : World} {p n jp k gw : Nat} {y : Option Addr} {N e : Nat} {V M V' : Nat → Nat → Nat}

theorem Tl.start (h : Tl w v p n jp k gw y N e V M V') : TlR w v v n gw e V M 0 := by
  obtain ⟨A, C, hw⟩ := h.was
  exact ⟨⟨A, C, hw.congr fun i hi => by unfold mixV; rw [if_neg (by omega)]⟩, Turns.refl _ _⟩

theorem Tl.step (h : Tl w v p n jp k gw y N e V M V') {t : Nat} (ht : t < N) (hr : TlR w v wr n gw e V M t) :
    ∃ gy x c u, y = some ⟨gy, 0, none⟩ ∧ wr.cell? ⟨gy, t, none⟩ = some (.slice x 64 c) ∧ wr.cell? ⟨gw, e + t, none⟩ = some u ∧ wr.frozen? ⟨gw, e + t, none⟩ = false ∧ TlR w v (wr.setCell ⟨gw, e + t, none⟩ (.slice x 64 c)) n gw e V M (t + 1) := by
  obtain ⟨gy, x, c, h1, h2, h3, h4, h5, h6⟩ := h.mks t ht
  obtain ⟨A, C, hw⟩ := hr.was
  have hle := h.le
  refine ⟨gy, x, c, _, h1, (World.cell?_of_block (a := ⟨gy, t, none⟩) (hr.T.block gy h3 h2)).trans h4, hw.cell _ (by omega), hw.fz _, ⟨_, _, (hw.set (i := e + t) (by omega) c (hr.T.row h5 h6) h6).congr fun i hi => ?_⟩, hr.T.setCell (p := ⟨gw, e + t, none⟩) (.inl rfl) _⟩
  unfold mixV
  by_cases q : i = e + t
  · subst q
    rw [if_pos rfl, if_pos (by omega), Nat.add_sub_cancel_left]
  · rw [if_neg q]
    by_cases q2 : e ≤ i ∧ i < e + t
    · rw [if_pos q2, if_pos (by omega)]
    · rw [if_neg q2, if_neg (by omega)]

theorem Tl.fin (h : Tl w v p n jp k gw y N e V M V') (hr : TlR w v wr n gw e V M N) (cw : Nat) :
    Calls Try.prog 15 #[.pointer (some ⟨p, 0, none⟩)] wr fun e w' => ∃ g2 c2, e = .returned (.slice (some ⟨g2, 0, none⟩) n c2) ∧
      Calls Try.prog 18 #[.slice (some ⟨gw, 0, none⟩) n cw, .slice (some ⟨g2, 0, none⟩) n c2] w' fun e w'' => e = .returned (.bool true) ∧ Hid (Ac w w'' p n jp k) := by
  obtain ⟨K, g, m, st, ms, ln, ft, F, mm, f, A, D, R, Aa, C, hl, hg, hK⟩ := h.ac
  obtain ⟨A1, C1, hw⟩ := hr.was
  have hlr := hl.turns hr.T (fun q hq => by rw [hq]; exact h.ge) (fun q hq e => hK (by rw [← e]; exact hq))
  refine hlr.secs.mono fun e w' ⟨g2, c2, A2, C2, h1, h2, h3, h4⟩ => ⟨g2, c2, h1, ?_⟩
  refine (lists_yes _ _ n cw c2 A1 A2 _ _ C1 C2 _ _ w' (hw.below h2).isG h3.isG (fun i hi => ⟨rfl, fun j hj => by rw [h.is i hi]⟩) (by have := h.n3; omega)).mono fun e w'' ⟨h5, q, h6⟩ => ⟨h5, ?_⟩
  have hb : Below wr.heap.size wr w'' := by rw [h6]; exact below_drewN' h2 q
  exact ⟨K, V', g, m, st, ms, ln, ft, F, mm, f, A, D, R, Aa, C, hlr.below hb, hg⟩

end

/- What the statement has at hand ahead of a Put. -/
structure Hd (w v : World) (p n jp k : Nat) (K : Nat → Prop) (V : Nat → Nat → Nat) (g m : Nat) (st : Nat → Nat) (gw cw : Nat) (y : Option Addr) (cy N : Nat) (M : Nat → Nat → Nat) : Prop where
  life : ∃ ms ln ft F mm f A D R Aa C, Life w.heap.size w v K V p n jp g m st ms ln ft F mm f A D R Aa C
  gk : g ≤ k + 1
  was : ∃ B A C, OwnG v B (.slice (some ⟨gw, 0, none⟩) n cw) n A (fun _ => 64) C V ∧ ∀ i, i < n → ∀ ad, A i = some ad → ¬ K ad.block
  ge : w.heap.size ≤ gw
  nk : ¬ K gw
  mks : ∃ A C, OwnG v (gw + 1) (.slice y N cy) N A (fun _ => 64) C M ∧ (∀ q, (Value.slice y N cy).ownBlock = some q → ¬ K q) ∧ ∀ i, i < N → ∀ ad, A i = some ad → ¬ K ad.block ∧ ad.block ≠ gw

section
variable {w v v' : World} {p n jp k : Nat} {K : Nat → Prop} {V : Nat → Nat → Nat} {g m : Nat} {st : Nat → Nat} {gw cw : Nat} {y : Option Addr} {cy N : Nat} {M : Nat → Nat → Nat}

theorem Hd.below (h : Hd w v p n jp k K V g m st gw cw y cy N M) (t : Below v.heap.size v v') : Hd w v' p n jp k K V g m st gw cw y cy N M := by
  obtain ⟨ms, ln, ft, F, mm, f, A, D, R, Aa, C, hl⟩ := h.life
  obtain ⟨B, A1, C1, h1, h2⟩ := h.was
  obtain ⟨A2, C2, h3, h4⟩ := h.mks
  exact ⟨⟨ms, ln, ft, F, mm, f, A, D, R, Aa, C, hl.below t⟩, h.gk, ⟨B, A1, C1, h1.below t, h2⟩, h.ge, h.nk, ⟨A2, C2, h3.below t, h4⟩⟩

theorem Hd.nil (h : Hd w v p n jp k K V g m st gw cw y cy N M) : Tl w v p n jp (k + 1) gw none 0 (st m) V M V := by
  obtain ⟨ms, ln, ft, F, mm, f, A, D, R, Aa, C, hl⟩ := h.life
  obtain ⟨B, A1, C1, h1, h2⟩ := h.was
  exact ⟨⟨K, g, m, st, ms, ln, ft, F, mm, f, A, D, R, Aa, C, hl, by have := h.gk; omega, h.nk⟩, h.ge, ⟨A1, C1, h1.was⟩, fun t ht => by omega, by have := hl.used; omega, hl.n3, fun i hi => by unfold mixV; rw [if_neg (by omega)]⟩

theorem Hd.put (h : Hd w v p n jp k K V g m st gw cw y cy N M) {K' : Nat → Prop} {V' : Nat → Nat → Nat} {m2 : Nat} {st2 : Nat → Nat} {ms2 : Nat} {ln2 : Nat → Nat} {ft2 : Nat → Nat → Nat} {F2 : Nat → Prop} {mm2 : Nat} {f2 A2 : Nat → Nat} {D2 : Nat → Nat → Nat} {R2 : Value} {Aa2 : Nat → Option Addr} {C2 : Nat → Nat}
    (hl : Life w.heap.size w v' K' V' p n jp g m2 st2 ms2 ln2 ft2 F2 mm2 f2 A2 D2 R2 Aa2 C2) (T : Turns K v v') (hK : ∀ q, q < v.heap.size → K' q → K q) (hle : st m + N ≤ n) (h1 : ∀ i, i < st m ∨ st m + N ≤ i → V' i = V i) (h2 : ∀ i, i < N → V' (st m + i) = M i) :
    Tl w v' p n jp (k + 1) gw y N (st m) V M V' := by
  obtain ⟨B, A1, C1, o1, o2⟩ := h.was
  obtain ⟨A3, C3, o3, o4, o5⟩ := h.mks
  have hgw : gw < v.heap.size := o1.olt gw rfl
  have w1 := o1.turns T (fun q hq => by simp [Value.ownBlock] at hq; rw [← hq]; exact h.nk) o2
  have w3 := o3.turns T o4 (fun i hi ad ha => (o5 i hi ad ha).1)
  refine ⟨⟨K', g, m2, st2, ms2, ln2, ft2, F2, mm2, f2, A2, D2, R2, Aa2, C2, hl, by have := h.gk; omega, fun hk => h.nk (hK gw hgw hk)⟩, h.ge, ⟨A1, C1, w1.was⟩, fun t ht => ?_, hle, hl.n3, fun i hi => ?_⟩
  · obtain ⟨x, c', e, _, _, h4⟩ := w3.form
    injection e with e1 _ _
    obtain ⟨gy, e2, hc⟩ := h4 t ht
    subst e1
    have hob : (Value.slice y N cy).ownBlock = some gy := by rw [e2]; rfl
    have := w3.ob gy hob
    exact ⟨gy, A3 t, C3 t, e2, by omega, w3.olt gy hob, hc, (w3.elt t ht).row, fun ad ha => (o5 t ht ad ha).2⟩
  · unfold mixV
    by_cases q : st m ≤ i ∧ i < st m + N
    · rw [if_pos q, ← h2 (i - st m) (by omega), show st m + (i - st m) = i by omega]
    · rw [if_neg q]
      exact h1 i (by omega)

end

end Go.Proofs.Ythfpljfndnjcnaa
