/-
  A journal and its disk side by side; what the steps of Put leave.
  Conditions: none.
-/
import Derived.Test.YthfpljfndnjcnaaJoCalls
import Derived.Test.YthfpljfndnjcnaaDkAwake
namespace Go.Proofs.Ythfpljfndnjcnaa
open Go.RowKit By Dk Su Jo
set_option linter.unusedVariables false
set_option linter.unusedSimpArgs false

/- An append that comes up alone in a region that draws its order. -/
theorem ready_append {P : Program} {w w' : World} {ops : Array Oper} {o : Oper} {a : Act} {K : Act → World → Prop} {Q : Exit → Act → World → Prop} {v' : Value} (hg : Region.wanted o (yielded ops a.tmps) = true) (s x : Operand) (t : TypeId)
    (ho : o.op = .call { callee := .builtin .append, args := #[s, x], argTypes := #[t, t] }) (v1 v2 : Value) (hs : a.eval s = v1) (hx : a.eval x = v2) (hr : (Builtin.append_ #[t, t] o.type #[v1, v2]).run P w = .ok v' w')
    (h : K (a.put o.dst v') w') : if Region.wanted o (yielded ops a.tmps) = true then Oper.wp P o a w K Q else K (a.put o.dst undef) w := by
  rw [if_pos hg]
  unfold Oper.wp execOp
  simp only [ho, resolve, invoke, builtin, Sem.run_bind, Sem.run_pure, Result.andThen_ok, List.map_toArray, List.map_cons, List.map_nil, hs, hx, hr]
  exact h

/- A list that is only read; it may lie anywhere if it is empty. -/
structure EltW (w : World) (x : Option Addr) (l c : Nat) (f : Nat → Nat) : Prop where
  row : RowAt w x l f
  nil : x = none → l = 0 ∧ c = 0
  le : l ≤ c
  sm : l ≤ 140737488351232
  lt : ∀ j, f j < 256

theorem Elt.w {w : World} {x : Option Addr} {l c : Nat} {f : Nat → Nat} (h : Elt w x l c f) : EltW w x l c f := ⟨h.row, h.nil, h.le, h.sm, h.lt⟩

theorem EltW.turns {w w' : World} {x : Option Addr} {l c : Nat} {f : Nat → Nat} {G : Nat → Prop} (h : EltW w x l c f) (t : Turns G w w') (hx : l ≠ 0 → ∀ ad, x = some ad → ¬ G ad.block) : EltW w' x l c f := by
  refine ⟨?_, h.nil, h.le, h.sm, h.lt⟩
  by_cases e : l = 0
  · exact .inl e
  · exact t.row h.row (hx e)

structure JD (B : Nat) (w0 w : World) (F : Nat → Prop) (p n mm : Nat) (f A : Nat → Nat) (D : Nat → Nat → Nat) (jp g u : Nat) (R : Value) (m : Nat) (Aa : Nat → Option Addr) (ln C : Nat → Nat) (ft : Nat → Nat → Nat) : Prop where
  dsk : Dsk B w0 w F p n mm f A D
  jn : Jn w B jp p g u R m Aa ln C ft
  dis : ∀ k, F k → ¬ jfoot R jp m Aa k

section
variable {B : Nat} {w0 w w' : World} {F : Nat → Prop} {p n mm : Nat} {f A : Nat → Nat} {D : Nat → Nat → Nat} {jp g u : Nat} {R : Value} {m : Nat} {Aa : Nat → Option Addr} {ln C : Nat → Nat} {ft : Nat → Nat → Nat}

theorem JD.below (h : JD B w0 w F p n mm f A D jp g u R m Aa ln C ft) (t : Below w.heap.size w w') : JD B w0 w' F p n mm f A D jp g u R m Aa ln C ft := ⟨h.dsk.below t, h.jn.below t, h.dis⟩

theorem JD.drewN (h : JD B w0 w F p n mm f A D jp g u R m Aa ln C ft) (k : Nat) : JD B w0 (w.drewN k) F p n mm f A D jp g u R m Aa ln C ft := h.below ⟨rfl, rfl, rfl, Nat.le_refl _, fun _ _ => rfl⟩

def both (F : Nat → Prop) (R : Value) (jp m : Nat) (Aa : Nat → Option Addr) : Nat → Prop := fun k => F k ∨ jfoot R jp m Aa k

theorem JD.turns {G : Nat → Prop} (h : JD B w0 w F p n mm f A D jp g u R m Aa ln C ft) (t : Turns G w w') (hG : ∀ k, G k → B ≤ k) (hd : ∀ k, both F R jp m Aa k → ¬ G k) : JD B w0 w' F p n mm f A D jp g u R m Aa ln C ft :=
  ⟨h.dsk.turns t hG (fun k hk => hd k (.inl hk)), h.jn.turns t (fun k hk => hd k (.inr hk)), h.dis⟩

theorem JD.foot (h : JD B w0 w F p n mm f A D jp g u R m Aa ln C ft) : ∀ k, both F R jp m Aa k → B ≤ k ∧ k < w.heap.size := fun k hk => by
  rcases hk with e | e
  · exact ⟨h.dsk.foot k e, h.dsk.pd.flt k e⟩
  · exact h.jn.foot k e

end

theorem room_fits {n u l : Nat} (hu : u ≤ n) (hl : l ≤ 13005) : ((l : Int) ≤ roomZ n u) ↔ u + pcs l ≤ n := by
  unfold roomZ
  by_cases e : n = u
  · rw [if_pos e]
    have := pcs_pos l
    constructor
    · intro h; omega
    · intro h; omega
  · rw [if_neg e]
    have h1 : pcs l ≤ n - u ↔ 0 < n - u ∧ l ≤ 51 * (n - u) := pcs_fits
    constructor
    · intro h
      have h2 : l ≤ min (n - u) 255 * 51 := by omega
      have h3 : min (n - u) 255 ≤ n - u := Nat.min_le_left _ _
      have := h1.2 ⟨by omega, by omega⟩
      omega
    · intro h
      have h2 := h1.1 (by omega)
      have h3 : l ≤ min (n - u) 255 * 51 := by
        rcases Nat.le_total (n - u) 255 with e1 | e1
        · rw [Nat.min_eq_left e1]; omega
        · rw [Nat.min_eq_right e1]; omega
      omega

/- A round of Put's loop: so many parts are written. -/
structure Pp (B : Nat) (w0 w wr : World) (S0 : Nat) (F F' : Nat → Prop) (p n mm : Nat) (f A A' : Nat → Nat) (D D' : Nat → Nat → Nat) (jp g u : Nat) (R : Value) (m : Nat) (Aa : Nat → Option Addr) (ln C : Nat → Nat) (ft : Nat → Nat → Nat) (Rp : Value) (l : Nat) (b : Nat → Nat) (X : Nat → Option Addr) (Cp : Nat → Nat) (k : Nat) : Prop where
  dsk : Dsk B w0 wr F' p n (mm + k) f A' D'
  jn : Jn wr B jp p g (u + k) R m Aa ln C ft
  par : wr.ownsRow 0 79 5 Rp (pcs l) (rowOf (prV g (m + 1) l X Cp) (pcs l * 5))
  pl : ∀ q, Rp.ownBlock = some q → w.heap.size ≤ q ∧ q < S0
  fF : ∀ q, F' q → F q ∨ S0 ≤ q
  tr : Turns (both F R jp m Aa) w wr
  sz : S0 ≤ wr.heap.size
  sw : w.heap.size ≤ S0
  old : ∀ i, i < mm → A' i = A i ∧ D' i = D i
  new : ∀ i, i < k → A' (mm + i) = u + i ∧ ∀ j, j < 64 → D' (mm + i) j = mkS g (m + 1) l b i j
  dis : ∀ q, F q → ¬ jfoot R jp m Aa q
  jl : ∀ q, both F R jp m Aa q → B ≤ q ∧ q < w.heap.size

section
variable {B : Nat} {w0 w wr : World} {S0 : Nat} {F F' : Nat → Prop} {p n mm : Nat} {f A A' : Nat → Nat} {D D' : Nat → Nat → Nat} {jp g u : Nat} {R : Value} {m : Nat} {Aa : Nat → Option Addr} {ln C : Nat → Nat} {ft : Nat → Nat → Nat} {Rp : Value} {l : Nat} {b : Nat → Nat} {X : Nat → Option Addr} {Cp : Nat → Nat} {k : Nat}

theorem Pp.dis' (h : Pp B w0 w wr S0 F F' p n mm f A A' D D' jp g u R m Aa ln C ft Rp l b X Cp k) : ∀ q, F' q → ¬ jfoot R jp m Aa q := fun q hq hj => by
  rcases h.fF q hq with e | e
  · exact h.dis q e hj
  · have := (h.jl q (.inr hj)).2
    have := h.sw
    omega

theorem Pp.cells (h : Pp B w0 w wr S0 F F' p n mm f A A' D D' jp g u R m Aa ln C ft Rp l b X Cp k) (hk : k < pcs l) : ∃ gp cp, Rp = .slice (some ⟨gp, 0, none⟩) (pcs l) cp ∧ wr.cell? ⟨gp, k * 5, none⟩ = some (.int .i64 (g : Int)) ∧ wr.cell? ⟨gp, k * 5 + 1, none⟩ = some (.int .u32 ((m + 1 : Nat) : Int)) ∧ wr.cell? ⟨gp, k * 5 + 2, none⟩ = some (.int .i64 (k : Int)) ∧
    wr.cell? ⟨gp, k * 5 + 3, none⟩ = some (.bool (plast l k)) ∧ wr.cell? ⟨gp, k * 5 + 4, none⟩ = some (.slice (X k) (plen l k) (Cp k)) := by
  rcases h.par.2 with ⟨_, h0⟩ | ⟨gp, cp, cur, hv, _⟩
  · omega
  · subst hv
    have hc : ∀ j, j < 5 → wr.cell? ⟨gp, k * 5 + j, none⟩ = some (prV g (m + 1) l X Cp (k * 5 + j)) := fun j hj => by
      have := h.par.cells (g := gp) rfl (k * 5 + j) _ (rowOf_get _ _ _ (by omega))
      rw [add_at, Nat.zero_add] at this
      exact this
    refine ⟨gp, cp, rfl, ?_, ?_, ?_, ?_, ?_⟩
    · have := hc 0 (by omega)
      rw [Nat.add_zero] at this
      rw [this]; unfold prV; rw [if_pos (by omega)]
    · rw [hc 1 (by omega)]; unfold prV; rw [if_neg (by omega), if_pos (by omega)]
    · rw [hc 2 (by omega)]; unfold prV; rw [if_neg (by omega), if_neg (by omega), if_pos (by omega), show (k * 5 + 2) / 5 = k by omega]
    · rw [hc 3 (by omega)]; unfold prV; rw [if_neg (by omega), if_neg (by omega), if_neg (by omega), if_pos (by omega), show (k * 5 + 3) / 5 = k by omega]
    · rw [hc 4 (by omega)]; unfold prV; rw [if_neg (by omega), if_neg (by omega), if_neg (by omega), if_neg (by omega), show (k * 5 + 4) / 5 = k by omega]

/- Behind the Write, and the count of sectors. -/
theorem Pp.next {v1 v2 : World} (h : Pp B w0 w wr S0 F F' p n mm f A A' D D' jp g u R m Aa ln C ft Rp l b X Cp k) (b1 : Below wr.heap.size wr v1) (t2 : Turns F' v1 v2) (d2 : Dsk B w0 v2 (grow F' v1 v2) p n (mm + k + 1) f (ext A' (mm + k) (u + k)) (ext D' (mm + k) (mkS g (m + 1) l b k))) :
    Pp B w0 w (v2.setCell ⟨jp, 3, none⟩ (.int .i64 ((u + (k + 1) : Nat) : Int))) S0 F (grow F' v1 v2) p n mm f A (ext A' (mm + k) (u + k)) D (ext D' (mm + k) (mkS g (m + 1) l b k)) jp g u R m Aa ln C ft Rp l b X Cp (k + 1) := by
  have hsz1 := b1.size
  have hjl := h.jl jp (.inr (.inl rfl))
  have hs := h.sz
  have hsw := h.sw
  have j1 := (h.jn.below b1).turns t2 (fun q hq hF => h.dis' q hF hq)
  have hg : ∀ q, grow F' v1 v2 q → F q ∨ S0 ≤ q := fun q hq => by
    rcases hq with e | e
    · exact h.fF q e
    · right; omega
  have hnj : ∀ q, grow F' v1 v2 q → q ≠ jp := fun q hq e => by
    subst e
    rcases hg q hq with e1 | e1
    · exact h.dis q e1 (.inl rfl)
    · omega
  have T3 : Turns (fun q => q = jp) v2 (v2.setCell ⟨jp, 3, none⟩ (.int .i64 ((u + (k + 1) : Nat) : Int))) := (Turns.refl (fun q => q = jp) v2).setCell (p := ⟨jp, 3, none⟩) (.inl rfl) _
  refine ⟨d2.turns T3 (fun q hq => by omega) (fun q hq e => hnj q hq e), ⟨(j1.obj.set 3 _).congr fun i hi => ?_, ?_, j1.jb, j1.af⟩, ?_, h.pl, hg, ?_, ?_, hsw, fun i hi => ?_, fun i hi => ?_, h.dis, h.jl⟩
  · unfold upd obj4
    have : i = 0 ∨ i = 1 ∨ i = 2 ∨ i = 3 := by omega
    rcases this with rfl | rfl | rfl | rfl <;> simp
  · exact j1.own.turns T3 (fun q hq e => by subst e; exact ownsRow_ne j1.own.own j1.obj (by decide) hq) (fun i hi ad ha e => (j1.af i hi ad ha).2 e)
  · refine ownsRow_same h.par fun q hq => ?_
    have hq1 := h.pl q hq
    have hqw := (h.par.lt q hq).2
    have e1 : q ≠ jp := fun e => by omega
    have e2 : ¬ F' q := fun e => by
      rcases h.fF q e with e | e
      · have := (h.jl q (.inl e)).2; omega
      · omega
    exact (Below.heap_setCell _ _ _ _ e1).trans ((t2.block q (by omega) e2).trans (b1.block q hqw))
  · have T1 : Turns (both F R jp m Aa) w v1 := ⟨b1.os.trans h.tr.os, b1.tape.trans h.tr.tape, b1.output.trans h.tr.output, Nat.le_trans h.tr.size b1.size, fun q hq hF => (b1.block q (Nat.lt_of_lt_of_le hq h.tr.size)).trans (h.tr.block q hq hF)⟩
    have T2 : Turns (both F R jp m Aa) w v2 := T1.more t2 (fun q hq => by
      rcases h.fF q hq with e | e
      · exact .inl (.inl e)
      · right; omega)
    exact T2.setCell (p := ⟨jp, 3, none⟩) (.inl (.inr (.inl rfl))) _
  · have := t2.size
    simp [World.setCell]
    omega
  · rw [ext_old _ _ _ (by omega), ext_old _ _ _ (by omega)]
    exact h.old i hi
  · by_cases e : i < k
    · rw [ext_old _ _ _ (by omega), ext_old _ _ _ (by omega)]
      exact h.new i e
    · obtain rfl : i = k := by omega
      rw [ext_new, ext_new]
      exact ⟨rfl, fun j hj => rfl⟩

/- The record itself, behind the others. -/
theorem Pp.done {v1 : World} {y : Option Addr} {cy : Nat} (h : Pp B w0 w wr S0 F F' p n mm f A A' D D' jp g u R m Aa ln C ft Rp l b X Cp k) (b1 : Below wr.heap.size wr v1) (he : Elt v1 y l cy b) (hy : ∀ ad, y = some ad → wr.heap.size ≤ ad.block) (hm : m ≤ 4096) :
    ∃ x' c' w', (Builtin.append_ #[38, 38] 38 #[R, .slice (some ⟨v1.heap.size, 0, none⟩) 1 1]).run Try.prog (v1.alloc (.cells #[.slice y l cy] 31)) = .ok (.slice x' (m + 1) c') w' ∧
      (∀ ob, (v1.alloc ob).cell? ⟨jp, 2, none⟩ = some R) ∧ w'.cell? ⟨jp, 2, none⟩ = some R ∧ w'.frozen? ⟨jp, 2, none⟩ = false ∧
      Hid (JD B w0 (w'.setCell ⟨jp, 2, none⟩ (.slice x' (m + 1) c')) F' p n (mm + k) f A' D' jp g (u + k) (.slice x' (m + 1) c') (m + 1) (ext Aa m y) (ext ln m l) (ext C m cy) (ext ft m b) ∧
        Turns (both F R jp m Aa) w (w'.setCell ⟨jp, 2, none⟩ (.slice x' (m + 1) c')) ∧ (∀ q, q < w.heap.size → both F' (.slice x' (m + 1) c') jp (m + 1) (ext Aa m y) q → both F R jp m Aa q)) := by
  have hsz1 := b1.size
  have hs := h.sz
  have hsw := h.sw
  have hjl := h.jl jp (.inr (.inl rfl))
  have j1 := h.jn.below b1
  have hB1 : B ≤ v1.heap.size := by omega
  obtain ⟨x', c', w', hrun, ho, T, hR'⟩ := j1.own.push hB1 he (fun ad e hg => by have := h.jn.own.olt _ hg; have := hy ad e; omega) (by omega)
  have hRj : R.ownBlock ≠ some jp := ownsRow_ne j1.own.own j1.obj (by decide)
  have hobj := T.blk j1.obj hRj
  have hR2 : ∀ q, (Value.slice x' (m + 1) c').ownBlock = some q → R.ownBlock = some q ∨ v1.heap.size ≤ q := hR'
  have hyl : ∀ ad, y = some ad → ad.block < v1.heap.size := he.old
  have T3 : Turns (fun q => q = jp) w' (w'.setCell ⟨jp, 2, none⟩ (.slice x' (m + 1) c')) := (Turns.refl (fun q => q = jp) w').setCell (p := ⟨jp, 2, none⟩) (.inl rfl) _
  have hoR : (Value.slice x' (m + 1) c').ownBlock ≠ some jp := fun e => by
    rcases hR2 jp e with e1 | e1
    · exact hRj e1
    · have := h.jn.obj.lt; omega
  have haf : ∀ i, i < m + 1 → ∀ ad, ext Aa m y i = some ad → B ≤ ad.block ∧ ad.block ≠ jp := fun i hi ad ha => by
    by_cases e : i < m
    · rw [ext_old _ _ _ e] at ha
      exact h.jn.af i e ad ha
    · obtain rfl : i = m := by omega
      rw [ext_new] at ha
      have := hy ad ha
      have := h.jn.obj.lt
      exact ⟨by omega, by omega⟩
  have hnew : ∀ q, jfoot (.slice x' (m + 1) c') jp (m + 1) (ext Aa m y) q → jfoot R jp m Aa q ∨ wr.heap.size ≤ q := fun q hq => by
    rcases hq with e | e | ⟨i, hi, ad, ha, rfl⟩
    · exact .inl (.inl e)
    · rcases hR2 q e with e1 | e1
      · exact .inl (.inr (.inl e1))
      · right; omega
    · by_cases e : i < m
      · rw [ext_old _ _ _ e] at ha
        exact .inl (.inr (.inr ⟨i, e, ad, ha, rfl⟩))
      · obtain rfl : i = m := by omega
        rw [ext_new] at ha
        exact .inr (hy ad ha)
  have hflt := h.dsk.pd.flt
  have d1 : Dsk B w0 (w'.setCell ⟨jp, 2, none⟩ (.slice x' (m + 1) c')) F' p n (mm + k) f A' D' := by
    refine ((h.dsk.below b1).turns T (fun q hq => h.jn.own.ob q hq) (fun q hq e => h.dis' q hq (.inr (.inl e)))).turns T3 (fun q hq => by omega) (fun q hq e => h.dis' q hq (.inl e))
  refine ⟨x', c', w', hrun, fun ob => ?_, hobj.cell (k := 2) (by omega), hobj.frozen 2, ⟨d1, ⟨(hobj.set 2 _).congr fun i hi => ?_, ho.turns T3 (fun q hq e => hoR (by rw [hq, e])) (fun i hi ad ha e => (haf i hi ad ha).2 e), h.jn.jb, haf⟩, fun q hq hj => ?_⟩, ?_, fun q hq hb => ?_⟩
  · exact (j1.below ((Below.refl _ _).alloc (Nat.le_refl _) ob)).c2
  · unfold upd obj4
    have : i = 0 ∨ i = 1 ∨ i = 2 ∨ i = 3 := by omega
    rcases this with rfl | rfl | rfl | rfl <;> simp
  · rcases hnew q hj with e | e
    · exact h.dis' q hq e
    · have := hflt q hq; omega
  · have T1 : Turns (both F R jp m Aa) w v1 := ⟨b1.os.trans h.tr.os, b1.tape.trans h.tr.tape, b1.output.trans h.tr.output, Nat.le_trans h.tr.size b1.size, fun q hq hF => (b1.block q (Nat.lt_of_lt_of_le hq h.tr.size)).trans (h.tr.block q hq hF)⟩
    exact (T1.more T (fun q hq => .inl (.inr (.inr (.inl hq))))).setCell (p := ⟨jp, 2, none⟩) (.inl (.inr (.inl rfl))) _
  · rcases hb with e | e
    · rcases h.fF q e with e | e
      · exact .inl e
      · omega
    · rcases hnew q e with e | e
      · exact .inr e
      · omega

end

end Go.Proofs.Ythfpljfndnjcnaa
