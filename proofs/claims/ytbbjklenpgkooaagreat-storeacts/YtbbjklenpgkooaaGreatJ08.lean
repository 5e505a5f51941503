/-
  3 texts of this proof, one behind the other: JoCalls, JoPutP, JoPut.
-/
import Derived.Test.YtbbjklenpgkooaaGreatJ07
import Derived.Test.YtbbjklenpgkooaaGreatJ03
/-
  What open, Len, Gen, Room, Sync and Get of a journal do: contracts over plain numbers ('JoPlain').
  Conditions: the journal is one that Open gave ('Jn'), or nobody's.
-/
namespace Go.Proofs.YtbbjklenpgkooaaGreat
open Go.RowKit By Dk Su Jo
set_option linter.unusedVariables false
set_option linter.unusedSimpArgs false
set_option maxRecDepth 100000

theorem jopen_any (jp : Nat) (p : Addr) (w : World) (h : w.cell? ⟨jp, 0, none⟩ = some (.pointer (some p))) :
    Calls Tryz.prog 62 #[.pointer (some ⟨jp, 0, none⟩)] w fun e w' => e = .returned (.bool true) ∧ w' = w := by
  go_enter Tryz.func62, Tryz.ntmps62
  go_wp2_with fail
  go_ret
  exact ⟨rfl, rfl⟩

theorem jopen_zero (jp : Nat) (w : World) (h : w.cell? ⟨jp, 0, none⟩ = some (.pointer none)) :
    Calls Tryz.prog 62 #[.pointer (some ⟨jp, 0, none⟩)] w fun e w' => e = .returned (.bool false) ∧ w' = w := by
  go_enter Tryz.func62, Tryz.ntmps62
  go_wp2_with fail
  go_ret
  exact ⟨rfl, rfl⟩

theorem jopen_nil (w : World) : Calls Tryz.prog 62 #[.pointer none] w fun e w' => e = .returned (.bool false) ∧ w' = w := by
  go_enter Tryz.func62, Tryz.ntmps62
  go_wp2_with fail
  go_ret
  exact ⟨rfl, rfl⟩

/- Nobody's journal: open tells false. -/
def Shut0 (v : Value) (w : World) : Prop := Calls Tryz.prog 62 #[v] w fun e w' => e = .returned (.bool false) ∧ w' = w

theorem len_no (v : Value) (w : World) (h : Shut0 v w) : Calls Tryz.prog 31 #[v] w fun e w' => e = .returned (.int .i64 0) ∧ w' = w := by
  unfold Shut0 at h
  go_enter Tryz.func31, Tryz.ntmps31
  go_wp2_with ((go_at_call 62; refine h.mono ?_; rintro e w' ⟨rfl, hw⟩; subst w'; clear h))
  go_ret
  exact ⟨rfl, rfl⟩

theorem room_no (v : Value) (w : World) (h : Shut0 v w) : Calls Tryz.prog 69 #[v] w fun e w' => e = .returned (.int .i64 (-1)) ∧ w' = w := by
  unfold Shut0 at h
  go_enter Tryz.func69, Tryz.ntmps69
  go_wp2_with ((go_at_call 62; refine h.mono ?_; rintro e w' ⟨rfl, hw⟩; subst w'; clear h))
  go_ret
  exact ⟨rfl, rfl⟩

theorem sync_no (v : Value) (w : World) (h : Shut0 v w) : Calls Tryz.prog 45 #[v] w fun e w' => e = .returned (.tuple #[]) ∧ w' = w := by
  unfold Shut0 at h
  go_enter Tryz.func45, Tryz.ntmps45
  go_wp2_with ((go_at_call 62; refine h.mono ?_; rintro e w' ⟨rfl, hw⟩; subst w'; clear h))
  refine bodyPost_end (results_none rfl _ _ _) rfl ?_
  exact ⟨rfl, rfl⟩

theorem put_no (v : Value) (x : Option Addr) (l c : Nat) (w : World) (h : Shut0 v w) : Calls Tryz.prog 44 #[v, .slice x l c] w fun e w' => e = .returned (.int .i64 1) ∧ w' = w := by
  unfold Shut0 at h
  go_enter Tryz.func44, Tryz.ntmps44
  go_wp2_with ((go_at_call 62; refine h.mono ?_; rintro e w' ⟨rfl, hw⟩; subst w'; clear h))
  go_ret
  exact ⟨rfl, rfl⟩

theorem get_no (v : Value) (m : Nat) (z : Int) (w : World) (h : Calls Tryz.prog 31 #[v] w fun e w' => e = .returned (.int .i64 (m : Int)) ∧ w' = w) (hz : 0 ≤ z) (hm : (m : Int) ≤ z) : Calls Tryz.prog 32 #[v, .int .i64 z] w fun e w' => e = .returned (.tuple #[.slice none 0 0, .bool false]) ∧ w' = w := by
  have hz' : ¬ z < 0 := by omega
  go_enter Tryz.func32, Tryz.ntmps32
  go_wp2_with ((go_at_call 31; refine h.mono ?_; rintro e w' ⟨rfl, hw⟩; subst w'; clear h))
  go_ret2
  exact ⟨rfl, rfl⟩

section
variable {w : World} {B jp p g u m : Nat} {R : Value} {A : Nat → Option Addr} {ln C : Nat → Nat} {ft : Nat → Nat → Nat}

theorem Jn.len (h : Jn w B jp p g u R m A ln C ft) : Calls Tryz.prog 31 #[.pointer (some ⟨jp, 0, none⟩)] w fun e w' => e = .returned (.int .i64 (m : Int)) ∧ w' = w := by
  have ho := jopen_any jp _ w h.c0
  obtain ⟨x, c, rfl, _⟩ := h.own.form
  have c2 := h.c2
  clear h
  go_enter Tryz.func31, Tryz.ntmps31
  go_wp2_with ((go_at_call 62; refine ho.mono ?_; rintro e w' ⟨rfl, hw⟩; subst w'; clear ho))
  go_ret
  exact ⟨rfl, rfl⟩

/- The i-th record: a copy in new memory. -/
theorem Jn.get (h : Jn w B jp p g u R m A ln C ft) (i : Nat) (z : Int) (hz : z = (i : Int)) (hi : i < m) :
    Calls Tryz.prog 32 #[.pointer (some ⟨jp, 0, none⟩), .int .i64 z] w fun e w' => ∃ y cy, e = .returned (.tuple #[.slice y (ln i) cy, .bool true]) ∧ Below w.heap.size w w' ∧ Elt w' y (ln i) cy (ft i) ∧ ∀ ad, y = some ad → w.heap.size ≤ ad.block := by
  subst hz
  have hlen := h.len
  have he := h.own.elt i hi
  have hcl := clone_full (A i) (ln i) (C i) (ft i) w he.row (by have := he.sm; omega) he.nil
  have HE := hid he
  obtain ⟨x, c, rfl, _, _, hc⟩ := h.own.form
  obtain ⟨q, rfl, hq⟩ := hc i hi
  have c2 := h.c2
  have hi' : (i : Int) < (m : Int) := by omega
  have hi2 : ¬ (m : Int) ≤ (i : Int) := by omega
  clear h hc he
  generalize A i = Ai at *
  generalize ln i = Li at *
  generalize C i = Ci at *
  go_enter Tryz.func32, Tryz.ntmps32
  go_wp2_with (first
    | (go_at_call 31; refine hlen.mono ?_; rintro e w' ⟨rfl, hw⟩; subst w'; clear hlen)
    | (go_at_call 47; refine hcl.mono ?_; rintro e w2 ⟨y, cy, rfl, hb2, hr2, hle, hnil, had⟩; clear hcl
       have HB := hid (And.intro hb2 (And.intro hr2 (And.intro hle (And.intro hnil had))))
       clear hb2 hr2 hle hnil had))
  go_ret2
  obtain ⟨hb2, hr2, hle, hnil, had⟩ := HB.out
  exact ⟨y, cy, rfl, hb2, ⟨hr2, hnil, hle, HE.out.sm, HE.out.lt, fun ad e => (had ad e).2⟩, fun ad e => (had ad e).1⟩

/- Room. -/
def roomZ (n u : Nat) : Int := if n = u then -1 else ((min (n - u) 255 * 51 : Nat) : Int)

set_option maxHeartbeats 1000000 in
theorem Jn.room {F : Nat → Prop} {n mm : Nat} {f Aw : Nat → Nat} {D : Nat → Nat → Nat} (h : Jn w B jp p g u R m A ln C ft) (hd : Pd w F p n mm f Aw D) (hu : u ≤ n) :
    Calls Tryz.prog 69 #[.pointer (some ⟨jp, 0, none⟩)] w fun e w' => e = .returned (.int .i64 (roomZ n u)) ∧ ∃ k, w' = w.drewN k := by
  have ho := jopen_any jp _ w h.c0
  have hn2 := hd.n1.2
  have c0 := h.c0
  have c3 := h.c3
  have hsz : ∀ k, Calls Tryz.prog 58 #[.pointer (some ⟨p, 0, none⟩)] (w.drewN k) fun e w' => e = .returned (.int .i64 (n : Int)) ∧ w' = w.drewN k := fun k => (hd.drewN k).size
  obtain ⟨d, hdd⟩ : ∃ d, d = n - u := ⟨_, rfl⟩
  have hdi : (n : Int) - (u : Int) = (d : Int) := by omega
  have hd9 : d ≤ 4096 := by omega
  have hwr : IntKind.i64.wrap (d : Int) = (d : Int) := by rw [IntKind.wrap_i64]; omega
  have HRZ : Hid (roomZ n u = if d = 0 then -1 else ((min d 255 * 51 : Nat) : Int)) := by
    show roomZ n u = _
    unfold roomZ
    rw [hdd]
    by_cases e : n = u
    · rw [if_pos e, if_pos (by omega)]
    · rw [if_neg e, if_neg (by omega)]
  clear h hd hdd
  go_enter Tryz.func69, Tryz.ntmps69
  go_wp2_with (first
    | (go_at_call 62; refine ho.mono ?_; rintro e w' ⟨rfl, hw⟩; subst w'; clear ho))
  go_quiet ((go_at_call 58; exact Calls.quiet_of_same (hsz _)))
  by_cases h0 : d = 0
  · have hz : roomZ n u = -1 := by rw [HRZ.out, if_pos h0]
    have HZ := hid hz
    subst h0
    clear hz HRZ
    go_wp2_with fail
    go_ret
    refine ⟨?_, _, rfl⟩
    rw [HZ.out]
    rfl
  · have h0' : ((d : Int) == 0) = false := by rw [beq_eq_false_iff_ne]; omega
    by_cases h5 : d ≤ 255
    · have hz : roomZ n u = (d : Int) * 51 := by rw [HRZ.out, if_neg h0, Nat.min_eq_left h5]; omega
      have HZ := hid hz
      have h5' : (d : Int) ≤ 255 := by omega
      clear hz HRZ
      go_wp2_with fail
      go_ret
      refine ⟨?_, _, rfl⟩
      rw [HZ.out]
      rfl
    · have hz : roomZ n u = 13005 := by rw [HRZ.out, if_neg h0, Nat.min_eq_right (by omega)]; rfl
      have HZ := hid hz
      have h5' : ¬ (d : Int) ≤ 255 := by omega
      have h5'' : (255 : Int) < (d : Int) := by omega
      clear hz HRZ
      go_wp2_with fail
      go_ret
      refine ⟨?_, _, rfl⟩
      rw [HZ.out]
      rfl

theorem Jn.sync {F : Nat → Prop} {n mm : Nat} {f Aw : Nat → Nat} {D : Nat → Nat → Nat} {B0 : Nat} {w0 : World} (h : Jn w B jp p g u R m A ln C ft) (hd : Dsk B0 w0 w F p n mm f Aw D) :
    Calls Tryz.prog 45 #[.pointer (some ⟨jp, 0, none⟩)] w fun e w' => e = .returned (.tuple #[]) ∧ Turns F w w' ∧ Dsk B0 w0 w' F p n 0 (kept f Aw D (fun _ => true) mm) Aw D := by
  have ho := jopen_any jp _ w h.c0
  have c0 := h.c0
  have hf := dflush _ _ _ _ _ _ _ _ w0 w hd
  clear h hd
  go_enter Tryz.func45, Tryz.ntmps45
  go_wp2_with (first
    | (go_at_call 62; refine ho.mono ?_; rintro e w' ⟨rfl, hw⟩; subst w'; clear ho)
    | (go_at_call 72; refine hf.mono ?_; rintro e w1 ⟨rfl, t1, d1⟩; clear hf
       have HT := hid (And.intro t1 d1)
       clear t1 d1))
  refine bodyPost_end (results_none rfl _ _ _) rfl ?_
  exact ⟨rfl, HT.out⟩

end

end Go.Proofs.YtbbjklenpgkooaaGreat

/-
  A journal and its disk side by side; what the steps of Put leave.
  Conditions: none.
-/
namespace Go.Proofs.YtbbjklenpgkooaaGreat
open Go.RowKit By Dk Su Jo
set_option linter.unusedVariables false
set_option linter.unusedSimpArgs false
set_option maxRecDepth 100000

/- An append that comes up alone in a region that draws its order. -/
theorem ready_append {P : Program} {w w' : World} {ops : Array Oper} {o : Oper} {a : Act} {K : Act → World → Prop} {Q : Exit → Act → World → Prop} {v' : Value} (hg : Region.wanted o (yielded ops a.tmps) = true) (s x : Operand) (t : TypeId)
    (ho : o.op = .call { callee := .builtin .append, args := #[s, x], argTypes := #[t, t] }) (v1 v2 : Value) (hs : a.eval s = v1) (hx : a.eval x = v2) (hr : (Builtin.append_ #[t, t] o.type #[v1, v2]).run P w = .ok v' w')
    (h : K (a.put o.dst v') w') : if Region.wanted o (yielded ops a.tmps) = true then Oper.wp P o a w K Q else K (a.put o.dst undef) w := by
  rw [if_pos hg]
  unfold Oper.wp execOp
  simp only [ho, resolve, invoke, builtin, Sem.run_bind, Sem.run_pure, Result.andThen_ok, List.map_toArray, List.map_cons, List.map_nil, hs, hx, hr]
  exact h

/- A list that is only read; it may lie anywhere if it is empty. -/
structure EltW (w : World) (x : Option Addr) (l c : Nat) (f : Nat → Nat) : Prop where
  row : RowAt w x l f
  nil : x = none → l = 0 ∧ c = 0
  le : l ≤ c
  sm : l ≤ 140737488351232
  lt : ∀ j, f j < 256

theorem Elt.w {w : World} {x : Option Addr} {l c : Nat} {f : Nat → Nat} (h : Elt w x l c f) : EltW w x l c f := ⟨h.row, h.nil, h.le, h.sm, h.lt⟩

theorem EltW.turns {w w' : World} {x : Option Addr} {l c : Nat} {f : Nat → Nat} {G : Nat → Prop} (h : EltW w x l c f) (t : Turns G w w') (hx : l ≠ 0 → ∀ ad, x = some ad → ¬ G ad.block) : EltW w' x l c f := by
  refine ⟨?_, h.nil, h.le, h.sm, h.lt⟩
  by_cases e : l = 0
  · exact .inl e
  · exact t.row h.row (hx e)

structure JD (B : Nat) (w0 w : World) (F : Nat → Prop) (p n mm : Nat) (f A : Nat → Nat) (D : Nat → Nat → Nat) (jp g u : Nat) (R : Value) (m : Nat) (Aa : Nat → Option Addr) (ln C : Nat → Nat) (ft : Nat → Nat → Nat) : Prop where
  dsk : Dsk B w0 w F p n mm f A D
  jn : Jn w B jp p g u R m Aa ln C ft
  dis : ∀ k, F k → ¬ jfoot R jp m Aa k

section
variable {B : Nat} {w0 w w' : World} {F : Nat → Prop} {p n mm : Nat} {f A : Nat → Nat} {D : Nat → Nat → Nat} {jp g u : Nat} {R : Value} {m : Nat} {Aa : Nat → Option Addr} {ln C : Nat → Nat} {ft : Nat → Nat → Nat}

theorem JD.below (h : JD B w0 w F p n mm f A D jp g u R m Aa ln C ft) (t : Below w.heap.size w w') : JD B w0 w' F p n mm f A D jp g u R m Aa ln C ft := ⟨h.dsk.below t, h.jn.below t, h.dis⟩

theorem JD.drewN (h : JD B w0 w F p n mm f A D jp g u R m Aa ln C ft) (k : Nat) : JD B w0 (w.drewN k) F p n mm f A D jp g u R m Aa ln C ft := h.below ⟨rfl, rfl, rfl, Nat.le_refl _, fun _ _ => rfl⟩

def both (F : Nat → Prop) (R : Value) (jp m : Nat) (Aa : Nat → Option Addr) : Nat → Prop := fun k => F k ∨ jfoot R jp m Aa k

theorem JD.turns {G : Nat → Prop} (h : JD B w0 w F p n mm f A D jp g u R m Aa ln C ft) (t : Turns G w w') (hG : ∀ k, G k → B ≤ k) (hd : ∀ k, both F R jp m Aa k → ¬ G k) : JD B w0 w' F p n mm f A D jp g u R m Aa ln C ft :=
  ⟨h.dsk.turns t hG (fun k hk => hd k (.inl hk)), h.jn.turns t (fun k hk => hd k (.inr hk)), h.dis⟩

theorem JD.foot (h : JD B w0 w F p n mm f A D jp g u R m Aa ln C ft) : ∀ k, both F R jp m Aa k → B ≤ k ∧ k < w.heap.size := fun k hk => by
  rcases hk with e | e
  · exact ⟨h.dsk.foot k e, h.dsk.pd.flt k e⟩
  · exact h.jn.foot k e

end

theorem room_fits {n u l : Nat} (hu : u ≤ n) (hl : l ≤ 13005) : ((l : Int) ≤ roomZ n u) ↔ u + pcs l ≤ n := by
  unfold roomZ
  by_cases e : n = u
  · rw [if_pos e]
    have := pcs_pos l
    constructor
    · intro h; omega
    · intro h; omega
  · rw [if_neg e]
    have h1 : pcs l ≤ n - u ↔ 0 < n - u ∧ l ≤ 51 * (n - u) := pcs_fits
    constructor
    · intro h
      have h2 : l ≤ min (n - u) 255 * 51 := by omega
      have h3 : min (n - u) 255 ≤ n - u := Nat.min_le_left _ _
      have := h1.2 ⟨by omega, by omega⟩
      omega
    · intro h
      have h2 := h1.1 (by omega)
      have h3 : l ≤ min (n - u) 255 * 51 := by
        rcases Nat.le_total (n - u) 255 with e1 | e1
        · rw [Nat.min_eq_left e1]; omega
        · rw [Nat.min_eq_right e1]; omega
      omega

/- A round of Put's loop: so many parts are written. -/
structure Pp (B : Nat) (w0 w wr : World) (S0 : Nat) (F F' : Nat → Prop) (p n mm : Nat) (f A A' : Nat → Nat) (D D' : Nat → Nat → Nat) (jp g u : Nat) (R : Value) (m : Nat) (Aa : Nat → Option Addr) (ln C : Nat → Nat) (ft : Nat → Nat → Nat) (Rp : Value) (l : Nat) (b : Nat → Nat) (X : Nat → Option Addr) (Cp : Nat → Nat) (k : Nat) : Prop where
  dsk : Dsk B w0 wr F' p n (mm + k) f A' D'
  jn : Jn wr B jp p g (u + k) R m Aa ln C ft
  par : wr.ownsRow 0 122 5 Rp (pcs l) (rowOf (prV g (m + 1) l X Cp) (pcs l * 5))
  pl : ∀ q, Rp.ownBlock = some q → w.heap.size ≤ q ∧ q < S0
  fF : ∀ q, F' q → F q ∨ S0 ≤ q
  tr : Turns (both F R jp m Aa) w wr
  sz : S0 ≤ wr.heap.size
  sw : w.heap.size ≤ S0
  old : ∀ i, i < mm → A' i = A i ∧ D' i = D i
  new : ∀ i, i < k → A' (mm + i) = u + i ∧ ∀ j, j < 64 → D' (mm + i) j = mkS g (m + 1) l b i j
  dis : ∀ q, F q → ¬ jfoot R jp m Aa q
  jl : ∀ q, both F R jp m Aa q → B ≤ q ∧ q < w.heap.size

section
variable {B : Nat} {w0 w wr : World} {S0 : Nat} {F F' : Nat → Prop} {p n mm : Nat} {f A A' : Nat → Nat} {D D' : Nat → Nat → Nat} {jp g u : Nat} {R : Value} {m : Nat} {Aa : Nat → Option Addr} {ln C : Nat → Nat} {ft : Nat → Nat → Nat} {Rp : Value} {l : Nat} {b : Nat → Nat} {X : Nat → Option Addr} {Cp : Nat → Nat} {k : Nat}

theorem Pp.dis' (h : Pp B w0 w wr S0 F F' p n mm f A A' D D' jp g u R m Aa ln C ft Rp l b X Cp k) : ∀ q, F' q → ¬ jfoot R jp m Aa q := fun q hq hj => by
  rcases h.fF q hq with e | e
  · exact h.dis q e hj
  · have := (h.jl q (.inr hj)).2
    have := h.sw
    omega

theorem Pp.cells (h : Pp B w0 w wr S0 F F' p n mm f A A' D D' jp g u R m Aa ln C ft Rp l b X Cp k) (hk : k < pcs l) : ∃ gp cp, Rp = .slice (some ⟨gp, 0, none⟩) (pcs l) cp ∧ wr.cell? ⟨gp, k * 5, none⟩ = some (.int .i64 (g : Int)) ∧ wr.cell? ⟨gp, k * 5 + 1, none⟩ = some (.int .u32 ((m + 1 : Nat) : Int)) ∧ wr.cell? ⟨gp, k * 5 + 2, none⟩ = some (.int .i64 (k : Int)) ∧
    wr.cell? ⟨gp, k * 5 + 3, none⟩ = some (.bool (plast l k)) ∧ wr.cell? ⟨gp, k * 5 + 4, none⟩ = some (.slice (X k) (plen l k) (Cp k)) := by
  rcases h.par.2 with ⟨_, h0⟩ | ⟨gp, cp, cur, hv, _⟩
  · omega
  · subst hv
    have hc : ∀ j, j < 5 → wr.cell? ⟨gp, k * 5 + j, none⟩ = some (prV g (m + 1) l X Cp (k * 5 + j)) := fun j hj => by
      have := h.par.cells (g := gp) rfl (k * 5 + j) _ (rowOf_get _ _ _ (by omega))
      rw [add_at, Nat.zero_add] at this
      exact this
    refine ⟨gp, cp, rfl, ?_, ?_, ?_, ?_, ?_⟩
    · have := hc 0 (by omega)
      rw [Nat.add_zero] at this
      rw [this]; unfold prV; rw [if_pos (by omega)]
    · rw [hc 1 (by omega)]; unfold prV; rw [if_neg (by omega), if_pos (by omega)]
    · rw [hc 2 (by omega)]; unfold prV; rw [if_neg (by omega), if_neg (by omega), if_pos (by omega), show (k * 5 + 2) / 5 = k by omega]
    · rw [hc 3 (by omega)]; unfold prV; rw [if_neg (by omega), if_neg (by omega), if_neg (by omega), if_pos (by omega), show (k * 5 + 3) / 5 = k by omega]
    · rw [hc 4 (by omega)]; unfold prV; rw [if_neg (by omega), if_neg (by omega), if_neg (by omega), if_neg (by omega), show (k * 5 + 4) / 5 = k by omega]

/- Behind the Write, and the count of sectors. -/
theorem Pp.next {v1 v2 : World} (h : Pp B w0 w wr S0 F F' p n mm f A A' D D' jp g u R m Aa ln C ft Rp l b X Cp k) (b1 : Below wr.heap.size wr v1) (t2 : Turns F' v1 v2) (d2 : Dsk B w0 v2 (grow F' v1 v2) p n (mm + k + 1) f (ext A' (mm + k) (u + k)) (ext D' (mm + k) (mkS g (m + 1) l b k))) :
    Pp B w0 w (v2.setCell ⟨jp, 3, none⟩ (.int .i64 ((u + (k + 1) : Nat) : Int))) S0 F (grow F' v1 v2) p n mm f A (ext A' (mm + k) (u + k)) D (ext D' (mm + k) (mkS g (m + 1) l b k)) jp g u R m Aa ln C ft Rp l b X Cp (k + 1) := by
  have hsz1 := b1.size
  have hjl := h.jl jp (.inr (.inl rfl))
  have hs := h.sz
  have hsw := h.sw
  have j1 := (h.jn.below b1).turns t2 (fun q hq hF => h.dis' q hF hq)
  have hg : ∀ q, grow F' v1 v2 q → F q ∨ S0 ≤ q := fun q hq => by
    rcases hq with e | e
    · exact h.fF q e
    · right; omega
  have hnj : ∀ q, grow F' v1 v2 q → q ≠ jp := fun q hq e => by
    subst e
    rcases hg q hq with e1 | e1
    · exact h.dis q e1 (.inl rfl)
    · omega
  have T3 : Turns (fun q => q = jp) v2 (v2.setCell ⟨jp, 3, none⟩ (.int .i64 ((u + (k + 1) : Nat) : Int))) := (Turns.refl (fun q => q = jp) v2).setCell (p := ⟨jp, 3, none⟩) (.inl rfl) _
  refine ⟨d2.turns T3 (fun q hq => by omega) (fun q hq e => hnj q hq e), ⟨(j1.obj.set 3 _).congr fun i hi => ?_, ?_, j1.jb, j1.af⟩, ?_, h.pl, hg, ?_, ?_, hsw, fun i hi => ?_, fun i hi => ?_, h.dis, h.jl⟩
  · unfold upd obj4
    have : i = 0 ∨ i = 1 ∨ i = 2 ∨ i = 3 := by omega
    rcases this with rfl | rfl | rfl | rfl <;> simp
  · exact j1.own.turns T3 (fun q hq e => by subst e; exact ownsRow_ne j1.own.own j1.obj (by decide) hq) (fun i hi ad ha e => (j1.af i hi ad ha).2 e)
  · refine ownsRow_same h.par fun q hq => ?_
    have hq1 := h.pl q hq
    have hqw := (h.par.lt q hq).2
    have e1 : q ≠ jp := fun e => by omega
    have e2 : ¬ F' q := fun e => by
      rcases h.fF q e with e | e
      · have := (h.jl q (.inl e)).2; omega
      · omega
    exact (Below.heap_setCell _ _ _ _ e1).trans ((t2.block q (by omega) e2).trans (b1.block q hqw))
  · have T1 : Turns (both F R jp m Aa) w v1 := ⟨b1.os.trans h.tr.os, b1.tape.trans h.tr.tape, b1.output.trans h.tr.output, Nat.le_trans h.tr.size b1.size, fun q hq hF => (b1.block q (Nat.lt_of_lt_of_le hq h.tr.size)).trans (h.tr.block q hq hF)⟩
    have T2 : Turns (both F R jp m Aa) w v2 := T1.more t2 (fun q hq => by
      rcases h.fF q hq with e | e
      · exact .inl (.inl e)
      · right; omega)
    exact T2.setCell (p := ⟨jp, 3, none⟩) (.inl (.inr (.inl rfl))) _
  · have := t2.size
    simp [World.setCell]
    omega
  · rw [ext_old _ _ _ (by omega), ext_old _ _ _ (by omega)]
    exact h.old i hi
  · by_cases e : i < k
    · rw [ext_old _ _ _ (by omega), ext_old _ _ _ (by omega)]
      exact h.new i e
    · obtain rfl : i = k := by omega
      rw [ext_new, ext_new]
      exact ⟨rfl, fun j hj => rfl⟩

/- The record itself, behind the others. -/
theorem Pp.done {v1 : World} {y : Option Addr} {cy : Nat} (h : Pp B w0 w wr S0 F F' p n mm f A A' D D' jp g u R m Aa ln C ft Rp l b X Cp k) (b1 : Below wr.heap.size wr v1) (he : Elt v1 y l cy b) (hy : ∀ ad, y = some ad → wr.heap.size ≤ ad.block) (hm : m ≤ 4096) :
    ∃ x' c' w', (Builtin.append_ #[46, 46] 46 #[R, .slice (some ⟨v1.heap.size, 0, none⟩) 1 1]).run Tryz.prog (v1.alloc (.cells #[.slice y l cy] 22)) = .ok (.slice x' (m + 1) c') w' ∧
      (∀ ob, (v1.alloc ob).cell? ⟨jp, 2, none⟩ = some R) ∧ w'.cell? ⟨jp, 2, none⟩ = some R ∧ w'.frozen? ⟨jp, 2, none⟩ = false ∧
      Hid (JD B w0 (w'.setCell ⟨jp, 2, none⟩ (.slice x' (m + 1) c')) F' p n (mm + k) f A' D' jp g (u + k) (.slice x' (m + 1) c') (m + 1) (ext Aa m y) (ext ln m l) (ext C m cy) (ext ft m b) ∧
        Turns (both F R jp m Aa) w (w'.setCell ⟨jp, 2, none⟩ (.slice x' (m + 1) c')) ∧ (∀ q, q < w.heap.size → both F' (.slice x' (m + 1) c') jp (m + 1) (ext Aa m y) q → both F R jp m Aa q)) := by
  have hsz1 := b1.size
  have hs := h.sz
  have hsw := h.sw
  have hjl := h.jl jp (.inr (.inl rfl))
  have j1 := h.jn.below b1
  have hB1 : B ≤ v1.heap.size := by omega
  obtain ⟨x', c', w', hrun, ho, T, hR'⟩ := j1.own.push hB1 he (fun ad e hg => by have := h.jn.own.olt _ hg; have := hy ad e; omega) (by omega)
  have hRj : R.ownBlock ≠ some jp := ownsRow_ne j1.own.own j1.obj (by decide)
  have hobj := T.blk j1.obj hRj
  have hR2 : ∀ q, (Value.slice x' (m + 1) c').ownBlock = some q → R.ownBlock = some q ∨ v1.heap.size ≤ q := hR'
  have hyl : ∀ ad, y = some ad → ad.block < v1.heap.size := he.old
  have T3 : Turns (fun q => q = jp) w' (w'.setCell ⟨jp, 2, none⟩ (.slice x' (m + 1) c')) := (Turns.refl (fun q => q = jp) w').setCell (p := ⟨jp, 2, none⟩) (.inl rfl) _
  have hoR : (Value.slice x' (m + 1) c').ownBlock ≠ some jp := fun e => by
    rcases hR2 jp e with e1 | e1
    · exact hRj e1
    · have := h.jn.obj.lt; omega
  have haf : ∀ i, i < m + 1 → ∀ ad, ext Aa m y i = some ad → B ≤ ad.block ∧ ad.block ≠ jp := fun i hi ad ha => by
    by_cases e : i < m
    · rw [ext_old _ _ _ e] at ha
      exact h.jn.af i e ad ha
    · obtain rfl : i = m := by omega
      rw [ext_new] at ha
      have := hy ad ha
      have := h.jn.obj.lt
      exact ⟨by omega, by omega⟩
  have hnew : ∀ q, jfoot (.slice x' (m + 1) c') jp (m + 1) (ext Aa m y) q → jfoot R jp m Aa q ∨ wr.heap.size ≤ q := fun q hq => by
    rcases hq with e | e | ⟨i, hi, ad, ha, rfl⟩
    · exact .inl (.inl e)
    · rcases hR2 q e with e1 | e1
      · exact .inl (.inr (.inl e1))
      · right; omega
    · by_cases e : i < m
      · rw [ext_old _ _ _ e] at ha
        exact .inl (.inr (.inr ⟨i, e, ad, ha, rfl⟩))
      · obtain rfl : i = m := by omega
        rw [ext_new] at ha
        exact .inr (hy ad ha)
  have hflt := h.dsk.pd.flt
  have d1 : Dsk B w0 (w'.setCell ⟨jp, 2, none⟩ (.slice x' (m + 1) c')) F' p n (mm + k) f A' D' := by
    refine ((h.dsk.below b1).turns T (fun q hq => h.jn.own.ob q hq) (fun q hq e => h.dis' q hq (.inr (.inl e)))).turns T3 (fun q hq => by omega) (fun q hq e => h.dis' q hq (.inl e))
  refine ⟨x', c', w', hrun, fun ob => ?_, hobj.cell (k := 2) (by omega), hobj.frozen 2, ⟨d1, ⟨(hobj.set 2 _).congr fun i hi => ?_, ho.turns T3 (fun q hq e => hoR (by rw [hq, e])) (fun i hi ad ha e => (haf i hi ad ha).2 e), h.jn.jb, haf⟩, fun q hq hj => ?_⟩, ?_, fun q hq hb => ?_⟩
  · exact (j1.below ((Below.refl _ _).alloc (Nat.le_refl _) ob)).c2
  · unfold upd obj4
    have : i = 0 ∨ i = 1 ∨ i = 2 ∨ i = 3 := by omega
    rcases this with rfl | rfl | rfl | rfl <;> simp
  · rcases hnew q hj with e | e
    · exact h.dis' q hq e
    · have := hflt q hq; omega
  · have T1 : Turns (both F R jp m Aa) w v1 := ⟨b1.os.trans h.tr.os, b1.tape.trans h.tr.tape, b1.output.trans h.tr.output, Nat.le_trans h.tr.size b1.size, fun q hq hF => (b1.block q (Nat.lt_of_lt_of_le hq h.tr.size)).trans (h.tr.block q hq hF)⟩
    exact (T1.more T (fun q hq => .inl (.inr (.inr (.inl hq))))).setCell (p := ⟨jp, 2, none⟩) (.inl (.inr (.inl rfl))) _
  · rcases hb with e | e
    · rcases h.fF q e with e | e
      · exact .inl e
      · omega
    · rcases hnew q e with e | e
      · exact .inr e
      · omega

end

end Go.Proofs.YtbbjklenpgkooaaGreat

/-
  What Put of a journal does: contracts over plain numbers ('JoPlain').
  Conditions: the journal and its disk are as Open and New gave them ('JD'); the record's bytes lie apart from them.
-/
namespace Go.Proofs.YtbbjklenpgkooaaGreat
open Go.RowKit By Dk Su Jo
set_option linter.unusedVariables false
set_option linter.unusedSimpArgs false
set_option maxRecDepth 100000

section
variable {B : Nat} {w0 w : World} {F : Nat → Prop} {p n mm : Nat} {f A : Nat → Nat} {D : Nat → Nat → Nat} {jp g u : Nat} {R : Value} {m : Nat} {Aa : Nat → Option Addr} {ln C : Nat → Nat} {ft : Nat → Nat → Nat}

theorem JD.put_long (h : JD B w0 w F p n mm f A D jp g u R m Aa ln C ft) (x : Option Addr) (l c : Nat) (hl : 13005 < l) :
    Calls Tryz.prog 44 #[.pointer (some ⟨jp, 0, none⟩), .slice x l c] w fun e w' => e = .returned (.int .i64 3) ∧ w' = w := by
  have ho := jopen_any jp _ w h.jn.c0
  have hl' : (13005 : Int) < (l : Int) := by omega
  clear h
  go_enter Tryz.func44, Tryz.ntmps44
  go_wp2_with ((go_at_call 62; refine ho.mono ?_; rintro e w' ⟨rfl, hw⟩; subst w'; clear ho))
  go_ret
  exact ⟨rfl, rfl⟩

theorem JD.put_full (h : JD B w0 w F p n mm f A D jp g u R m Aa ln C ft) (hu : u ≤ n) (x : Option Addr) (l c : Nat) (hl : l ≤ 13005) (hf : ¬ u + pcs l ≤ n) :
    Calls Tryz.prog 44 #[.pointer (some ⟨jp, 0, none⟩), .slice x l c] w fun e w' => e = .returned (.int .i64 2) ∧ ∃ k, w' = w.drewN k := by
  have ho := jopen_any jp _ w h.jn.c0
  have hrm := h.jn.room h.dsk.pd hu
  have hl' : ¬ (13005 : Int) < (l : Int) := by omega
  have hrz : roomZ n u < (l : Int) := by
    have := mt (room_fits hu hl).1 hf
    omega
  clear h
  generalize roomZ n u = Z at *
  go_enter Tryz.func44, Tryz.ntmps44
  go_wp2_with (first
    | (go_at_call 62; refine ho.mono ?_; rintro e w' ⟨rfl, hw⟩; subst w'; clear ho)
    | (go_at_call 69; refine hrm.mono ?_; rintro e w' ⟨rfl, k, rfl⟩; clear hrm))
  go_ret
  exact ⟨rfl, k, rfl⟩

set_option maxHeartbeats 2000000 in
set_option maxRecDepth 100000 in
theorem JD.put_ok (h : JD B w0 w F p n mm f A D jp g u R m Aa ln C ft) (x : Option Addr) (l c : Nat) (b : Nat → Nat) (he : EltW w x l c b) (hx : l ≠ 0 → ∀ ad, x = some ad → ¬ both F R jp m Aa ad.block) (hl : l ≤ 13005) (hf : u + pcs l ≤ n) (hmm : mm + pcs l ≤ 1000) (hg : g < 65536) (hm : m ≤ 4096) :
    Calls Tryz.prog 44 #[.pointer (some ⟨jp, 0, none⟩), .slice x l c] w fun e w' => e = .returned (.int .i64 0) ∧ ∃ F' A' D' R' y cy, JD B w0 w' F' p n (mm + pcs l) f A' D' jp g (u + pcs l) R' (m + 1) (ext Aa m y) (ext ln m l) (ext C m cy) (ext ft m b) ∧
      Turns (both F R jp m Aa) w w' ∧ (∀ q, q < w.heap.size → both F' R' jp (m + 1) (ext Aa m y) q → both F R jp m Aa q) ∧ (∀ i, i < mm → A' i = A i ∧ D' i = D i) ∧ (∀ k, k < pcs l → A' (mm + k) = u + k ∧ ∀ j, j < 64 → D' (mm + k) j = mkS g (m + 1) l b k j) := by
  have hu : u ≤ n := by omega
  have hn2 := h.dsk.pd.n1.2
  have ho := jopen_any jp _ w h.jn.c0
  have hrm := h.jn.room h.dsk.pd hu
  have hl' : ¬ (13005 : Int) < (l : Int) := by omega
  have hrz : ¬ roomZ n u < (l : Int) := by
    have := (room_fits hu hl).2 hf
    omega
  obtain ⟨r1, hr1⟩ : ∃ r1, r1 = m + 1 := ⟨_, rfl⟩
  have hri : (m : Int) + 1 = (r1 : Int) := by omega
  have hr9 : r1 ≤ 4097 := by omega
  have hrw : IntKind.u32.wrap (r1 : Int) = (r1 : Int) := by rw [IntKind.wrap_u32']; omega
  have hrw2 : IntKind.i64.wrap (r1 : Int) = (r1 : Int) := by rw [IntKind.wrap_i64]; omega
  obtain ⟨xR, cR, hR, _⟩ := h.jn.own.form
  subst hR
  -- the parts' places
  obtain ⟨X, hX0, hXn, hX2, hXr⟩ : ∃ X : Nat → Option Addr, X 0 = x ∧ (∀ k, k < pcs l → X k = none → plen l k = 0 ∧ c - 51 * k = 0) ∧ (∀ k, k + 1 < pcs l → ∃ b o, X k = some ⟨b, o, none⟩ ∧ X (k + 1) = some ⟨b, o + 51, none⟩) ∧ ∀ v, RowAt v x l b → ∀ k, k < pcs l → RowAt v (X k) (plen l k) (fun i => b (51 * k + i)) := by
    by_cases h1 : pcs l = 1
    · refine ⟨fun _ => x, rfl, fun k hk e => by have := he.nil e; unfold plen; omega, fun k hk => by omega, fun v hv k hk => ?_⟩
      obtain rfl : k = 0 := by omega
      exact (hv.take (by unfold plen; omega)).congr fun i hi => by congr 1; omega
    · have hp := pcs_pos l
      have hlp : 0 < l := by
        rcases Nat.eq_zero_or_pos l with e | e
        · subst e; exact absurd rfl h1
        · exact e
      have hrow := he.row
      rcases hrow with e | ⟨bb, oo, e1, e2, e3⟩
      · omega
      · subst e1
        refine ⟨fun k => some ⟨bb, oo + 51 * k, none⟩, by simp, (fun k hk e => by cases e), fun k hk => ⟨bb, oo + 51 * k, rfl, by congr 2⟩, fun v hv k hk => ?_⟩
        have hle : 51 * k + plen l k ≤ l := by
          unfold plen
          have : 51 * k ≤ l := by unfold pcs at hk; split at hk <;> omega
          omega
        exact row_drop (m := 51 * k) (hv.take hle)
  have hpo := fun (v : World) => parts_of l c g r1 x v X hl he.le hX0 hX2 (by omega)
  have HXR := hid hXr
  have HXN := hid hXn
  have HR1 := hid hr1
  have HJ := hid h
  have HE := hid he
  have HX := hid hx
  have HP : Hid (pcs l ≤ 255 ∧ 0 < pcs l) := ⟨pcs_le hl, pcs_pos l⟩
  have HFn := hid (And.intro hf hmm)
  clear h he hx hXr hXn hX2 hr1 hX0 hf hmm
  generalize roomZ n u = Z at *
  go_enter Tryz.func44, Tryz.ntmps44
  go_wp2_with (first
    | (go_at_call 62; refine ho.mono ?_; rintro e w' ⟨rfl, hw⟩; subst w'; clear ho)
    | (go_at_call 69; refine hrm.mono ?_; rintro e w' ⟨rfl, k0, hk0⟩; clear hrm; have HK0 := hid hk0; clear hk0))
  have hj1 : JD B w0 w' F p n mm f A D jp g u (.slice xR m cR) m Aa ln C ft := by rw [HK0.out]; exact HJ.out.drewN k0
  have c1 := hj1.jn.c1
  have c2 := hj1.jn.c2
  have hpo1 := hpo w'.drew
  have hkeep : ∀ v, Below w'.heap.size w' v → v.cell? ⟨jp, 1, none⟩ = some (.int .i64 (g : Int)) ∧ v.cell? ⟨jp, 2, none⟩ = some (.slice xR m cR) := fun v hv => ⟨(hj1.jn.below hv).c1, (hj1.jn.below hv).c2⟩
  have HJ1 := hid hj1
  clear hj1 hpo
  refine wp_region_held_drew (S := fun v => v.cell? ⟨jp, 1, none⟩ = some (.int .i64 (g : Int)) ∧ v.cell? ⟨jp, 2, none⟩ = some (.slice xR m cR)) (by kernel_rfl) ⟨c1, c2⟩ (fun hHeld => ?_)
  refine wpAnyH_take (i := 0) (v := ?_) rfl (by kernel_rfl) (by kernel_rfl) (by kernel_rfl) (fun _ _ _ h => h) (Or.inl ⟨by rfl, ?_⟩) (by assumption) ?_
  case refine_2 => (intro w hSw; (try dsimp only at hSw); go_simp; (try with_reducible rfl))
  (try simp only [Act.put, List.getElem_toArray, List.getElem_cons_succ, List.getElem_cons_zero, List.setIfInBounds_toArray, List.set_cons_zero, List.set_cons_succ])
  refine wpAnyH_take (i := 1) (v := ?_) rfl (by kernel_rfl) (by kernel_rfl) (by kernel_rfl) (fun _ _ _ h => h) (Or.inl ⟨by rfl, ?_⟩) (by assumption) ?_
  case refine_2 => (intro w hSw; (try dsimp only at hSw); go_simp; (try with_reducible rfl))
  (try simp only [Act.put, List.getElem_toArray, List.getElem_cons_succ, List.getElem_cons_zero, List.setIfInBounds_toArray, List.set_cons_zero, List.set_cons_succ])
  refine wpAnyH_take (i := 2) (v := ?_) rfl (by kernel_rfl) (by kernel_rfl) (by kernel_rfl) (fun _ _ _ h => h) (Or.inl ⟨by rfl, ?_⟩) (by assumption) ?_
  case refine_2 => (intro w hSw; (try dsimp only at hSw); go_simp; (try with_reducible rfl))
  (try simp only [Act.put, List.getElem_toArray, List.getElem_cons_succ, List.getElem_cons_zero, List.setIfInBounds_toArray, List.set_cons_zero, List.set_cons_succ])
  refine wpAnyH_take (i := 3) (v := ?_) rfl (by kernel_rfl) (by kernel_rfl) (by kernel_rfl) (fun _ _ _ h => h) (Or.inl ⟨by rfl, ?_⟩) (by assumption) ?_
  case refine_2 => (intro w hSw; (try dsimp only at hSw); go_simp; (try with_reducible rfl))
  (try simp only [Act.put, List.getElem_toArray, List.getElem_cons_succ, List.getElem_cons_zero, List.setIfInBounds_toArray, List.set_cons_zero, List.set_cons_succ])
  refine wpAnyH_take (i := 4) (v := ?_) rfl (by kernel_rfl) (by kernel_rfl) (by kernel_rfl) (fun _ _ _ h => h) (Or.inl ⟨by rfl, ?_⟩) (by assumption) ?_
  case refine_2 => (intro w hSw; (try dsimp only at hSw); go_simp; (try with_reducible rfl))
  (try simp only [Act.put, List.getElem_toArray, List.getElem_cons_succ, List.getElem_cons_zero, List.setIfInBounds_toArray, List.set_cons_zero, List.set_cons_succ])
  refine wpAnyH_take (i := 5) (v := ?_) rfl (by kernel_rfl) (by kernel_rfl) (by kernel_rfl) (fun _ _ _ h => h) (Or.inl ⟨by rfl, ?_⟩) (by assumption) ?_
  case refine_2 => (intro w hSw; (try dsimp only at hSw); go_simp; (try with_reducible rfl))
  (try simp only [Act.put, List.getElem_toArray, List.getElem_cons_succ, List.getElem_cons_zero, List.setIfInBounds_toArray, List.set_cons_zero, List.set_cons_succ])
  refine wpAnyH_take (i := 6) (v := ?_) rfl (by kernel_rfl) (by kernel_rfl) (by kernel_rfl) (fun _ _ _ h => h) (Or.inl ⟨by rfl, ?_⟩) (by assumption) ?_
  case refine_2 => (intro w hSw; (try dsimp only at hSw); go_simp; (try with_reducible rfl))
  (try simp only [Act.put, List.getElem_toArray, List.getElem_cons_succ, List.getElem_cons_zero, List.setIfInBounds_toArray, List.set_cons_zero, List.set_cons_succ])
  refine wpAnyH_take (i := 7) (v := ?_) rfl (by kernel_rfl) (by kernel_rfl) (by kernel_rfl) (fun _ _ _ h => h) (Or.inl ⟨by rfl, ?_⟩) (by assumption) ?_
  case refine_2 => (intro w hSw; (try dsimp only at hSw); go_simp; (try with_reducible rfl))
  (try simp only [Act.put, List.getElem_toArray, List.getElem_cons_succ, List.getElem_cons_zero, List.setIfInBounds_toArray, List.set_cons_zero, List.set_cons_succ])
  refine wpAnyH_take (i := 8) (v := ?_) rfl (by kernel_rfl) (by kernel_rfl) (by kernel_rfl) (fun _ _ _ h => h) (Or.inl ⟨by rfl, ?_⟩) (by assumption) ?_
  case refine_2 => (intro w hSw; (try dsimp only at hSw); go_simp; (try with_reducible rfl))
  (try simp only [Act.put, List.getElem_toArray, List.getElem_cons_succ, List.getElem_cons_zero, List.setIfInBounds_toArray, List.set_cons_zero, List.set_cons_succ])
  refine wpAnyH_take (i := 9) (v := ?_) rfl (by kernel_rfl) (by kernel_rfl) (by kernel_rfl) (fun _ _ _ h => h) (Or.inl ⟨by rfl, ?_⟩) (by assumption) ?_
  case refine_2 => (intro w hSw; (try dsimp only at hSw); go_simp; (try with_reducible rfl))
  (try simp only [Act.put, List.getElem_toArray, List.getElem_cons_succ, List.getElem_cons_zero, List.setIfInBounds_toArray, List.set_cons_zero, List.set_cons_succ])
  refine wpAnyH_take (i := 10) (v := ?_) rfl (by kernel_rfl) (by kernel_rfl) (by kernel_rfl) (fun _ _ _ h => h) (Or.inl ⟨by rfl, ?_⟩) (by assumption) ?_
  case refine_2 => (intro w hSw; (try dsimp only at hSw); go_simp; (try with_reducible rfl))
  (try simp only [Act.put, List.getElem_toArray, List.getElem_cons_succ, List.getElem_cons_zero, List.setIfInBounds_toArray, List.set_cons_zero, List.set_cons_succ])
  refine wpAnyH_take (i := 11) (v := ?_) rfl (by kernel_rfl) (by kernel_rfl) (by kernel_rfl) (fun _ _ _ h => h) (Or.inl ⟨by rfl, ?_⟩) (by assumption) ?_
  case refine_2 => (intro w hSw; (try dsimp only at hSw); go_simp; (try with_reducible rfl))
  (try simp only [Act.put, List.getElem_toArray, List.getElem_cons_succ, List.getElem_cons_zero, List.setIfInBounds_toArray, List.set_cons_zero, List.set_cons_succ])
  refine wpAnyH_take (i := 14) (v := ?_) rfl (by kernel_rfl) (by kernel_rfl) (by kernel_rfl) (fun _ _ _ h => h) (Or.inl ⟨by rfl, ?_⟩) (by assumption) ?_
  case refine_2 => (intro w hSw; (try dsimp only at hSw); go_simp; (try with_reducible rfl))
  (try simp only [Act.put, List.getElem_toArray, List.getElem_cons_succ, List.getElem_cons_zero, List.setIfInBounds_toArray, List.set_cons_zero, List.set_cons_succ])
  refine wpAnyH_ready (rs := [12]) (by kernel_rfl) (by simp) ?_
  refine AllReadyH.cons rfl (fun K hK => ?_) AllReadyH.nil
  go_simp
  refine hpo1.mono ?_
  rintro e w2 ⟨y, cy, rfl, hpts⟩
  have HPT := hid hpts
  have hb2 : Below w'.heap.size w' w2 := ⟨hpts.bel.os, hpts.bel.tape, hpts.bel.output, hpts.bel.size, hpts.bel.block⟩
  have HB2 := hid hb2
  refine hK.out _ _ (hkeep w2 hb2) (fun hHeld => ?_)
  clear hK K
  refine wpAnyH_take (i := 13) (v := ?_) rfl (by kernel_rfl) (by kernel_rfl) (by kernel_rfl) (fun _ _ _ h => h) (Or.inl ⟨by rfl, ?_⟩) (by assumption) ?_
  case refine_2 => (intro w hSw; (try dsimp only at hSw); go_simp; (try with_reducible rfl))
  (try simp only [Act.put, List.getElem_toArray, List.getElem_cons_succ, List.getElem_cons_zero, List.setIfInBounds_toArray, List.set_cons_zero, List.set_cons_succ])
  refine wpAnyH_done (by kernel_rfl) ?_ _
  have HRow : Hid (∀ v, Turns (both F (.slice xR m cR) jp m Aa) w' v → RowAt v x l b) := fun v tv => by
    by_cases e0 : l = 0
    · exact .inl e0
    · have hr0 : RowAt w' x l b := by rw [HK0.out]; exact HE.out.row.drewN
      exact tv.row hr0 (HX.out e0)
  have HP0 : Hid (Pp B w0 w' w2 w2.heap.size F F p n mm f A A D D jp g u (.slice xR m cR) m Aa ln C ft (.slice y (pcs l) cy) l b X (fun k => c - 51 * k) 0) := by
    have j := HJ1.out.below HB2.out
    refine ⟨j.dsk, j.jn, ?_, fun q hq => ⟨HPT.out.ob q hq, (HPT.out.own.lt q hq).2⟩, fun q hq => .inl hq, Turns.of_below HB2.out, Nat.le_refl _, HB2.out.size, fun i hi => ⟨rfl, rfl⟩, fun i hi => by omega, HJ1.out.dis, HJ1.out.foot⟩
    have := HPT.out.own
    rw [HR1.out] at this
    exact this
  clear hpts hb2 hkeep hpo1 c1 c2 hHeld
  go_wp2_with fail
  go_loopw [35] (fun i wr => ∃ k : Nat, k ≤ pcs l ∧ i = .int .i64 k ∧ Hid (∃ F' A' D', Pp B w0 w' wr w2.heap.size F F' p n mm f A A' D D' jp g u (.slice xR m cR) m Aa ln C ft (.slice y (pcs l) cy) l b X (fun k => c - 51 * k) k)) (fun i _ => pcs l - (intOf i).toNat)
  case atStart => exact ⟨0, by omega, rfl, F, A, D, HP0.out⟩
  case round =>
    clear HP0
    obtain ⟨k, hk, rfl, HR⟩ := hrel
    obtain ⟨F', A', D', hpp⟩ := HR.out
    by_cases hlt : k < pcs l
    · have hlt' : (k : Int) < ((pcs l : Nat) : Int) := by omega
      obtain ⟨gp, cp, hRp, k0', k1', k2', k3', k4'⟩ := hpp.cells hlt
      injection hRp with e1 _ e2
      subst e1
      subst e2
      rw [← HR1.out] at k1'
      have hk9 : k < 255 := by have := HP.out; omega
      obtain ⟨uk, huk⟩ : ∃ uk, uk = u + k := ⟨_, rfl⟩
      have huk9 : uk < n := by have := HFn.out.1; omega
      obtain ⟨uk1, huk1e⟩ : ∃ uk1, uk1 = u + (k + 1) := ⟨_, rfl⟩
      have huk1 : (uk : Int) + 1 = (uk1 : Int) := by omega
      have HUK1 := hid huk1e
      clear huk1e
      have hS1 : ∀ v, Below wr.heap.size wr v → v.cell? ⟨jp, 0, none⟩ = some (.pointer (some ⟨p, 0, none⟩)) ∧ v.cell? ⟨jp, 3, none⟩ = some (.int .i64 (uk : Int)) := fun v hv => by rw [huk]; exact ⟨(hpp.jn.below hv).c0, (hpp.jn.below hv).c3⟩
      have hsec : ∀ v, Below wr.heap.size wr v → Calls Tryz.prog 71 #[.agg #[.int .i64 (g : Int), .int .u32 (r1 : Int), .int .i64 (k : Int), .bool (plast l k), .slice (X k) (plen l k) (c - 51 * k)]] v fun e w' => ∃ y, e = .returned (.slice (some ⟨y, 0, none⟩) 64 64) ∧ Below v.heap.size v w' ∧ RowAt w' (some ⟨y, 0, none⟩) 64 (mkS g r1 l b k) := fun v hv =>
        sector_yes g r1 k (plen l k) (c - 51 * k) (plast l k) (X k) l b v HE.out.lt hg (by omega) (by omega) rfl rfl (HXR.out v (HRow.out v (hpp.tr.more (Turns.of_below (F := fun _ => False) hv) (fun q hq => hq.elim))) k hlt) (HXN.out k hlt)
      have hwr : ∀ v y2, Below wr.heap.size wr v → RowAt v (some ⟨y2, 0, none⟩) 64 (mkS g r1 l b k) → Calls Tryz.prog 20 #[.pointer (some ⟨p, 0, none⟩), .int .i64 (uk : Int), .slice (some ⟨y2, 0, none⟩) 64 64] v fun e w' => e = .returned (.int .i64 0) ∧ Turns F' v w' ∧ Dsk B w0 w' (grow F' v w') p n (mm + k + 1) f (ext A' (mm + k) uk) (ext D' (mm + k) (mkS g r1 l b k)) := fun v y2 hv hr =>
        dwrite B p n (mm + k) uk 64 F' f A' (mkS g r1 l b k) D' _ (uk : Int) rfl w0 v (hpp.dsk.below hv) huk9 hr (fun i => mk_lt HE.out.lt i) (by have := HFn.out.2; have := HP.out; omega)
      have hflt := hpp.dsk.pd.flt
      have hdj : ¬ F' jp := fun e => hpp.dis' jp e (.inl rfl)
      have hjlt := hpp.jn.obj.lt
      have HPP := hid hpp
      have HUK := hid huk
      clear HR hpp huk
      generalize plast l k = Lk at *
      generalize plen l k = Mk at *
      generalize X k = Xk at *
      generalize c - 51 * k = Ck at *
      go_wp2_with fail
      have hbo : Below wr.heap.size wr (wr.alloc (.cells #[.int .i64 (g : Int), .int .u32 (r1 : Int), .int .i64 (k : Int), .bool Lk, .slice Xk Mk Ck] 122)) := (Below.refl _ _).alloc (Nat.le_refl _) _
      have hbd : Below wr.heap.size wr (wr.alloc (.cells #[.int .i64 (g : Int), .int .u32 (r1 : Int), .int .i64 (k : Int), .bool Lk, .slice Xk Mk Ck] 122)).drew := hbo.drew
      have hfv := (Five.new wr (.int .i64 (g : Int)) (.int .u32 (r1 : Int)) (.int .i64 (k : Int)) (.bool Lk) (.slice Xk Mk Ck) 122)
      have hsz : (wr.alloc (.cells #[.int .i64 (g : Int), .int .u32 (r1 : Int), .int .i64 (k : Int), .bool Lk, .slice Xk Mk Ck] 122)).heap.size = wr.heap.size + 1 := by simp
      have hsec1 := hsec _ hbd
      have hS0 := hS1 _ hbd
      have hfd := hfv.drew
      have HBD := hid hbd
      have HFV := hid hfv
      have HSZ := hid hsz
      clear hsec hbo hbd hfv hsz
      generalize wr.alloc (.cells #[.int .i64 (g : Int), .int .u32 (r1 : Int), .int .i64 (k : Int), .bool Lk, .slice Xk Mk Ck] 122) = va at *
      refine wp_region_held_drew (S := fun v => (v.cell? ⟨jp, 0, none⟩ = some (.pointer (some ⟨p, 0, none⟩)) ∧ v.cell? ⟨jp, 3, none⟩ = some (.int .i64 (uk : Int))) ∧ v.cell? ⟨wr.heap.size, 0, none⟩ = some (.int .i64 (g : Int)) ∧ v.cell? ⟨wr.heap.size, 1, none⟩ = some (.int .u32 (r1 : Int)) ∧ v.cell? ⟨wr.heap.size, 2, none⟩ = some (.int .i64 (k : Int)) ∧ v.cell? ⟨wr.heap.size, 3, none⟩ = some (.bool Lk) ∧ v.cell? ⟨wr.heap.size, 4, none⟩ = some (.slice Xk Mk Ck)) (by kernel_rfl) ⟨hS0, hfd.c0, hfd.c1, hfd.c2, hfd.c3, hfd.c4⟩ (fun hHeld => ?_)
      refine wpAnyH_take (i := 0) (v := ?_) rfl (by kernel_rfl) (by kernel_rfl) (by kernel_rfl) (fun _ _ _ h => h) (Or.inl ⟨by rfl, ?_⟩) (by assumption) ?_
      case refine_2 => (intro w hSw; (try dsimp only at hSw); go_simp; (try with_reducible rfl))
      (try simp only [Act.put, List.getElem_toArray, List.getElem_cons_succ, List.getElem_cons_zero, List.setIfInBounds_toArray, List.set_cons_zero, List.set_cons_succ])
      refine wpAnyH_take (i := 1) (v := ?_) rfl (by kernel_rfl) (by kernel_rfl) (by kernel_rfl) (fun _ _ _ h => h) (Or.inl ⟨by rfl, ?_⟩) (by assumption) ?_
      case refine_2 => (intro w hSw; (try dsimp only at hSw); go_simp; (try with_reducible rfl))
      (try simp only [Act.put, List.getElem_toArray, List.getElem_cons_succ, List.getElem_cons_zero, List.setIfInBounds_toArray, List.set_cons_zero, List.set_cons_succ])
      refine wpAnyH_take (i := 2) (v := ?_) rfl (by kernel_rfl) (by kernel_rfl) (by kernel_rfl) (fun _ _ _ h => h) (Or.inl ⟨by rfl, ?_⟩) (by assumption) ?_
      case refine_2 => (intro w hSw; (try dsimp only at hSw); go_simp; (try with_reducible rfl))
      (try simp only [Act.put, List.getElem_toArray, List.getElem_cons_succ, List.getElem_cons_zero, List.setIfInBounds_toArray, List.set_cons_zero, List.set_cons_succ])
      refine wpAnyH_take (i := 3) (v := ?_) rfl (by kernel_rfl) (by kernel_rfl) (by kernel_rfl) (fun _ _ _ h => h) (Or.inl ⟨by rfl, ?_⟩) (by assumption) ?_
      case refine_2 => (intro w hSw; (try dsimp only at hSw); go_simp; (try with_reducible rfl))
      (try simp only [Act.put, List.getElem_toArray, List.getElem_cons_succ, List.getElem_cons_zero, List.setIfInBounds_toArray, List.set_cons_zero, List.set_cons_succ])
      refine wpAnyH_take (i := 4) (v := ?_) rfl (by kernel_rfl) (by kernel_rfl) (by kernel_rfl) (fun _ _ _ h => h) (Or.inl ⟨by rfl, ?_⟩) (by assumption) ?_
      case refine_2 => (intro w hSw; (try dsimp only at hSw); go_simp; (try with_reducible rfl))
      (try simp only [Act.put, List.getElem_toArray, List.getElem_cons_succ, List.getElem_cons_zero, List.setIfInBounds_toArray, List.set_cons_zero, List.set_cons_succ])
      refine wpAnyH_take (i := 5) (v := ?_) rfl (by kernel_rfl) (by kernel_rfl) (by kernel_rfl) (fun _ _ _ h => h) (Or.inl ⟨by rfl, ?_⟩) (by assumption) ?_
      case refine_2 => (intro w hSw; (try dsimp only at hSw); go_simp; (try with_reducible rfl))
      (try simp only [Act.put, List.getElem_toArray, List.getElem_cons_succ, List.getElem_cons_zero, List.setIfInBounds_toArray, List.set_cons_zero, List.set_cons_succ])
      refine wpAnyH_take (i := 6) (v := ?_) rfl (by kernel_rfl) (by kernel_rfl) (by kernel_rfl) (fun _ _ _ h => h) (Or.inl ⟨by rfl, ?_⟩) (by assumption) ?_
      case refine_2 => (intro w hSw; (try dsimp only at hSw); go_simp; (try with_reducible rfl))
      (try simp only [Act.put, List.getElem_toArray, List.getElem_cons_succ, List.getElem_cons_zero, List.setIfInBounds_toArray, List.set_cons_zero, List.set_cons_succ])
      refine wpAnyH_take (i := 7) (v := ?_) rfl (by kernel_rfl) (by kernel_rfl) (by kernel_rfl) (fun _ _ _ h => h) (Or.inl ⟨by rfl, ?_⟩) (by assumption) ?_
      case refine_2 => (intro w hSw; (try dsimp only at hSw); go_simp; (try with_reducible rfl))
      (try simp only [Act.put, List.getElem_toArray, List.getElem_cons_succ, List.getElem_cons_zero, List.setIfInBounds_toArray, List.set_cons_zero, List.set_cons_succ])
      refine wpAnyH_take (i := 8) (v := ?_) rfl (by kernel_rfl) (by kernel_rfl) (by kernel_rfl) (fun _ _ _ h => h) (Or.inl ⟨by rfl, ?_⟩) (by assumption) ?_
      case refine_2 => (intro w hSw; (try dsimp only at hSw); go_simp; (try with_reducible rfl))
      (try simp only [Act.put, List.getElem_toArray, List.getElem_cons_succ, List.getElem_cons_zero, List.setIfInBounds_toArray, List.set_cons_zero, List.set_cons_succ])
      refine wpAnyH_ready (rs := [9]) (by kernel_rfl) (by simp) ?_
      refine AllReadyH.cons rfl (fun K hK => ?_) AllReadyH.nil
      go_simp
      refine hsec1.mono ?_
      rintro e w3 ⟨y2, rfl, hb3, hr3⟩
      have hb3w : Below wr.heap.size wr w3 := HBD.out.trans (hb3.mono HBD.out.size)
      have hf3 := hfd.below hb3 (by have := HSZ.out; show wr.heap.size < va.heap.size; omega)
      have hw3 := hwr w3 y2 hb3w hr3
      have HB3 := hid hb3w
      have HS3 := hid (hS1 w3 hb3w)
      have HF3 := hid hf3
      have HL3 : Hid (wr.heap.size < w3.heap.size) := show wr.heap.size < w3.heap.size by have := HSZ.out; have := hb3.size; show wr.heap.size < w3.heap.size; have e : va.drew.heap.size = va.heap.size := rfl; omega
      refine hK.out _ _ ⟨HS3.out, HF3.out.c0, HF3.out.c1, HF3.out.c2, HF3.out.c3, HF3.out.c4⟩ (fun hHeld => ?_)
      clear hK K
      refine wpAnyH_ready (rs := [10]) (by kernel_rfl) (by simp) ?_
      refine AllReadyH.cons rfl (fun K hK => ?_) AllReadyH.nil
      go_simp
      clear hHeld
      refine hw3.mono ?_
      rintro e w4 ⟨rfl, t4, d4⟩
      have hn4 : ¬ F' wr.heap.size := fun e => by have := hflt _ e; omega
      have hc4 : ∀ j, w4.cell? ⟨wr.heap.size, j, none⟩ = w3.cell? ⟨wr.heap.size, j, none⟩ := fun j => World.cell?_of_block (a := ⟨wr.heap.size, j, none⟩) (t4.block _ HL3.out hn4)
      have j4 := ((HPP.out.jn.below HB3.out).turns t4 (fun q hq hF => HPP.out.dis' q hF hq))
      have u3 : w4.cell? ⟨jp, 3, none⟩ = some (.int .i64 (uk : Int)) := by rw [HUK.out]; exact j4.c3
      have uf := j4.obj.frozen 3
      have u0 := j4.c0
      refine hK.out _ _ ⟨⟨u0, u3⟩, (hc4 0).trans HF3.out.c0, (hc4 1).trans HF3.out.c1, (hc4 2).trans HF3.out.c2, (hc4 3).trans HF3.out.c3, (hc4 4).trans HF3.out.c4⟩ (fun hHeld => ?_)
      clear hK K
      refine wpAnyH_done (by kernel_rfl) ?_ _
      have HN : Hid (∃ F' A' D', Pp B w0 w' (w4.setCell ⟨jp, 3, none⟩ (.int .i64 (uk1 : Int))) w2.heap.size F F' p n mm f A A' D D' jp g u (.slice xR m cR) m Aa ln C ft (.slice (some ⟨gp, 0, none⟩) (pcs l) cy) l b X (fun k => c - 51 * k) (k + 1)) := by
        rw [HUK.out, HR1.out] at d4
        rw [HUK1.out]
        exact ⟨_, _, _, HPP.out.next HB3.out t4 d4⟩
      clear t4 d4 j4 hc4 hn4 hHeld hb3 hr3 hb3w hf3 hw3 hwr hS1 hS0 hfd hsec1
      go_wp2_with fail
      exact ⟨⟨k + 1, hlt, by go_num, HN.out⟩, show pcs l - ((k : Int) + 1).toNat < pcs l - ((k : Int)).toNat by omega⟩
    · obtain rfl : k = pcs l := by omega
      have HPP := hid hpp
      obtain ⟨w5, hw5⟩ : ∃ w5, w5 = wr := ⟨_, rfl⟩
      subst hw5
      have hrow : RowAt w5.drew x l b := HRow.out _ hpp.tr.drew
      have hcl := clone_full x l c b w5.drew hrow (by omega) HE.out.nil
      have hc2 := hpp.jn.c2
      have hdone := fun (v1 : World) (y' : Option Addr) (cy' : Nat) (b1 : Below w5.heap.size w5 v1) (e : Elt v1 y' l cy' b) (hy : ∀ ad, y' = some ad → w5.heap.size ≤ ad.block) => hpp.done b1 e hy hm
      have HKV : Hid (∀ v, Below w5.heap.size w5 v → v.cell? ⟨jp, 2, none⟩ = some (.slice xR m cR)) := fun v hv => (HPP.out.jn.below hv).c2
      clear HR hpp hrow
      go_wp2_with fail
      refine wp_region_last (fun v => v.cell? ⟨jp, 2, none⟩ = some (.slice xR m cR)) 11 (by kernel_rfl) hc2 (fun hS => ?_)
      refine wpAnyL_take (i := 0) (v := ?_) rfl (by kernel_rfl) (by kernel_rfl) (by kernel_rfl) (by kernel_rfl) (fun _ _ _ h => h) hS (Or.inl ⟨by rfl, ?_⟩) ?_
      case refine_2 => (intro w hSw; (try dsimp only at hSw); go_simp; (try with_reducible rfl))
      (try simp only [Act.put, List.setIfInBounds_toArray, List.set_cons_zero, List.set_cons_succ])
      refine wpAnyL_take (i := 1) (v := ?_) rfl (by kernel_rfl) (by kernel_rfl) (by kernel_rfl) (by kernel_rfl) (fun _ _ _ h => h) hS (Or.inl ⟨by rfl, ?_⟩) ?_
      case refine_2 => (intro w hSw; (try dsimp only at hSw); go_simp; (try with_reducible rfl))
      (try simp only [Act.put, List.setIfInBounds_toArray, List.set_cons_zero, List.set_cons_succ])
      refine wpAnyL_take (i := 2) (v := ?_) rfl (by kernel_rfl) (by kernel_rfl) (by kernel_rfl) (by kernel_rfl) (fun _ _ _ h => h) hS (Or.inl ⟨by rfl, ?_⟩) ?_
      case refine_2 => (intro w hSw; (try dsimp only at hSw); go_simp; (try with_reducible rfl))
      (try simp only [Act.put, List.setIfInBounds_toArray, List.set_cons_zero, List.set_cons_succ])
      refine wpAnyL_take (i := 3) (v := ?_) rfl (by kernel_rfl) (by kernel_rfl) (by kernel_rfl) (by kernel_rfl) (fun _ _ _ h => h) hS (Or.inl ⟨by rfl, ?_⟩) ?_
      case refine_2 => (intro w hSw; (try dsimp only at hSw); go_simp; (try with_reducible rfl))
      (try simp only [Act.put, List.setIfInBounds_toArray, List.set_cons_zero, List.set_cons_succ])
      refine wpAnyL_take (i := 4) (v := ?_) rfl (by kernel_rfl) (by kernel_rfl) (by kernel_rfl) (by kernel_rfl) (fun _ _ _ h => h) hS (Or.inl ⟨by rfl, ?_⟩) ?_
      case refine_2 => (intro w hSw; (try dsimp only at hSw); go_simp; (try with_reducible rfl))
      (try simp only [Act.put, List.setIfInBounds_toArray, List.set_cons_zero, List.set_cons_succ])
      refine wpAnyL_take (i := 5) (v := ?_) rfl (by kernel_rfl) (by kernel_rfl) (by kernel_rfl) (by kernel_rfl) (fun _ _ _ h => h) hS (Or.inl ⟨by rfl, ?_⟩) ?_
      case refine_2 => (intro w hSw; (try dsimp only at hSw); go_simp; (try with_reducible rfl))
      (try simp only [Act.put, List.setIfInBounds_toArray, List.set_cons_zero, List.set_cons_succ])
      refine wpAnyL_one (i := 6) (by kernel_rfl) rfl (fun K hK => ?_)
      go_simp
      refine hcl.mono ?_
      rintro e w6 ⟨y6, c6, rfl, hb6, hr6, hle6, hn6, ha6⟩
      have hb6' : Below w5.heap.size w5 w6 := ⟨hb6.os, hb6.tape, hb6.output, hb6.size, hb6.block⟩
      obtain ⟨x7, c7, w7, hap, hcc, h72, hf7, HD⟩ := hdone w6 y6 c6 hb6' ⟨hr6, hn6, hle6, by omega, HE.out.lt, fun ad e => (ha6 ad e).2⟩ (fun ad e => (ha6 ad e).1)
      obtain ⟨m1, hm1⟩ : ∃ m1, m1 = m + 1 := ⟨_, rfl⟩
      rw [← hm1] at hap HD
      have HM1 := hid hm1
      clear hm1
      have h62 := HKV.out w6 hb6'
      have h6a := hcc (.cells #[.slice y6 l c6] 22)
      clear hcc hdone
      refine hK.out _ _ (fun _ => h62) ?_
      clear hK K
      refine wpAnyL_one (i := 7) (by kernel_rfl) rfl (fun K hK => ?_)
      go_simp
      refine hK.out _ _ (fun _ => h6a) ?_
      clear hK K
      refine wpAnyL_one (i := 8) (by kernel_rfl) rfl (fun K hK => ?_)
      refine ready_append rfl _ _ 46 rfl _ _ rfl rfl hap ?_
      (try simp only [Act.put, List.getElem_toArray, List.getElem_cons_succ, List.getElem_cons_zero, List.setIfInBounds_toArray, List.set_cons_zero, List.set_cons_succ])
      refine hK.out _ _ (fun _ => h72) ?_
      clear hK K
      refine wpAnyL_one (i := 9) (by kernel_rfl) rfl (fun K hK => ?_)
      go_simp
      refine hK.out _ _ (fun _ => h72) ?_
      clear hK K
      refine wpAnyL_one (i := 10) (by kernel_rfl) rfl (fun K hK => ?_)
      go_simp
      refine hK.out _ _ (fun _ => h72) ?_
      clear hK K
      refine wpAnyL_one (i := 11) (by kernel_rfl) rfl (fun K hK => ?_)
      go_simp
      refine hK.out _ _ (fun h => absurd rfl h) ?_
      clear hK K
      refine wpAnyL_done (by kernel_rfl) ?_ _
      go_wp2_with fail
      go_ret
      obtain ⟨z1, z2, z3⟩ := HD.out
      rw [HM1.out] at z1 z2 z3
      rw [HM1.out]
      refine ⟨rfl, F', A', D', _, y6, c6, z1, ?_, fun q hq hb => ?_, HPP.out.old, HPP.out.new⟩
      · rw [HK0.out] at z2
        exact z2.of_drewN
      · exact z3 q (by rw [HK0.out]; exact hq) hb

end

end Go.Proofs.YtbbjklenpgkooaaGreat
