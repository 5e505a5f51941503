/-
  4 texts of this proof, one behind the other: PxRd, PxDec, PxDec2, PxDec3.
-/
import Derived.Test.YtfgfjfemaniaiaaJ07
/-
  Reader's Bytes: its answer lies in a block of bytes; readers, told by a plain list.
  Conditions: bytes that are looked at lie in memory.
-/
namespace Go.Proofs.Ytfgfjfemaniaiaa.Px
open Go.RowKit Wi By Fl Ba
set_option linter.unusedVariables false
set_option linter.unusedSimpArgs false
set_option maxRecDepth 100000

theorem clone_t (x : Option Addr) (n c : Nat) (l : List Nat) (w : World) (hl : Go.Proofs.Ytfgfjfemaniaiaa.Sl w x n c l) (hn : n ≤ 140737488355328) :
    Calls Try.prog 60 #[.slice x n c] w fun e w' => ∃ y cy, e = .returned (.slice y n cy) ∧ Below w.heap.size w w' ∧ Go.Proofs.Ytfgfjfemaniaiaa.Sl w' y n cy l ∧ ∀ a, y = some a → w.heap.size ≤ a.block ∧ Tb w' a.block 5 :=
  (clone_vl x n c l w (ofW hl) hn).mono fun e w' ⟨y, cy, h1, h2⟩ => ⟨y, cy, h1, h2.out.1, toW h2.out.2.1, h2.out.2.2⟩

def PToldT (w w' : World) (p : Nat) (x : Option Addr) (v : Value) (k l' : List Nat) (e' : Nat) : Prop := PGo w w' p x l' e' ∧ ∃ y cy, v = .slice y k.length cy ∧ Go.Proofs.Ytfgfjfemaniaiaa.Sl w' y k.length cy k ∧ ∀ a, y = some a → w.heap.size ≤ a.block ∧ Tb w' a.block 5

theorem pbytesT (p n c e : Nat) (t : Int) (x : Option Addr) (l : List Nat) (w : World) (h : PRd w p x n c l e) (ht1 : -9223372036854775808 ≤ t) (ht2 : t ≤ 9223372036854775807) :
    Calls Try.prog 44 #[.pointer (some ⟨p, 0, none⟩), .int .i64 t] w fun ed w' => ∃ v, ed = .returned v ∧ PToldT w w' p x v (rBy t l e).1 (rBy t l e).2.1 (rBy t l e).2.2 := by
  have h1 := perr_any p e w h.wrong
  have hsm := h.small
  by_cases he : e = 0
  · subst he
    have hc0 := h.rest
    have hu : Calls Try.prog 40 #[.pointer (some ⟨p, 0, none⟩), .int .i64 t] w fun ed w' => ed = .returned (.int .i64 ((rNum t l 0).1 : Int)) ∧ Turn p w w' ∧ ∃ x' c', PRd w' p x' (rNum t l 0).2.1.length c' (rNum t l 0).2.1 (rNum t l 0).2.2 ∧ From x x' :=
      (pnum_any p n c 0 t x l w h ht1 ht2).mono fun ed w' ⟨h1, h2, x', n', c', h3, h4⟩ => ⟨h1, h2, x', c', by rw [h3.sl.len]; exact h3, h4⟩
    have hN := rNum_lt t l 0 ht2
    by_cases he2 : (rNum t l 0).2.2 = 0
    · by_cases hfew : (rNum t l 0).2.1.length < (rNum t l 0).1
      · have HD : Hid (rBy t l 0 = ([], l, 5)) := rBy_few he2 hfew
        have hr : ∀ v x' n' c' l' e', Turn p w v → PRd v p x' n' c' l' e' → Calls Try.prog 63 #[.pointer (some ⟨p, 0, none⟩), .slice x n c, .int .i64 5] v fun ed w' => ed = .returned (.tuple #[]) ∧ PGo w w' p x l 5 := fun v x' n' c' l' e' t1 h3 =>
          (prefuse_any p n' c' _ 5 n c x' x _ l v h3 (h.sl.turn t1 h.ap) h.ap hsm).mono fun ed w' ⟨h5, h6⟩ => ⟨h5, t1.trans h6.1, h6.2⟩
        rw [he2] at hu
        generalize (rNum t l 0).1 = N at *
        generalize (rNum t l 0).2.1 = l2 at *
        clear h he2
        go_enter Try.func44, Try.ntmps44
        go_wp2_with (first
          | (go_at_call 61; refine h1.mono ?_; rintro e w' ⟨rfl, rfl⟩; clear h1)
          | (go_at_call 40; refine hu.mono ?_; rintro e w2 ⟨rfl, t2, x2, c2, hg, _⟩; have hd0 := hg.rest; have hd1 := hg.wrong; have hr2 := hr _ _ _ _ _ _ t2 hg; clear hu hr hg)
          | (go_at_call 63; refine hr2.mono ?_; rintro e w3 ⟨rfl, hg3⟩; clear hr2))
        go_ret
        rw [HD.out]
        exact ⟨_, rfl, hg3, none, 0, rfl, Go.Proofs.Ytfgfjfemaniaiaa.Sl.empty _, fun a ha => by cases ha⟩
      · have hle : (rNum t l 0).1 ≤ (rNum t l 0).2.1.length := by omega
        have HD : Hid (rBy t l 0 = ((rNum t l 0).2.1.take (rNum t l 0).1, (rNum t l 0).2.1.drop (rNum t l 0).1, 0)) := rBy_yes he2 hle
        rw [he2] at hu
        generalize (rNum t l 0).1 = N at *
        generalize (rNum t l 0).2.1 = l2 at *
        obtain ⟨m, hm⟩ : ∃ m, m = l2.length := ⟨_, rfl⟩
        rw [← hm] at hu hle
        have Hm : Hid (m = l2.length) := hm
        clear h he2 hfew hm
        go_enter Try.func44, Try.ntmps44
        go_wp2_with (first
          | (go_at_call 61; refine h1.mono ?_; rintro e w' ⟨rfl, rfl⟩; clear h1)
          | (go_at_call 40; refine hu.mono ?_; rintro e w2 ⟨rfl, t2, x2, c2, hg, hfr⟩; have hd0 := hg.rest; have hd1 := hg.wrong; have HG : Hid (PRd w2 p x2 m c2 l2 0 ∧ Turn p w' w2 ∧ From x x2) := ⟨hg, t2, hfr⟩; have hhead := fun v => cut_head x2 m c2 N v (Nat.le_trans hle hg.sl.le); have hcut := fun v => wcut_from x2 m c2 N v hle; have hcl := clone_t x2 N c2 (l2.take N) w2 (hg.sl.head N hle) (Nat.le_trans hle hg.small); clear hu hg t2 hfr)
          | (go_at_call 60; refine hcl.mono ?_; rintro e w3 ⟨y, cy, rfl, hb3, hy3, hyb⟩; have hk3 := HG.out.1.below hb3; have he0 := hk3.rest; have hf0 := hk3.fr 0; have H3 : Hid (Below w2.heap.size w2 w3 ∧ Go.Proofs.Ytfgfjfemaniaiaa.Sl w3 y N cy (l2.take N) ∧ PRd w3 p x2 m c2 l2 0 ∧ ∀ a, y = some a → w2.heap.size ≤ a.block ∧ Tb w3 a.block 5) := ⟨hb3, hy3, hk3, hyb⟩; clear hcl hhead hb3 hy3 hk3 hyb))
        go_ret
        rw [HD.out]
        obtain ⟨g1, g2, g3⟩ := HG.out
        obtain ⟨k1, k2, k3, k4⟩ := H3.out
        have t3 : Turn p w' w3 := g2.trans (Turn.of_below k1)
        have hlen : (l2.take N).length = N := by rw [List.length_take]; have := Hm.out; omega
        have hyp : ∀ a, y = some a → a.block ≠ p := fun a ha => by
          have h1 := (k4 a ha).1
          have h2 := g1.lt
          omega
        refine ⟨_, rfl, ⟨t3.setCell rfl _, _, _, _, k3.setRest (k3.sl.from N hle) ((From.cut x2 c2 N).ap k3.ap) (by have := k3.small; omega), g3.trans (From.cut x2 c2 N)⟩, y, cy, by rw [hlen]; rfl, ?_, fun a ha => ⟨Nat.le_trans g2.size (k4 a ha).1, (k4 a ha).2.of_heap (Below.heap_setCell _ _ _ _ (hyp a ha))⟩⟩
        rw [hlen]
        exact k2.turn ((Turn.refl p w3).setCell rfl _) hyp
    · have HD : Hid (rBy t l 0 = ([], (rNum t l 0).2.1, (rNum t l 0).2.2)) := rBy_no he2
      generalize (rNum t l 0).1 = N at *
      generalize (rNum t l 0).2.1 = l2 at *
      generalize (rNum t l 0).2.2 = e2 at *
      have hne : ((e2 : Int) != 0) = true := by simp; omega
      clear h
      go_enter Try.func44, Try.ntmps44
      go_wp2_with (first
        | (go_at_call 61; refine h1.mono ?_; rintro e w' ⟨rfl, rfl⟩; clear h1)
        | (go_at_call 40; refine hu.mono ?_; rintro e w2 ⟨rfl, t2, x2, c2, hg, hfr⟩; have hd1 := hg.wrong; clear hu))
      go_ret
      rw [HD.out]
      exact ⟨_, rfl, ⟨t2, x2, _, c2, hg, hfr⟩, none, 0, rfl, Go.Proofs.Ytfgfjfemaniaiaa.Sl.empty _, fun a ha => by cases ha⟩
  · have HD : Hid (rBy t l e = ([], l, e) ∧ PGo w w p x l e) := ⟨rBy_bad he, Turn.refl p w, x, n, c, h, From.refl x⟩
    have hne : ((e : Int) != 0) = true := by simp; omega
    clear h
    go_enter Try.func44, Try.ntmps44
    go_wp2_with (go_at_call 61; refine h1.mono ?_; rintro e w' ⟨rfl, rfl⟩; clear h1)
    go_ret
    rw [HD.out.1]
    exact ⟨_, rfl, HD.out.2, none, 0, rfl, Go.Proofs.Ytfgfjfemaniaiaa.Sl.empty _, fun a ha => by cases ha⟩

def Rdr (w : World) (p N : Nat) (l : List Nat) (e : Nat) : Prop := ∃ x n c, PRd w p x n c l e ∧ ∀ a, x = some a → a.block < N

theorem Rdr.lt {w : World} {p N : Nat} {l : List Nat} {e : Nat} (h : Rdr w p N l e) : p < w.heap.size := by
  obtain ⟨x, n, c, h1, _⟩ := h
  exact h1.lt

theorem Rdr.turns {G : Nat → Prop} {w w' : World} {p N : Nat} {l : List Nat} {e : Nat} (h : Rdr w p N l e) (t : Turns G w w') (hp : ¬ G p) (hN : ∀ k, G k → N ≤ k) : Rdr w' p N l e := by
  obtain ⟨x, n, c, h1, h2⟩ := h
  refine ⟨x, n, c, ⟨keept t hp h1.rest, keept t hp h1.wrong, fun j => keeptf t hp h1.lt (h1.fr j), toW ((ofW h1.sl).turns t (fun _ a ha hg => ?_)), h1.ap, h1.small⟩, h2⟩
  have := h2 a ha
  have := hN _ hg
  omega

theorem Rdr.below {w w' : World} {p N : Nat} {l : List Nat} {e : Nat} (h : Rdr w p N l e) (b : Below w.heap.size w w') : Rdr w' p N l e :=
  h.turns (Turns.of_below (F := fun _ => False) b) (fun h => h) (fun _ h => h.elim)

theorem turn_turns {g : Nat} {w w' : World} (t : Turn g w w') : Turns (atB g) w w' := ⟨t.os, t.tape, t.output, t.size, fun k hk hn => t.block k hk hn⟩

theorem PGo.rdr {w w' : World} {p N : Nat} {x : Option Addr} {l' : List Nat} {e' : Nat} (h : PGo w w' p x l' e') (hx : ∀ a, x = some a → a.block < N) : Turns (atB p) w w' ∧ Rdr w' p N l' e' := by
  obtain ⟨h1, x', n', c', h2, h3⟩ := h
  exact ⟨turn_turns h1, x', n', c', h2, fun a ha => by obtain ⟨b, hb, e⟩ := h3 a ha; rw [← e]; exact hx b hb⟩

theorem numR {p N : Nat} {l : List Nat} {e : Nat} {w : World} (t : Int) (h : Rdr w p N l e) (ht1 : -9223372036854775808 ≤ t) (ht2 : t ≤ 9223372036854775807) :
    Calls Try.prog 40 #[.pointer (some ⟨p, 0, none⟩), .int .i64 t] w fun ed w' => ed = .returned (.int .i64 ((rNum t l e).1 : Int)) ∧ Hid (Turns (atB p) w w' ∧ Rdr w' p N (rNum t l e).2.1 (rNum t l e).2.2) := by
  obtain ⟨x, n, c, h1, h2⟩ := h
  exact (pnum_any p n c e t x l w h1 ht1 ht2).mono fun ed w' ⟨h3, h4⟩ => ⟨h3, PGo.rdr h4 h2⟩

theorem bytesR {p N : Nat} {l : List Nat} {e : Nat} {w : World} (t : Int) (h : Rdr w p N l e) (ht1 : -9223372036854775808 ≤ t) (ht2 : t ≤ 9223372036854775807) :
    Calls Try.prog 44 #[.pointer (some ⟨p, 0, none⟩), .int .i64 t] w fun ed w' => ∃ y m cy, ed = .returned (.slice y m cy) ∧ Hid (Turns (atB p) w w' ∧ Rdr w' p N (rBy t l e).2.1 (rBy t l e).2.2 ∧ Fl.Sl w' y m cy (rBy t l e).1 ∧ ∀ a, y = some a → w.heap.size ≤ a.block ∧ Tb w' a.block 5) := by
  obtain ⟨x, n, c, h1, h2⟩ := h
  refine (pbytesT p n c e t x l w h1 ht1 ht2).mono fun ed w' ⟨v, h3, h4, y, cy, h5, h6, h7⟩ => ?_
  subst h5
  obtain ⟨q1, q2⟩ := PGo.rdr h4 h2
  exact ⟨y, _, cy, h3, q1, q2, ofW h6, h7⟩

theorem readR (x : Option Addr) (n c : Nat) (l : List Nat) (w : World) (hl : Fl.Sl w x n c l) (hn : n ≤ 140737488355328) :
    Calls Try.prog 39 #[.slice x n c] w fun e w' => ∃ p, e = .returned (.pointer (some ⟨p, 0, none⟩)) ∧ Hid (w.heap.size ≤ p ∧ Below w.heap.size w w' ∧ Rdr w' p w'.heap.size l 0) :=
  (read_any x n c l w (toW hl) hn).mono fun e w' ⟨p, y, cy, h1, h2, h3, h4, h5⟩ => ⟨p, h1, h2, h3, y, n, cy, h4, fun a ha => (h5 a ha).2⟩

theorem errR {p N : Nat} {l : List Nat} {e : Nat} {w : World} (h : Rdr w p N l e) : Calls Try.prog 61 #[.pointer (some ⟨p, 0, none⟩)] w fun ed w' => ed = .returned (.int .i64 (e : Int)) ∧ w' = w := by
  obtain ⟨x, n, c, h1, h2⟩ := h
  exact perr_any p e w h1.wrong

theorem doneR {p N : Nat} {l : List Nat} {e : Nat} {w : World} (h : Rdr w p N l e) : Calls Try.prog 45 #[.pointer (some ⟨p, 0, none⟩)] w fun ed w' => ed = .returned (.int .i64 (rDone l e : Int)) ∧ w' = w := by
  obtain ⟨x, n, c, h1, h2⟩ := h
  exact pdone_any p n c e x l w h1

theorem results_cell1 {fn : Func} {p : Tmp} {ty : TypeId} (h : fn.results = #[.cell p ty]) (tmps : Array Value) (P : Program) (w : World) :
    (results fn tmps).run P w = ((asAddr (tmps.getD p undef)).run P w).andThen fun a w₁ => (loadVar ty a).run P w₁ := by
  simp only [results, h]
  simp [Sem.run_bind, Result.andThen]

end Go.Proofs.Ytfgfjfemaniaiaa.Px

/-
  Package paxos: decrees and ballots read and looked at.
  Conditions: bytes that are looked at lie in memory.
-/
namespace Go.Proofs.Ytfgfjfemaniaiaa.Px
open Go.RowKit Wi By Fl Ba
set_option linter.unusedVariables false
set_option linter.unusedSimpArgs false
set_option maxRecDepth 100000

theorem Turns.at_trans {a b c : World} {g : Nat} (h : Turns (atB g) a b) (k : Turns (atB g) b c) : Turns (atB g) a c := h.trans k

/- Behind a new block of one's own, turns of an elder one, and stores into the new one. -/
theorem turns_new {w w' : World} {g : Nat} {o : Obj} (t : Turns (fun k => k = g ∨ k = w.heap.size) (w.alloc o) w') : Turns (atB g) w w' := by
  have h0 : Turns (fun k => k = g ∨ k = w.heap.size) w (w.alloc o) := (Turns.refl _ w).alloc o
  have h1 := h0.trans t
  exact ⟨h1.os, h1.tape, h1.output, h1.size, fun k hk hn => h1.block k hk (fun e => by
    rcases e with e | e
    · exact hn e
    · omega)⟩

theorem turns_put {a w : World} {g : Nat} (t : Turns (atB g) a w) (k : Nat) (u : Value) : Turns (atB g) a (w.setCell ⟨g, k, none⟩ u) := t.setCell (p := ⟨g, k, none⟩) (.inl rfl) u

theorem Turns.or_l {w w' : World} {g h : Nat} (t : Turns (atB g) w w') : Turns (fun k => k = g ∨ k = h) w w' := t.weak fun k e => .inl e

theorem rNum_le (t : Int) (l : List Nat) (e : Nat) : ((rNum t l e).1 : Int) ≤ max t 0 := by
  unfold rNum
  split
  · simp; omega
  · split
    · simp; omega
    · split
      · simp; omega
      · next h => omega

theorem rdc_any {p N : Nat} {l : List Nat} {e : Nat} {w : World} (n : Nat) (hn : n ≤ 7) (h : Rdr w p N l e) (hNw : N ≤ w.heap.size) :
    Calls Try.prog 64 #[.pointer (some ⟨p, 0, none⟩), .int .i64 n] w fun ed w' => ed = .returned (dv (rDc n l e).1) ∧ Hid (Turns (atB p) w w' ∧ Rdr w' p N (rDc n l e).2.1 (rDc n l e).2.2) := by
  have hp := h.lt
  have hA := fun W (hW : Rdr W p N l e) => numR ((n : Int) - 1) hW (by omega) (by omega)
  have HE : Hid (rDc n l e = (⟨(rNum ((n : Int) - 1) l e).1, (rNum 2147483647 (rNum ((n : Int) - 1) l e).2.1 (rNum ((n : Int) - 1) l e).2.2).1,
    str (rBy 4096 (rNum 2147483647 (rNum ((n : Int) - 1) l e).2.1 (rNum ((n : Int) - 1) l e).2.2).2.1 (rNum 2147483647 (rNum ((n : Int) - 1) l e).2.1 (rNum ((n : Int) - 1) l e).2.2).2.2).1⟩,
    (rBy 4096 (rNum 2147483647 (rNum ((n : Int) - 1) l e).2.1 (rNum ((n : Int) - 1) l e).2.2).2.1 (rNum 2147483647 (rNum ((n : Int) - 1) l e).2.1 (rNum ((n : Int) - 1) l e).2.2).2.2).2)) := rfl
  generalize rDc n l e = D at *
  have h0 : ∀ o, Rdr (w.alloc o) p N l e := fun o => h.below (al _ _)
  have HNw : Hid (N ≤ w.heap.size) := hNw
  have nI : (n : Int) ≤ 7 := by omega
  clear h hn hNw
  generalize rNum ((n : Int) - 1) l e = A at *
  have hB := fun W (hW : Rdr W p N A.2.1 A.2.2) => numR 2147483647 hW (by omega) (by omega)
  generalize rNum 2147483647 A.2.1 A.2.2 = B at *
  have hC := fun W (hW : Rdr W p N B.2.1 B.2.2) => bytesR 4096 hW (by omega) (by omega)
  generalize rBy 4096 B.2.1 B.2.2 = C at *
  go_enter Try.func64, Try.ntmps64
  go_wp2_with (first
    | (
       go_at_call 40; refine (hA _ (h0 _)).mono ?_; rintro e w1 ⟨rfl, H1⟩; clear hA h0
       have r0 := keepn H1.out.1 (b := w.heap.size) (o := 0) (x := .int .i64 0) (by omega) (by go_simp)
       have r1 := keepn H1.out.1 (b := w.heap.size) (o := 1) (x := .int .i64 0) (by omega) (by go_simp)
       have r2 := keepn H1.out.1 (b := w.heap.size) (o := 2) (x := .string ⟨#[]⟩) (by omega) (by go_simp)
       have f0 := keepnf H1.out.1 (b := w.heap.size) (o := 0) (by omega) (by simp) (by go_simp)
       have f1 := keepnf H1.out.1 (b := w.heap.size) (o := 1) (by omega) (by simp) (by go_simp)
       have f2 := keepnf H1.out.1 (b := w.heap.size) (o := 2) (by omega) (by simp) (by go_simp))
    | (
       go_at_call 40; refine (hB _ H1.out.2).mono ?_; rintro e w2 ⟨rfl, H2⟩; clear hB
       have lt2 : w.heap.size < w1.heap.size := cell_lt' r0
       have r0 := keepn H2.out.1 (b := w.heap.size) (by omega) r0
       have r1 := keepn H2.out.1 (b := w.heap.size) (by omega) r1
       have r2 := keepn H2.out.1 (b := w.heap.size) (by omega) r2
       have f0 := keepnf H2.out.1 (b := w.heap.size) (by omega) (by omega) f0
       have f1 := keepnf H2.out.1 (b := w.heap.size) (by omega) (by omega) f1
       have f2 := keepnf H2.out.1 (b := w.heap.size) (by omega) (by omega) f2
       clear lt2)
    | (
       go_at_call 44; refine (hC _ H2.out.2).mono ?_; rintro e w3 ⟨y, m, cy, rfl, H3⟩; clear hC
       have lt3 : w.heap.size < w2.heap.size := cell_lt' r0
       have r0 := keepn H3.out.1 (b := w.heap.size) (by omega) r0
       have r1 := keepn H3.out.1 (b := w.heap.size) (by omega) r1
       have r2 := keepn H3.out.1 (b := w.heap.size) (by omega) r2
       have f0 := keepnf H3.out.1 (b := w.heap.size) (by omega) (by omega) f0
       have f1 := keepnf H3.out.1 (b := w.heap.size) (by omega) (by omega) f1
       have f2 := keepnf H3.out.1 (b := w.heap.size) (by omega) (by omega) f2
       have hcv := conv_sl H3.out.2.2.1))
  refine bodyPost_ret (v := .agg #[.int .i64 (A.1 : Nat), .int .i64 (B.1 : Nat), .string (str C.1)]) ?_ rfl ?_
  · rw [results_cell1 rfl]
    go_simp
  · have T : Turns (fun k => k = p ∨ k = w.heap.size) (w.alloc (.cells #[.int .i64 0, .int .i64 0, .string ⟨#[]⟩] 68)) w3 := ((H1.out.1.trans H2.out.1).trans H3.out.1).weak fun k e => .inl e
    have T2 := ((T.setCell (p := ⟨w.heap.size, 0, none⟩) (.inl (.inr rfl)) (.int .i64 (A.1 : Nat))).setCell (p := ⟨w.heap.size, 1, none⟩) (.inl (.inr rfl)) (.int .i64 (B.1 : Nat))).setCell (p := ⟨w.heap.size, 2, none⟩) (.inl (.inr rfl)) (.string (str C.1))
    have T3 : Turns (atB w.heap.size) w3 (((w3.setCell ⟨w.heap.size, 0, none⟩ (.int .i64 (A.1 : Nat))).setCell ⟨w.heap.size, 1, none⟩ (.int .i64 (B.1 : Nat))).setCell ⟨w.heap.size, 2, none⟩ (.string (str C.1))) :=
      turns_put (turns_put (turns_put (Turns.refl _ w3) 0 _) 1 _) 2 _
    refine ⟨by rw [HE.out]; rfl, turns_new T2, ?_⟩
    rw [HE.out]
    exact H3.out.2.1.turns T3 (fun e => by have e2 : p = w.heap.size := e; omega) (fun k e => by have e2 : k = w.heap.size := e; have := HNw.out; omega)

theorem dmay_any (d : Dc) (w : World) : Calls Try.prog 83 #[dv d] w fun e w' => e = .returned (.bool (decide (1 ≤ d.ser))) ∧ Below w.heap.size w w' := by
  obtain ⟨mon, ser, s⟩ := d
  dsimp only [dv]
  have hd : decide (1 ≤ (ser : Int)) = decide (1 ≤ ser) := by
    by_cases h : 1 ≤ ser <;> simp [h] <;> omega
  go_enter Try.func83, Try.ntmps83
  go_wp2_with fail
  go_ret
  exact ⟨by simp [hd], al _ _⟩

def noDc : Dc := ⟨0, 0, ⟨#[]⟩⟩

theorem turns_above {g : Nat} {a w w' : World} (b : Below a.heap.size a w) (t : Turns (atB g) w w') (hg : a.heap.size ≤ g) : Below a.heap.size a w' :=
  b.trans (t.below (fun k hk => by have e : k = g := hk; omega) b.size)

theorem dof_any (x : Option Addr) (n c : Nat) (l : List Nat) (k : Nat) (hk : k ≤ 7) (w : World) (hl : Fl.Sl w x n c l) (hn : n ≤ 140737488355328) :
    Calls Try.prog 82 #[.slice x n c, .int .i64 k] w fun e w' => e = .returned (.tuple #[dv ((dOf k l).getD noDc), .bool (dOf k l).isSome]) ∧ Hid (Below w.heap.size w w') := by
  have hR := fun W h => readR x n c l W h hn
  have hD := fun W p (hW : Rdr W p W.heap.size l 0) => rdc_any k hk hW (Nat.le_refl _)
  have hM := fun W => dmay_any (rDc k l 0).1 W
  unfold dOf
  generalize rDc k l 0 = D at *
  obtain ⟨⟨mon, ser, s⟩, l2, e2⟩ := D
  dsimp only [dv] at *
  have b0 : ∀ o, Below w.heap.size w (w.alloc o) := fun o => al _ _
  by_cases h1 : rDone l2 e2 = 0
  · by_cases h2 : 1 ≤ ser
    · rw [if_pos ⟨h1, h2⟩]
      have ht : decide (1 ≤ ser) = true := by simp [h2]
      rw [ht] at hM
      have hO := fun (W : World) (p : Nat) (hW : Rdr W p W.heap.size l2 e2) => doneR hW
      have hO2 := fun (W : World) (p N : Nat) (hW : Rdr W p N l2 e2) => doneR hW
      rw [h1] at hO2
      dsimp only [Option.getD, Option.isSome]
      clear h1 h2 ht hn hk hO
      go_enter Try.func82, Try.ntmps82
      go_wp2_with (first
        | (
           go_at_call 39; refine (hR _ (hl.below (b0 _))).mono ?_; rintro e w1 ⟨p, rfl, H1⟩; clear hR
           have r0 := keep H1.out.2.1 (b := w.heap.size) (o := 0) (x := .int .i64 0) (by first | assumption | go_simp)
           have r1 := keep H1.out.2.1 (b := w.heap.size) (o := 1) (x := .int .i64 0) (by first | assumption | go_simp)
           have r2 := keep H1.out.2.1 (b := w.heap.size) (o := 2) (x := .string ⟨#[]⟩) (by first | assumption | go_simp)
           have f0 := keepf H1.out.2.1 (b := w.heap.size) (o := 0) (by first | (simp <;> omega) | exact cell_lt' (a := ⟨w.heap.size, 0, none⟩) (by assumption) | (simp; exact cell_lt' (a := ⟨w.heap.size, 0, none⟩) (by assumption))) (by first | assumption | go_simp)
           have f1 := keepf H1.out.2.1 (b := w.heap.size) (o := 1) (by first | (simp <;> omega) | exact cell_lt' (a := ⟨w.heap.size, 1, none⟩) (by assumption) | (simp; exact cell_lt' (a := ⟨w.heap.size, 1, none⟩) (by assumption))) (by first | assumption | go_simp)
           have f2 := keepf H1.out.2.1 (b := w.heap.size) (o := 2) (by first | (simp <;> omega) | exact cell_lt' (a := ⟨w.heap.size, 2, none⟩) (by assumption) | (simp; exact cell_lt' (a := ⟨w.heap.size, 2, none⟩) (by assumption))) (by first | assumption | go_simp)
           have hpw : w.heap.size < p := by have := H1.out.1; simp at this; omega
           have lt1 : w.heap.size < w1.heap.size := cell_lt' r0
           have B1 := on (b0 _) H1.out.2.1
           clear b0)
        | (
           go_at_call 64; refine (hD _ _ H1.out.2.2).mono ?_; rintro e w2 ⟨rfl, H2⟩; clear hD
           have r0 := keepn H2.out.1 (b := w.heap.size) (by omega) r0
           have r1 := keepn H2.out.1 (b := w.heap.size) (by omega) r1
           have r2 := keepn H2.out.1 (b := w.heap.size) (by omega) r2
           have f0 := keepnf H2.out.1 (b := w.heap.size) (by omega) (by omega) f0
           have f1 := keepnf H2.out.1 (b := w.heap.size) (by omega) (by omega) f1
           have f2 := keepnf H2.out.1 (b := w.heap.size) (by omega) (by omega) f2
           have lt2 : w.heap.size < w2.heap.size := cell_lt' r0
           have B2 := turns_above B1 H2.out.1 (by omega)
           have R2 := fun o => H2.out.2.below (al w2 o)
           clear lt1 B1)
        | (
           go_at_call 45; refine (hO2 _ _ _ (R2 _)).mono ?_; rintro e w3 ⟨rfl, hw3⟩; subst w3; clear hO2)
        | (
           go_at_call 83; refine (hM _).mono ?_; rintro e w4 ⟨rfl, H4⟩; clear hM
           have r0 := keep H4 (b := w.heap.size) (o := 0) (x := .int .i64 0) (by first | assumption | go_simp)
           have r1 := keep H4 (b := w.heap.size) (o := 1) (x := .int .i64 0) (by first | assumption | go_simp)
           have r2 := keep H4 (b := w.heap.size) (o := 2) (x := .string ⟨#[]⟩) (by first | assumption | go_simp)
           have f0 := keepf H4 (b := w.heap.size) (o := 0) (by first | (simp <;> omega) | exact cell_lt' (a := ⟨w.heap.size, 0, none⟩) (by assumption) | (simp; exact cell_lt' (a := ⟨w.heap.size, 0, none⟩) (by assumption))) (by first | assumption | go_simp)
           have f1 := keepf H4 (b := w.heap.size) (o := 1) (by first | (simp <;> omega) | exact cell_lt' (a := ⟨w.heap.size, 1, none⟩) (by assumption) | (simp; exact cell_lt' (a := ⟨w.heap.size, 1, none⟩) (by assumption))) (by first | assumption | go_simp)
           have f2 := keepf H4 (b := w.heap.size) (o := 2) (by first | (simp <;> omega) | exact cell_lt' (a := ⟨w.heap.size, 2, none⟩) (by assumption) | (simp; exact cell_lt' (a := ⟨w.heap.size, 2, none⟩) (by assumption))) (by first | assumption | go_simp)
           have q0 := keep H4 (b := w2.heap.size) (o := 0) (x := .int .i64 mon) (by first | assumption | go_simp)
           have q1 := keep H4 (b := w2.heap.size) (o := 1) (x := .int .i64 ser) (by first | assumption | go_simp)
           have q2 := keep H4 (b := w2.heap.size) (o := 2) (x := .string s) (by first | assumption | go_simp)
           have B4 := on (on B2 (al _ _)) H4))
      refine bodyPost_ret (v := .tuple #[.agg #[.int .i64 mon, .int .i64 ser, .string s], .bool true]) ?_ rfl ⟨rfl, ?_⟩
      · rw [results_cell2 rfl]
        go_simp
      · exact ((B4.setCell (p := ⟨w.heap.size, 0, none⟩) (Nat.le_refl _) _).setCell (p := ⟨w.heap.size, 1, none⟩) (Nat.le_refl _) _).setCell (p := ⟨w.heap.size, 2, none⟩) (Nat.le_refl _) _
    · rw [if_neg (fun h => h2 h.2)]
      have ht : decide (1 ≤ ser) = false := by simp; omega
      rw [ht] at hM
      have hO2 := fun (W : World) (p N : Nat) (hW : Rdr W p N l2 e2) => doneR hW
      rw [h1] at hO2
      dsimp only [Option.getD, Option.isSome, noDc]
      clear h1 h2 ht hn hk
      go_enter Try.func82, Try.ntmps82
      go_wp2_with (first
        | (
           go_at_call 39; refine (hR _ (hl.below (b0 _))).mono ?_; rintro e w1 ⟨p, rfl, H1⟩; clear hR
           have r0 := keep H1.out.2.1 (b := w.heap.size) (o := 0) (x := .int .i64 0) (by first | assumption | go_simp)
           have r1 := keep H1.out.2.1 (b := w.heap.size) (o := 1) (x := .int .i64 0) (by first | assumption | go_simp)
           have r2 := keep H1.out.2.1 (b := w.heap.size) (o := 2) (x := .string ⟨#[]⟩) (by first | assumption | go_simp)
           have f0 := keepf H1.out.2.1 (b := w.heap.size) (o := 0) (by first | (simp <;> omega) | exact cell_lt' (a := ⟨w.heap.size, 0, none⟩) (by assumption) | (simp; exact cell_lt' (a := ⟨w.heap.size, 0, none⟩) (by assumption))) (by first | assumption | go_simp)
           have f1 := keepf H1.out.2.1 (b := w.heap.size) (o := 1) (by first | (simp <;> omega) | exact cell_lt' (a := ⟨w.heap.size, 1, none⟩) (by assumption) | (simp; exact cell_lt' (a := ⟨w.heap.size, 1, none⟩) (by assumption))) (by first | assumption | go_simp)
           have f2 := keepf H1.out.2.1 (b := w.heap.size) (o := 2) (by first | (simp <;> omega) | exact cell_lt' (a := ⟨w.heap.size, 2, none⟩) (by assumption) | (simp; exact cell_lt' (a := ⟨w.heap.size, 2, none⟩) (by assumption))) (by first | assumption | go_simp)
           have hpw : w.heap.size < p := by have := H1.out.1; simp at this; omega
           have lt1 : w.heap.size < w1.heap.size := cell_lt' r0
           have B1 := on (b0 _) H1.out.2.1
           clear b0)
        | (
           go_at_call 64; refine (hD _ _ H1.out.2.2).mono ?_; rintro e w2 ⟨rfl, H2⟩; clear hD
           have r0 := keepn H2.out.1 (b := w.heap.size) (by omega) r0
           have r1 := keepn H2.out.1 (b := w.heap.size) (by omega) r1
           have r2 := keepn H2.out.1 (b := w.heap.size) (by omega) r2
           have f0 := keepnf H2.out.1 (b := w.heap.size) (by omega) (by omega) f0
           have f1 := keepnf H2.out.1 (b := w.heap.size) (by omega) (by omega) f1
           have f2 := keepnf H2.out.1 (b := w.heap.size) (by omega) (by omega) f2
           have lt2 : w.heap.size < w2.heap.size := cell_lt' r0
           have B2 := turns_above B1 H2.out.1 (by omega)
           have R2 := fun o => H2.out.2.below (al w2 o)
           clear lt1 B1)
        | (
           go_at_call 45; refine (hO2 _ _ _ (R2 _)).mono ?_; rintro e w3 ⟨rfl, hw3⟩; subst w3; clear hO2)
        | (
           go_at_call 83; refine (hM _).mono ?_; rintro e w4 ⟨rfl, H4⟩; clear hM
           have r0 := keep H4 (b := w.heap.size) (o := 0) (x := .int .i64 0) (by first | assumption | go_simp)
           have r1 := keep H4 (b := w.heap.size) (o := 1) (x := .int .i64 0) (by first | assumption | go_simp)
           have r2 := keep H4 (b := w.heap.size) (o := 2) (x := .string ⟨#[]⟩) (by first | assumption | go_simp)
           have f0 := keepf H4 (b := w.heap.size) (o := 0) (by first | (simp <;> omega) | exact cell_lt' (a := ⟨w.heap.size, 0, none⟩) (by assumption) | (simp; exact cell_lt' (a := ⟨w.heap.size, 0, none⟩) (by assumption))) (by first | assumption | go_simp)
           have f1 := keepf H4 (b := w.heap.size) (o := 1) (by first | (simp <;> omega) | exact cell_lt' (a := ⟨w.heap.size, 1, none⟩) (by assumption) | (simp; exact cell_lt' (a := ⟨w.heap.size, 1, none⟩) (by assumption))) (by first | assumption | go_simp)
           have f2 := keepf H4 (b := w.heap.size) (o := 2) (by first | (simp <;> omega) | exact cell_lt' (a := ⟨w.heap.size, 2, none⟩) (by assumption) | (simp; exact cell_lt' (a := ⟨w.heap.size, 2, none⟩) (by assumption))) (by first | assumption | go_simp)
           have B4 := on (on B2 (al _ _)) H4))
      refine bodyPost_ret (v := .tuple #[.agg #[.int .i64 0, .int .i64 0, .string ⟨#[]⟩], .bool false]) ?_ rfl ⟨rfl, ?_⟩
      · rw [results_cell2 rfl]
        go_simp
      · exact ((B4.setCell (p := ⟨w.heap.size, 0, none⟩) (Nat.le_refl _) _).setCell (p := ⟨w.heap.size, 1, none⟩) (Nat.le_refl _) _).setCell (p := ⟨w.heap.size, 2, none⟩) (Nat.le_refl _) _
  · rw [if_neg (fun h => h1 h.1)]
    have hO2 := fun (W : World) (p N : Nat) (hW : Rdr W p N l2 e2) => doneR hW
    have ho : ((rDone l2 e2 : Int) != 0) = true := by simp; omega
    generalize rDone l2 e2 = o at *
    dsimp only [Option.getD, Option.isSome, noDc]
    clear h1 hn hk
    go_enter Try.func82, Try.ntmps82
    go_wp2_with (first
      | (
         go_at_call 39; refine (hR _ (hl.below (b0 _))).mono ?_; rintro e w1 ⟨p, rfl, H1⟩; clear hR
         have r0 := keep H1.out.2.1 (b := w.heap.size) (o := 0) (x := .int .i64 0) (by first | assumption | go_simp)
         have r1 := keep H1.out.2.1 (b := w.heap.size) (o := 1) (x := .int .i64 0) (by first | assumption | go_simp)
         have r2 := keep H1.out.2.1 (b := w.heap.size) (o := 2) (x := .string ⟨#[]⟩) (by first | assumption | go_simp)
         have f0 := keepf H1.out.2.1 (b := w.heap.size) (o := 0) (by first | (simp <;> omega) | exact cell_lt' (a := ⟨w.heap.size, 0, none⟩) (by assumption) | (simp; exact cell_lt' (a := ⟨w.heap.size, 0, none⟩) (by assumption))) (by first | assumption | go_simp)
         have f1 := keepf H1.out.2.1 (b := w.heap.size) (o := 1) (by first | (simp <;> omega) | exact cell_lt' (a := ⟨w.heap.size, 1, none⟩) (by assumption) | (simp; exact cell_lt' (a := ⟨w.heap.size, 1, none⟩) (by assumption))) (by first | assumption | go_simp)
         have f2 := keepf H1.out.2.1 (b := w.heap.size) (o := 2) (by first | (simp <;> omega) | exact cell_lt' (a := ⟨w.heap.size, 2, none⟩) (by assumption) | (simp; exact cell_lt' (a := ⟨w.heap.size, 2, none⟩) (by assumption))) (by first | assumption | go_simp)
         have hpw : w.heap.size < p := by have := H1.out.1; simp at this; omega
         have lt1 : w.heap.size < w1.heap.size := cell_lt' r0
         have B1 := on (b0 _) H1.out.2.1
         clear b0)
      | (
         go_at_call 64; refine (hD _ _ H1.out.2.2).mono ?_; rintro e w2 ⟨rfl, H2⟩; clear hD
         have r0 := keepn H2.out.1 (b := w.heap.size) (by omega) r0
         have r1 := keepn H2.out.1 (b := w.heap.size) (by omega) r1
         have r2 := keepn H2.out.1 (b := w.heap.size) (by omega) r2
         have f0 := keepnf H2.out.1 (b := w.heap.size) (by omega) (by omega) f0
         have f1 := keepnf H2.out.1 (b := w.heap.size) (by omega) (by omega) f1
         have f2 := keepnf H2.out.1 (b := w.heap.size) (by omega) (by omega) f2
         have lt2 : w.heap.size < w2.heap.size := cell_lt' r0
         have B2 := turns_above B1 H2.out.1 (by omega)
         have R2 := fun o => H2.out.2.below (al w2 o)
         clear lt1 B1)
      | (
         go_at_call 45; refine (hO2 _ _ _ (R2 _)).mono ?_; rintro e w3 ⟨rfl, hw3⟩; subst w3; clear hO2))
    refine bodyPost_ret (v := .tuple #[.agg #[.int .i64 0, .int .i64 0, .string ⟨#[]⟩], .bool false]) ?_ rfl ⟨rfl, ?_⟩
    · rw [results_cell2 rfl]
      go_simp
    · show Below _ _ _
      repeat (first | with_reducible exact B2 | (with_reducible refine Below.setCell ?_ (by first | (simp; done) | (simp; omega) | omega) _) | (with_reducible refine Below.alloc ?_ (by first | (simp; done) | (simp; omega) | omega) _))

end Go.Proofs.Ytfgfjfemaniaiaa.Px

/-
  Package paxos: ballots and lists of decrees read; which decrees and acceptors may be.
  Conditions: bytes that are looked at lie in memory.
-/
namespace Go.Proofs.Ytfgfjfemaniaiaa.Px
open Go.RowKit Wi By Fl Ba
set_option linter.unusedVariables false
set_option linter.unusedSimpArgs false
set_option maxRecDepth 100000

theorem rbal_any {p N : Nat} {l : List Nat} {e : Nat} {w : World} (n : Nat) (hn : n ≤ 7) (h : Rdr w p N l e) (hNw : N ≤ w.heap.size) :
    Calls Try.prog 43 #[.pointer (some ⟨p, 0, none⟩), .int .i64 n] w fun ed w' => ed = .returned (bt (rBal n l e).1) ∧ Hid (Turns (atB p) w w' ∧ Rdr w' p N (rBal n l e).2.1 (rBal n l e).2.2) := by
  have hp := h.lt
  have hA := fun W (hW : Rdr W p N l e) => numR 2147483647 hW (by omega) (by omega)
  have HE : Hid (rBal n l e = ((((rNum 2147483647 l e).1 : Int), ((rNum ((n : Int) - 1) (rNum 2147483647 l e).2.1 (rNum 2147483647 l e).2.2).1 : Int)), (rNum ((n : Int) - 1) (rNum 2147483647 l e).2.1 (rNum 2147483647 l e).2.2).2)) := rfl
  generalize rBal n l e = D at *
  have h0 : ∀ o, Rdr (w.alloc o) p N l e := fun o => h.below (al _ _)
  have HNw : Hid (N ≤ w.heap.size) := hNw
  have nI : (n : Int) ≤ 7 := by omega
  clear h hn hNw
  generalize rNum 2147483647 l e = A at *
  have hB := fun W (hW : Rdr W p N A.2.1 A.2.2) => numR ((n : Int) - 1) hW (by omega) (by omega)
  generalize rNum ((n : Int) - 1) A.2.1 A.2.2 = B at *
  go_enter Try.func43, Try.ntmps43
  go_wp2_with (first
    | (
       go_at_call 40; refine (hA _ (h0 _)).mono ?_; rintro e w1 ⟨rfl, H1⟩; clear hA h0
       have r0 := keepn H1.out.1 (b := w.heap.size) (o := 0) (x := .int .i64 0) (by omega) (by go_simp)
       have r1 := keepn H1.out.1 (b := w.heap.size) (o := 1) (x := .int .i64 0) (by omega) (by go_simp)
       have f0 := keepnf H1.out.1 (b := w.heap.size) (o := 0) (by omega) (by simp) (by go_simp)
       have f1 := keepnf H1.out.1 (b := w.heap.size) (o := 1) (by omega) (by simp) (by go_simp))
    | (
       go_at_call 40; refine (hB _ H1.out.2).mono ?_; rintro e w2 ⟨rfl, H2⟩; clear hB
       have lt2 : w.heap.size < w1.heap.size := cell_lt' r0
       have r0 := keepn H2.out.1 (b := w.heap.size) (by omega) r0
       have r1 := keepn H2.out.1 (b := w.heap.size) (by omega) r1
       have f0 := keepnf H2.out.1 (b := w.heap.size) (by omega) (by omega) f0
       have f1 := keepnf H2.out.1 (b := w.heap.size) (by omega) (by omega) f1
       clear lt2))
  refine bodyPost_ret (v := .agg #[.int .i64 (A.1 : Nat), .int .i64 (B.1 : Nat)]) ?_ rfl ?_
  · rw [results_cell1 rfl]
    go_simp
  · have T : Turns (fun k => k = p ∨ k = w.heap.size) (w.alloc (.cells #[.int .i64 0, .int .i64 0] 72)) w2 := (H1.out.1.trans H2.out.1).weak fun k e => .inl e
    have T2 := (T.setCell (p := ⟨w.heap.size, 0, none⟩) (.inl (.inr rfl)) (.int .i64 (A.1 : Nat))).setCell (p := ⟨w.heap.size, 1, none⟩) (.inl (.inr rfl)) (.int .i64 (B.1 : Nat))
    have T3 : Turns (atB w.heap.size) w2 ((w2.setCell ⟨w.heap.size, 0, none⟩ (.int .i64 (A.1 : Nat))).setCell ⟨w.heap.size, 1, none⟩ (.int .i64 (B.1 : Nat))) :=
      turns_put (turns_put (Turns.refl _ w2) 0 _) 1 _
    refine ⟨by rw [HE.out]; rfl, turns_new T2, ?_⟩
    rw [HE.out]
    exact H2.out.2.turns T3 (fun e => by have e2 : p = w.heap.size := e; omega) (fun k e => by have e2 : k = w.heap.size := e; have := HNw.out; omega)

theorem told_any (a b : Nat) (w : World) (ha : a ≤ 2147483647) (hb : b ≤ 2147483647) : Calls Try.prog 42 #[.int .i64 a, .int .i64 b] w fun e w' => e = .returned (.int .i64 (told a b)) ∧ w' = w := by
  have i1 : (a : Int) ≤ 2147483647 := by omega
  have i2 : (b : Int) ≤ 2147483647 := by omega
  unfold told
  by_cases h : (b : Int) - a + 1 ≤ 64
  · rw [Int.min_eq_left h]
    go_enter Try.func42, Try.ntmps42
    go_wp2_with fail
    all_goals first | omega | (go_ret; exact ⟨rfl, rfl⟩)
  · have h2 : 64 < (b : Int) - a + 1 := by omega
    rw [Int.min_eq_right (by omega)]
    go_enter Try.func42, Try.ntmps42
    go_wp2_with fail
    all_goals first | omega | (go_ret; exact ⟨rfl, rfl⟩)

/- A row of decrees. -/
def encD (d : Dc) : List Value := [.int .i64 d.mon, .int .i64 d.ser, .string d.val]

theorem drow : Row 59 68 3 32 encD := by
  have hi : (Try.prog.info? 68).map (fun i => (i.zero, i.size, i.bytes)) = some (some (.agg #[.int .i64 0, .int .i64 0, .string ⟨#[]⟩]), 3, 32) := by kernel_rfl
  obtain ⟨i0, h1, h2, h3, h4⟩ := info_parts hi
  exact ⟨Try.underlying59, ⟨i0, _, h1, h2, h3, h4, rfl⟩, by decide, by decide, fun a => rfl, fun a v hv => by simp [encD] at hv; rcases hv with rfl | rfl | rfl <;> rfl⟩

/- A list of decrees that is read. -/
def DcsAt (w : World) (x : Option Addr) (L : List Dc) : Prop :=
  L.length = 0 ∨ ∃ b o, x = some ⟨b, o, none⟩ ∧ b < w.heap.size ∧ ∀ i d, L[i]? = some d → w.cell? ⟨b, o + i * 3, none⟩ = some (.int .i64 d.mon) ∧ w.cell? ⟨b, o + i * 3 + 1, none⟩ = some (.int .i64 d.ser) ∧ w.cell? ⟨b, o + i * 3 + 2, none⟩ = some (.string d.val)

theorem DcsAt.below {w w' : World} {x : Option Addr} {L : List Dc} (h : DcsAt w x L) (t : Below w.heap.size w w') : DcsAt w' x L := by
  rcases h with h0 | ⟨b, o, rfl, hb, hc⟩
  · exact .inl h0
  · exact .inr ⟨b, o, rfl, Nat.lt_of_lt_of_le hb t.size, fun i d hi => ⟨keep t (hc i d hi).1, keep t (hc i d hi).2.1, keep t (hc i d hi).2.2⟩⟩

theorem allmay_any (x : Option Addr) (n c : Nat) (L : List Dc) (w : World) (h : DcsAt w x L) (hL : L.length = n) (hn : n ≤ 140737488355328) :
    Calls Try.prog 67 #[.slice x n c] w fun e w' => e = .returned (.bool (L.all fun d => decide (1 ≤ d.ser))) ∧ Hid (Below w.heap.size w w') := by
  have HA : Hid (DcsAt w x L ∧ L.length = n) := ⟨h, hL⟩
  clear h hL
  go_enter Try.func67, Try.ntmps67
  go_wp2_with fail
  go_loopw [7, 4] (fun i _ wr => ∃ k : Nat, k ≤ n ∧ i = .int .i64 k ∧ Hid (Below w.heap.size w wr ∧ (L.take k).all (fun d => decide (1 ≤ d.ser)) = true)) (fun i _ _ => n - (intOf i).toNat)
  case atStart => exact ⟨0, by omega, rfl, Below.refl _ _, by simp⟩
  case round =>
    obtain ⟨k, hk, rfl, HR⟩ := hrel
    by_cases hlt : k < n
    · have hkn : (k : Int) < (n : Int) := by omega
      have hA := HA.out.1.below HR.out.1
      have hl2 := HA.out.2
      obtain ⟨b, o, rfl, hb, hc⟩ := hA.resolve_left (by omega)
      obtain ⟨d, hd⟩ : ∃ d, L[k]? = some d := ⟨L[k]'(by omega), List.getElem?_eq_getElem (by omega)⟩
      obtain ⟨c0, c1, c2⟩ := hc k d hd
      have hM := fun W => dmay_any d W
      have htk : (L.take (k + 1)).all (fun d => decide (1 ≤ d.ser)) = decide (1 ≤ d.ser) := by
        rw [List.take_add_one, hd, List.all_append, HR.out.2]
        simp
      have hal : decide (1 ≤ d.ser) = false → L.all (fun d => decide (1 ≤ d.ser)) = false := fun hf => by
        rw [List.all_eq_false]
        exact ⟨d, List.mem_of_getElem? hd, by simpa using hf⟩
      have HT : Hid ((L.take (k + 1)).all (fun d => decide (1 ≤ d.ser)) = decide (1 ≤ d.ser) ∧ (decide (1 ≤ d.ser) = false → L.all (fun d => decide (1 ≤ d.ser)) = false)) := ⟨htk, hal⟩
      clear hA hc hb hd htk hal hl2 HA
      obtain ⟨mon, ser, s⟩ := d
      dsimp only [dv] at *
      cases ht : decide (1 ≤ ser) with
      | true =>
        rw [ht] at hM
        rw [ht] at HT
        clear ht
        go_wp2_with (first
          | (
             go_at_call 83; refine (hM _).mono ?_; rintro e w1 ⟨rfl, hb1⟩; clear hM
             have B1 := on (al _ _) hb1
             clear hb1))
        go_roundw
        case rel => exact ⟨k + 1, by omega, by go_num, on HR.out.1 B1, HT.out.1⟩
        case measure => simp [intOf]; omega
      | false =>
        rw [ht] at hM
        rw [ht] at HT
        clear ht
        go_wp2_with (first
          | (
             go_at_call 83; refine (hM _).mono ?_; rintro e w1 ⟨rfl, hb1⟩; clear hM
             have B1 := on (al _ _) hb1
             clear hb1))
        go_ret
        exact ⟨by rw [HT.out.2 trivial]; rfl, on HR.out.1 B1⟩
    · obtain rfl : k = n := by omega
      go_wp2_with fail
      go_ret
      have := HR.out.2
      rw [List.take_of_length_le (by rw [HA.out.2]; exact Nat.le_refl _)] at this
      exact ⟨by rw [this]; rfl, HR.out.1⟩

end Go.Proofs.Ytfgfjfemaniaiaa.Px

/-
  Package paxos: readDecrees, mayState.
  Conditions: bytes that are looked at lie in memory.
-/
namespace Go.Proofs.Ytfgfjfemaniaiaa.Px
open Go.RowKit Wi By Fl Ba
set_option linter.unusedVariables false
set_option linter.unusedSimpArgs false
set_option maxRecDepth 100000

def lenV (v : Value) : Nat := match v with | .slice _ n _ => n | _ => 0

abbrev OwnD (w : World) (B : Nat) (R : Value) (L : List Dc) : Prop := Own w B 68 3 encD R L

theorem new_dc (v : World) (t : TypeId) (d : Dc) : ∀ j u, (flat encD [d])[j]? = some u → (v.alloc (.cells #[.int .i64 d.mon, .int .i64 d.ser, .string d.val] t)).cell? ((⟨v.heap.size, 0, none⟩ : Addr).add j) = some u := fun j u hj => by
  rw [add_at, Nat.zero_add]
  rw [flat_one] at hj
  match j, hj with
  | 0, hj => simpa [encD] using hj
  | 1, hj => simpa [encD] using hj
  | 2, hj => simpa [encD] using hj
  | j + 3, hj => simp [encD] at hj

/- One decree more behind a row of one's own. -/
theorem push_dc {w : World} {B : Nat} {R : Value} {L : List Dc} (h : OwnD w B R L) (hB : B ≤ w.heap.size) (d : Dc) (hs : L.length ≤ 90000) :
    ∃ x' c' w', (Builtin.append_ #[59, 59] 59 #[R, .slice (some ⟨w.heap.size, 0, none⟩) 1 1]).run Try.prog (w.alloc (.cells #[.int .i64 d.mon, .int .i64 d.ser, .string d.val] 68)) = .ok (.slice x' (L.length + 1) c') w' ∧
      Hid (OwnD w' B (.slice x' (L.length + 1) c') (L ++ [d]) ∧ Turns (fun j => R.ownBlock = some j) w w' ∧ ∀ g, (Value.slice x' (L.length + 1) c').ownBlock = some g → R.ownBlock = some g ∨ w.heap.size ≤ g) := by
  have hb := al w (.cells #[.int .i64 d.mon, .int .i64 d.ser, .string d.val] 68)
  obtain ⟨x', c', w', h1, H⟩ := (h.below hb).push drow (by simp; omega) ⟨w.heap.size, 0, none⟩ 1 1 [d] rfl (new_dc w _ d) (by omega)
  refine ⟨x', c', w', h1, H.out.1, ?_, fun g hg => ?_⟩
  · exact ((Turns.refl _ w).alloc _).trans H.out.2.1
  · rcases H.out.2.2 g hg with q | q
    · exact .inl q
    · right
      rw [q]
      simp

theorem rDcs_bad (n : Nat) (k : Nat) (l : List Nat) (e : Nat) (h : e ≠ 0) : rDcs n k l e = ([], l, e) := by
  cases k with
  | zero => rfl
  | succ k => unfold rDcs; rw [if_neg h]

theorem rDcs_ok (n : Nat) (k : Nat) (l : List Nat) : rDcs n (k + 1) l 0 = ((rDc n l 0).1 :: (rDcs n k (rDc n l 0).2.1 (rDc n l 0).2.2).1, (rDcs n k (rDc n l 0).2.1 (rDc n l 0).2.2).2) := by
  conv => lhs; unfold rDcs
  rw [if_pos rfl]

structure RSt (w wr : World) (p N n cnt : Nat) (l : List Nat) (e : Nat) (R : Value) (L : List Dc) (l' : List Nat) (e' : Nat) : Prop where
  own : OwnD wr w.heap.size R L
  rd : Rdr wr p N l' e'
  t : Turns (fun k => k = p ∨ w.heap.size ≤ k) w wr
  le : L.length ≤ cnt
  eq : rDcs n cnt l e = (L ++ (rDcs n (cnt - L.length) l' e').1, (rDcs n (cnt - L.length) l' e').2)

theorem rdcs_any {p N : Nat} {l : List Nat} {e : Nat} {w : World} (n : Nat) (hn : n ≤ 7) (c : Int) (hc : c ≤ 64) (hc0 : -4294967296 ≤ c) (h : Rdr w p N l e) (hNw : N ≤ w.heap.size) :
    Calls Try.prog 41 #[.pointer (some ⟨p, 0, none⟩), .int .i64 c, .int .i64 n] w fun ed w' => ∃ x m cy, ed = .returned (.slice x m cy) ∧ Hid (OwnD w' w.heap.size (.slice x m cy) (rDcs n c.toNat l e).1 ∧ Turns (atB p) w w' ∧ Rdr w' p N (rDcs n c.toNat l e).2.1 (rDcs n c.toNat l e).2.2) := by
  have hp := h.lt
  have HN : Hid (N ≤ w.heap.size ∧ n ≤ 7) := ⟨hNw, hn⟩
  have H0 : Hid (RSt w w p N n c.toNat l e (.slice none 0 0) [] l e) := ⟨Own.nil _ _ _ _ _, h, Turns.refl _ _, by simp, by simp⟩
  have hfin : ∀ {wr R L l' e'}, RSt w wr p N n c.toNat l e R L l' e' → (rDcs n (c.toNat - L.length) l' e' = ([], l', e')) → ∃ x m cy, R = .slice x m cy ∧ Hid (OwnD wr w.heap.size (.slice x m cy) (rDcs n c.toNat l e).1 ∧ Turns (atB p) w wr ∧ Rdr wr p N (rDcs n c.toNat l e).2.1 (rDcs n c.toNat l e).2.2) := fun {wr R L l' e'} k q => by
    obtain ⟨x, cy, rfl, _⟩ := k.own.form
    refine ⟨x, _, cy, rfl, ?_⟩
    rw [k.eq, q]
    simp only [List.append_nil]
    exact ⟨k.own, ⟨k.t.os, k.t.tape, k.t.output, k.t.size, fun i hi hg => k.t.block i hi (fun e => by rcases e with e | e; exact hg e; omega)⟩, k.rd⟩
  clear h hNw hn
  go_enter Try.func41, Try.ntmps41
  go_wp2_with fail
  go_loopw [7] (fun out wr => ∃ (x : Option Addr) (m cy : Nat) (L : List Dc) (l' : List Nat) (e' : Nat), out = .slice x m cy ∧ m = L.length ∧ Hid (RSt w wr p N n c.toNat l e (.slice x m cy) L l' e')) (fun out _ => c.toNat - lenV out)
  case atStart => exact ⟨none, 0, 0, [], l, e, rfl, rfl, H0.out⟩
  case round =>
    obtain ⟨x, m, cy, L, l', e', rfl, hm, HR⟩ := hrel
    clear H0
    by_cases hlt : (m : Int) < c
    · have hE := errR HR.out.rd
      by_cases he : e' = 0
      · subst he
        have hD := rdc_any n HN.out.2 HR.out.rd (Nat.le_trans HN.out.1 HR.out.t.size)
        have HX : Hid (∀ w1, Hid (Turns (atB p) wr w1 ∧ Rdr w1 p N (rDc n l' 0).2.1 (rDc n l' 0).2.2) → ∃ x2 c2 w2, (Builtin.append_ #[59, 59] 59 #[.slice x m cy, .slice (some ⟨w1.heap.size, 0, none⟩) 1 1]).run Try.prog (w1.alloc (.cells #[.int .i64 (rDc n l' 0).1.mon, .int .i64 (rDc n l' 0).1.ser, .string (rDc n l' 0).1.val] 68)) = .ok (.slice x2 (m + 1) c2) w2 ∧
            Hid (RSt w w2 p N n c.toNat l e (.slice x2 (m + 1) c2) (L ++ [(rDc n l' 0).1]) (rDc n l' 0).2.1 (rDc n l' 0).2.2)) := fun w1 H1 => by
          have k := HR.out
          have ho1 : OwnD w1 w.heap.size (.slice x m cy) L := k.own.turns H1.out.1 (fun g hg e => by
            have e2 : g = p := e
            have := (k.own.tb hg).1
            omega)
          obtain ⟨x2, c2, w2, h1, H2⟩ := push_dc ho1 (Nat.le_trans k.t.size H1.out.1.size) (rDc n l' 0).1 (by have := k.le; omega)
          rw [← hm] at h1 H2
          have t2 : Turns (fun k => k = p ∨ w.heap.size ≤ k) w w2 := (k.t.more H1.out.1 (fun i hi => .inl (.inl hi))).more H2.out.2.1 (fun i hi => .inr (ho1.tb hi).1)
          refine ⟨x2, c2, w2, h1, H2.out.1, H1.out.2.turns H2.out.2.1 (fun e => ?_) (fun i hi => ?_), t2, ?_, ?_⟩
          · have := (ho1.tb e).1
            omega
          · have := (ho1.tb hi).1
            have := HN.out.1
            omega
          · simp
            omega
          · rw [k.eq, List.length_append, List.length_singleton]
            obtain ⟨q, hq⟩ : ∃ q, c.toNat - L.length = q + 1 := ⟨c.toNat - L.length - 1, by omega⟩
            rw [hq, rDcs_ok, show c.toNat - (L.length + 1) = q by omega]
            simp
        generalize rDc n l' 0 = D at *
        obtain ⟨⟨mon, ser, s⟩, l2, e2⟩ := D
        dsimp only [dv] at *
        have hm2 : Hid (m = L.length) := hm
        have nI : Hid (m < c.toNat) := by show m < c.toNat; omega
        clear hm hfin
        go_wp2_with (first
          | (
             go_at_call 61; refine hE.mono ?_; rintro e w' ⟨rfl, hw'⟩; subst w'; clear hE)
          | (
             go_at_call 64; refine hD.mono ?_; rintro e w1 ⟨rfl, H1⟩; clear hD
             obtain ⟨x2, c2, w2, hap, H2⟩ := HX.out w1 H1
             clear HX)
          | (
             at_builtin; refine wpList_append_run rfl _ _ 59 rfl _ _ rfl rfl hap ?_; clear hap))
        go_roundw
        case rel => exact ⟨x2, m + 1, c2, _, _, _, rfl, by simp [hm2.out], H2.out⟩
        case measure =>
          have := nI.out
          simp [lenV]
          omega
      · have hne : ((e' : Int) == 0) = false := by simp; omega
        obtain ⟨x3, m3, c3, he3, H3⟩ := hfin HR.out (rDcs_bad n _ l' e' he)
        clear hfin HR he
        go_wp2_with (first
          | (
             go_at_call 61; refine hE.mono ?_; rintro e w' ⟨rfl, hw'⟩; subst w'; clear hE))
        go_ret
        exact ⟨x, m, cy, by rw [hm]; rfl, H3.out⟩
    · obtain ⟨x3, m3, c3, he3, H3⟩ := hfin HR.out (by
        rw [show c.toNat - L.length = 0 by omega]
        rfl)
      clear hfin HR
      go_wp2_with fail
      go_ret
      exact ⟨x, m, cy, by rw [hm]; rfl, H3.out⟩

theorem eq_z0 (b : Bt) (w : World) : (binOp .eql 72 (.agg #[.int .i64 b.1, .int .i64 b.2]) (.agg #[.int .i64 0, .int .i64 0])).run Try.prog w = .ok (.bool (zb b)) w := by
  rw [eq_bt]
  rfl

theorem maystate_any (a : Ac) (x : Option Addr) (c : Nat) (k : Nat) (hk : k ≤ 7) (w : World) (hl : Fl.Sl w x a.d.length c a.d) (hn : a.d.length ≤ 140737488355328) :
    Calls Try.prog 66 #[ac a.p a.a x a.d.length c, .int .i64 k] w fun e w' => e = .returned (.bool (mayState a k)) ∧ Hid (Below w.heap.size w w') := by
  obtain ⟨p, b, d⟩ := a
  dsimp only at *
  have hM := fun W => mayA_any p b x d.length c W
  have hD := fun W h => dof_any x d.length c d k hk W h hn
  have hz1 := fun W => eq_z0 p W
  have hz2 := fun W => eq_z0 b W
  have HL : Hid (Fl.Sl w x d.length c d) := hl
  unfold mayState
  dsimp only
  clear hl hn hk
  generalize mayA p b d.length = tm at *
  generalize zb p = tp at *
  generalize zb b = tb at *
  generalize dOf k d = td at *
  generalize d.length = n at *
  obtain ⟨p1, p2⟩ := p
  obtain ⟨a1, a2⟩ := b
  dsimp only [ac] at *
  have b0 : ∀ o, Below w.heap.size w (w.alloc o) := fun o => al _ _
  cases tm with
  | false =>
    go_enter Try.func66, Try.ntmps66
    go_wp2_with (first
      | (
         go_at_call 81; refine (hM _).mono ?_; rintro e w1 ⟨rfl, hb1⟩; clear hM))
    go_ret
    exact ⟨by simp, on (b0 _) hb1⟩
  | true =>
  cases tp with
  | true =>
    go_enter Try.func66, Try.ntmps66
    go_wp2_with (first
      | (
         go_at_call 81; refine (hM _).mono ?_; rintro e w1 ⟨rfl, hb1⟩; clear hM
         have k0 := keep hb1 (b := w.heap.size) (o := 0) (x := .int .i64 p1) (by first | assumption | go_simp)
         have k1 := keep hb1 (b := w.heap.size) (o := 1) (x := .int .i64 p2) (by first | assumption | go_simp)
         have k2 := keep hb1 (b := w.heap.size) (o := 2) (x := .int .i64 a1) (by first | assumption | go_simp)
         have k3 := keep hb1 (b := w.heap.size) (o := 3) (x := .int .i64 a2) (by first | assumption | go_simp)
         have k4 := keep hb1 (b := w.heap.size) (o := 4) (x := .slice x n c) (by first | assumption | go_simp)
         have B1 := on (b0 _) hb1; clear hb1))
    go_ret
    exact ⟨by simp, B1⟩
  | false =>
  cases tb with
  | true =>
    go_enter Try.func66, Try.ntmps66
    go_wp2_with (first
      | (
         go_at_call 81; refine (hM _).mono ?_; rintro e w1 ⟨rfl, hb1⟩; clear hM
         have k0 := keep hb1 (b := w.heap.size) (o := 0) (x := .int .i64 p1) (by first | assumption | go_simp)
         have k1 := keep hb1 (b := w.heap.size) (o := 1) (x := .int .i64 p2) (by first | assumption | go_simp)
         have k2 := keep hb1 (b := w.heap.size) (o := 2) (x := .int .i64 a1) (by first | assumption | go_simp)
         have k3 := keep hb1 (b := w.heap.size) (o := 3) (x := .int .i64 a2) (by first | assumption | go_simp)
         have k4 := keep hb1 (b := w.heap.size) (o := 4) (x := .slice x n c) (by first | assumption | go_simp)
         have B1 := on (b0 _) hb1; clear hb1))
    go_ret
    exact ⟨by simp, B1⟩
  | false =>
    go_enter Try.func66, Try.ntmps66
    go_wp2_with (first
      | (
         go_at_call 81; refine (hM _).mono ?_; rintro e w1 ⟨rfl, hb1⟩; clear hM
         have k0 := keep hb1 (b := w.heap.size) (o := 0) (x := .int .i64 p1) (by first | assumption | go_simp)
         have k1 := keep hb1 (b := w.heap.size) (o := 1) (x := .int .i64 p2) (by first | assumption | go_simp)
         have k2 := keep hb1 (b := w.heap.size) (o := 2) (x := .int .i64 a1) (by first | assumption | go_simp)
         have k3 := keep hb1 (b := w.heap.size) (o := 3) (x := .int .i64 a2) (by first | assumption | go_simp)
         have k4 := keep hb1 (b := w.heap.size) (o := 4) (x := .slice x n c) (by first | assumption | go_simp)
         have B1 := on (b0 _) hb1; clear hb1)
      | (
         go_at_call 82; refine (hD _ (HL.out.below B1)).mono ?_; rintro e w2 ⟨rfl, H2⟩; clear hD
         dsimp only [dv] at *))
    go_ret
    exact ⟨by simp, (on B1 H2.out).alloc (on B1 H2.out).size _⟩

end Go.Proofs.Ytfgfjfemaniaiaa.Px
