/-
  A flight beside the statement's own lists.
  Conditions: none.
-/
import Derived.Test.YtmekbbddfmmbeaaFlOut
import Derived.Test.YtmekbbddfmmbeaaFlAwake
import Derived.Test.YtmekbbddfmmbeaaFlItem
namespace Go.Proofs.Ytmekbbddfmmbeaa.Fl
open Go.RowKit By
set_option linter.unusedVariables false
set_option linter.unusedSimpArgs false
set_option maxRecDepth 100000

def toL (m : MV) : LM := ⟨m.fr, m.to, str m.d⟩

structure Pair (w0 w : World) (p mb nb q k : Nat) (D : DataW Value) (R Rl Rp : Value) (L : List MV) (PP : List (Int × Int)) : Prop where
  bel : Below w0.heap.size w0 w
  fl : FlAt w w0.heap.size p mb nb D R L (prt PP)
  md : MdAt w w0.heap.size q Rl Rp (L.map toL) PP
  hl : L.length ≤ k
  hp : PP.length ≤ k
  hn : nb ≤ k

def Both (w0 w : World) (p q k : Nat) : Prop := ∃ mb nb D R Rl Rp L PP, Pair w0 w p mb nb q k D R Rl Rp L PP

section
variable {w0 w w' : World} {p mb nb q k : Nat} {D : DataW Value} {R Rl Rp : Value} {L : List MV} {PP : List (Int × Int)}

theorem Pair.below (h : Pair w0 w p mb nb q k D R Rl Rp L PP) (t : Below w.heap.size w w') : Pair w0 w' p mb nb q k D R Rl Rp L PP :=
  ⟨h.bel.trans (t.mono h.bel.size), h.fl.below t, h.md.below t, h.hl, h.hp, h.hn⟩

theorem Pair.more (h : Pair w0 w p mb nb q k D R Rl Rp L PP) : Both w0 w p q (k + 1) := ⟨mb, nb, D, R, Rl, Rp, L, PP, h.bel, h.fl, h.md, Nat.le_succ_of_le h.hl, Nat.le_succ_of_le h.hp, Nat.le_succ_of_le h.hn⟩

theorem Both.below (h : Both w0 w p q k) (t : Below w.heap.size w w') : Both w0 w' p q k := by
  obtain ⟨mb, nb, D, R, Rl, Rp, L, PP, h⟩ := h
  exact ⟨mb, nb, D, R, Rl, Rp, L, PP, h.below t⟩

/- The flight has turned, the lists have not. -/
theorem Pair.flight {nb' : Nat} {D' : DataW Value} {R' : Value} {L' : List MV} {S' : Int → Int → Bool} (h : Pair w0 w p mb nb q k D R Rl Rp L PP) (t : Turns (fp p mb R) w w') :
    Below w0.heap.size w0 w' ∧ MdAt w' w0.heap.size q Rl Rp (L.map toL) PP :=
  ⟨h.bel.trans (h.fl.out t h.fl.bw), h.md.apart t (fun k hk => (h.fl.foot k hk).2)⟩

/- The lists have turned, the flight has not. -/
theorem Pair.lists (h : Pair w0 w p mb nb q k D R Rl Rp L PP) (t : Turns (gp q Rl Rp) w w') : Below w0.heap.size w0 w' ∧ FlAt w' w0.heap.size p mb nb D R L (prt PP) :=
  ⟨h.bel.trans (t.below (fun k hk => (h.md.foot k hk).1) h.fl.bw), h.fl.apart t (fun k hk => apart_ty (h.md.foot k hk).2)⟩

theorem map_del (k : Nat) : (del L k).map toL = del (L.map toL) k := by simp [del, List.map_take, List.map_drop]

/- An act of the law in memory: the block that 'does' makes of it. -/
theorem act_kept {g : Nat} (h : Tb w g 33) (hp : Pair w0 w p mb nb q k D R Rl Rp L PP) : ¬ fp p mb R g ∧ ¬ gp q Rl Rp g := by
  refine ⟨fun e => ?_, fun e => ?_⟩
  · rcases (hp.fl.foot _ e).2 with q | q | q
    · have := h.same q; revert this; decide
    · have := h.same q; revert this; decide
    · exact h.not_map q
  · rcases (hp.md.foot _ e).2 with q | q | q <;> (have := h.same q; revert this; decide)

end

section
variable {w : World} {B q : Nat} {Rl Rp : Value} {LL : List LM} {PP : List (Int × Int)}

/- One message more in the statement's list. -/
theorem MdAt.pushL (h : MdAt w B q Rl Rp LL PP) (hl : LL.length ≤ 50000) (f t : Int) (s : ByteArray) :
    ∃ x' c' w3, (Builtin.append_ #[26, 26] 26 #[Rl, .slice (some ⟨w.heap.size, 0, none⟩) 1 1]).run Try.prog (w.alloc (.cells #[.int .i64 f, .int .i64 t, .string s] 39)) = .ok (.slice x' (LL.length + 1) c') w3 ∧
      (w.alloc (.cells #[.int .i64 f, .int .i64 t, .string s] 39)).cell? ⟨q, 0, none⟩ = some Rl ∧ w3.cell? ⟨q, 0, none⟩ = some Rl ∧ w3.frozen? ⟨q, 0, none⟩ = false ∧
      Hid (MdAt (w3.setCell ⟨q, 0, none⟩ (.slice x' (LL.length + 1) c')) B q (.slice x' (LL.length + 1) c') Rp (LL ++ [⟨f, t, s⟩]) PP ∧ Turns (gp q Rl Rp) w (w3.setCell ⟨q, 0, none⟩ (.slice x' (LL.length + 1) c')) ∧ Turns (gp q Rl Rp) w w3) := by
  have b1 : Below w.heap.size w (w.alloc (.cells #[.int .i64 f, .int .i64 t, .string s] 39)) := (Below.refl _ _).alloc (Nat.le_refl _) _
  have h1 := h.below b1
  have hBw : B ≤ w.heap.size := Nat.le_trans h.bq (Nat.le_of_lt h.obj.lt)
  obtain ⟨x', c', w3, hap, H⟩ := h1.l.push lrow (by simp; omega) ⟨w.heap.size, 0, none⟩ 1 1 [⟨f, t, s⟩] rfl (fun j u hj => by
    rw [add_at, Nat.zero_add]
    rw [flat_one] at hj
    match j, hj with
    | 0, hj => simpa [encL] using hj
    | 1, hj => simpa [encL] using hj
    | 2, hj => simpa [encL] using hj
    | j + 3, hj => simp [encL] at hj) (by omega)
  obtain ⟨ho, T, _⟩ := H.out
  obtain ⟨q1, q2, q3, q4⟩ := h1.setL T ho
  exact ⟨x', c', w3, hap, h1.c0, q1, q2, q4, (Turns.of_below b1).trans q3, (Turns.of_below b1).trans (T.weak (fun k hk => .inr (.inl hk)))⟩

/- One pair more. -/
theorem MdAt.pushP (h : MdAt w B q Rl Rp LL PP) (hl : PP.length ≤ 50000) (a b : Int) :
    ∃ x' c' w3, (Builtin.append_ #[27, 27] 27 #[Rp, .slice (some ⟨w.heap.size, 0, none⟩) 1 1]).run Try.prog (w.alloc (.cells #[.int .i64 a, .int .i64 b] 55)) = .ok (.slice x' (PP.length + 1) c') w3 ∧
      (w.alloc (.cells #[.int .i64 a, .int .i64 b] 55)).cell? ⟨q, 1, none⟩ = some Rp ∧ w3.cell? ⟨q, 1, none⟩ = some Rp ∧ w3.frozen? ⟨q, 1, none⟩ = false ∧
      Hid (MdAt (w3.setCell ⟨q, 1, none⟩ (.slice x' (PP.length + 1) c')) B q Rl (.slice x' (PP.length + 1) c') LL (PP ++ [(a, b)]) ∧ Turns (gp q Rl Rp) w (w3.setCell ⟨q, 1, none⟩ (.slice x' (PP.length + 1) c')) ∧ Turns (gp q Rl Rp) w w3) := by
  have b1 : Below w.heap.size w (w.alloc (.cells #[.int .i64 a, .int .i64 b] 55)) := (Below.refl _ _).alloc (Nat.le_refl _) _
  have h1 := h.below b1
  have hBw : B ≤ w.heap.size := Nat.le_trans h.bq (Nat.le_of_lt h.obj.lt)
  obtain ⟨x', c', w3, hap, H⟩ := h1.p.push prow (by simp; omega) ⟨w.heap.size, 0, none⟩ 1 1 [(a, b)] rfl (fun j u hj => by
    rw [add_at, Nat.zero_add]
    rw [flat_one] at hj
    match j, hj with
    | 0, hj => simpa [encP] using hj
    | 1, hj => simpa [encP] using hj
    | j + 2, hj => simp [encP] at hj) (by omega)
  obtain ⟨ho, T, _⟩ := H.out
  obtain ⟨q1, q2, q3, q4⟩ := h1.setP T ho
  exact ⟨x', c', w3, hap, h1.c1, q1, q2, q4, (Turns.of_below b1).trans q3, (Turns.of_below b1).trans (T.weak (fun k hk => .inr (.inr hk)))⟩

end

/- Cells of a block that is kept. -/
def CellsAt (v : World) (g : Nat) (vs : List Value) : Prop := ∀ j u, vs[j]? = some u → v.cell? ⟨g, j, none⟩ = some u

theorem CellsAt.keep {v v' : World} {g : Nat} {vs : List Value} (h : CellsAt v g vs) (e : v'.heap[g]? = v.heap[g]?) : CellsAt v' g vs := fun j u hj => (World.cell?_of_block (a := ⟨g, j, none⟩) e).trans (h j u hj)

end Go.Proofs.Ytmekbbddfmmbeaa.Fl
