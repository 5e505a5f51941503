/-
  A tree's branches as they lie in memory; parts of lists.
  Conditions: none.
-/
import Derived.Test.YthiomhbehajldaaCrSmall
import Derived.Test.YthiomhbehajldaaSrMem
import Derived.Laws.Slices
namespace Go.Proofs.Ythiomhbehajldaa.Cr
open Go.RowKit By Fl At
open Sr (Wd Ws enW)
set_option linter.unusedVariables false
set_option linter.unusedSimpArgs false
set_option maxRecDepth 100000

def cutO (sz : Nat) (x : Option Addr) (c k : Nat) : Option Addr := if c = k then x else x.map (·.add (k * sz))

theorem oelem_row : Try.prog.underlying 24 = some (.slice (Try.prog.elem 24)) := by kernel_rfl
theorem oelem_is : Try.prog.elem 24 = 44 := by kernel_rfl
theorem osize (w : World) : (sizeOf 44).run Try.prog w = .ok 8 w := by kernel_rfl
theorem elemw_row : Try.prog.underlying 51 = some (.slice (Try.prog.elem 51)) := by kernel_rfl
theorem elemw_is : Try.prog.elem 51 = 63 := by kernel_rfl
theorem sizew (w : World) : (sizeOf 63).run Try.prog w = .ok 2 w := by kernel_rfl

theorem add0 (x : Option Addr) (c : Nat) : (if c = 0 then x else x.map (·.add 0)) = x := by
  split
  · rfl
  · cases x with
    | none => rfl
    | some a => simp [Addr.add]

theorem ocut_head (x : Option Addr) (n c m : Nat) (w : World) (h : m ≤ c) :
    (Instr.slice 24 (.slice x n c) none (some (.int .i64 (m : Int))) none).run Try.prog w = .ok (.slice x m c) w := by
  rw [run_slice_h w 24 _ _ _ oelem_row .i64 (m : Int) (by omega) (by omega), oelem_is, osize]
  simp only [Result.andThen, sliced, Int.toNat_natCast, Nat.zero_mul, Nat.sub_zero]
  rw [add0]
theorem ocut_from (x : Option Addr) (n c k : Nat) (w : World) (h : k ≤ n) :
    (Instr.slice 24 (.slice x n c) (some (.int .i64 (k : Int))) none none).run Try.prog w = .ok (.slice (cutO 8 x c k) (n - k) (c - k)) w := by
  rw [run_slice_l w 24 _ _ _ oelem_row .i64 (k : Int) (by omega) (by omega), oelem_is, osize]
  simp only [Result.andThen, sliced, Int.toNat_natCast]
  rfl
theorem cutw_head (x : Option Addr) (n c m : Nat) (w : World) (h : m ≤ c) :
    (Instr.slice 51 (.slice x n c) none (some (.int .i64 (m : Int))) none).run Try.prog w = .ok (.slice x m c) w := by
  rw [run_slice_h w 51 _ _ _ elemw_row .i64 (m : Int) (by omega) (by omega), elemw_is, sizew]
  simp only [Result.andThen, sliced, Int.toNat_natCast, Nat.zero_mul, Nat.sub_zero]
  rw [add0]
theorem cutw_from (x : Option Addr) (n c k : Nat) (w : World) (h : k ≤ n) :
    (Instr.slice 51 (.slice x n c) (some (.int .i64 (k : Int))) none none).run Try.prog w = .ok (.slice (cutO 2 x c k) (n - k) (c - k)) w := by
  rw [run_slice_l w 51 _ _ _ elemw_row .i64 (k : Int) (by omega) (by omega), elemw_is, sizew]
  simp only [Result.andThen, sliced, Int.toNat_natCast]
  rfl

theorem os_from {w : World} {x : Option Addr} {n c : Nat} {L : List Osd} (h : At.Os w x n c L) (k : Nat) (hk : k ≤ n) : At.Os w (cutO 8 x c k) (n - k) (c - k) (L.drop k) := by
  have hle := h.le
  have hl := h.len
  refine ⟨by rw [List.length_drop, h.len], by omega, by have := h.small; omega, fun e => ?_, ?_⟩
  · unfold cutO at e
    split at e
    · have := h.nil e; omega
    · cases x with
      | none => have := h.nil rfl; omega
      | some a => cases e
  · by_cases h0 : n - k = 0
    · exact .inl h0
    · rcases h.row with hr | ⟨b, o, rfl, hb, hc⟩
      · omega
      · refine .inr ⟨b, o + k * 8, ?_, hb, fun i a hi j v hv => ?_⟩
        · unfold cutO
          rw [if_neg (by omega)]
          simp [add_at]
        · rw [List.getElem?_drop] at hi
          have := hc (k + i) a hi j v hv
          rw [show o + k * 8 + i * 8 + j = o + (k + i) * 8 + j by omega]
          exact this

theorem ws_from {w : World} {x : Option Addr} {n c : Nat} {L : List Wd} (h : Ws w x n c L) (k : Nat) (hk : k ≤ n) : Ws w (cutO 2 x c k) (n - k) (c - k) (L.drop k) := by
  have hle := h.le
  have hl := h.len
  refine ⟨by rw [List.length_drop, h.len], by omega, by have := h.small; omega, fun e => ?_, ?_⟩
  · unfold cutO at e
    split at e
    · have := h.nil e; omega
    · cases x with
      | none => have := h.nil rfl; omega
      | some a => cases e
  · by_cases h0 : n - k = 0
    · exact .inl h0
    · rcases h.row with hr | ⟨b, o, rfl, hb, hc⟩
      · omega
      · refine .inr ⟨b, o + k * 2, ?_, hb, fun i a hi => ?_⟩
        · unfold cutO
          rw [if_neg (by omega)]
          simp [add_at]
        · rw [List.getElem?_drop] at hi
          have := hc (k + i) a hi
          rw [show o + k * 2 + i * 2 = o + (k + i) * 2 by omega]
          exact this

theorem ws_take {w : World} {x : Option Addr} {n c k : Nat} {L : List Wd} (h : Ws w x n c L) (hk : k ≤ n) : Ws w x k c (L.take k) := by
  have hl := h.len
  refine ⟨by rw [List.length_take]; omega, by have := h.le; omega, by have := h.small; omega, fun e => by have := h.nil e; omega, ?_⟩
  rcases h.row with h0 | ⟨b, o, h1, h2, h3⟩
  · exact .inl (by omega)
  · refine .inr ⟨b, o, h1, h2, fun q a hq => h3 q a ?_⟩
    rw [List.getElem?_take] at hq
    split at hq
    · exact hq
    · cases hq

theorem ws_turns {w w' : World} {G : Nat → Prop} {x : Option Addr} {n c : Nat} {L : List Wd} (h : Ws w x n c L) (t : Turns G w w') (hx : n ≠ 0 → ∀ a, x = some a → ¬ G a.block) : Ws w' x n c L := by
  refine ⟨h.len, h.le, h.small, h.nil, ?_⟩
  rcases h.row with h0 | ⟨b, o, h1, h2, h3⟩
  · exact .inl h0
  · by_cases h0 : n = 0
    · exact .inl h0
    · have hb := t.block b h2 (hx h0 _ h1)
      exact .inr ⟨b, o, h1, Nat.lt_of_lt_of_le h2 t.size, fun k a hk => ⟨(World.cell?_of_block (a := ⟨b, o + k * 2, none⟩) hb).trans (h3 k a hk).1, (World.cell?_of_block (a := ⟨b, o + k * 2 + 1, none⟩) hb).trans (h3 k a hk).2⟩⟩

/- A branch: its numbers, and what is under each. -/
structure Bv where
  x : Option Addr
  n : Nat
  c : Nat
  y : Option Addr
  m : Nat
  d : Nat

def noB : Bv := ⟨none, 0, 0, none, 0, 0⟩
def enB (v : Bv) : List Value := [.slice v.x v.n v.c, .slice v.y v.m v.d]
def vB (v : Bv) : Value := .agg #[.slice v.x v.n v.c, .slice v.y v.m v.d]

theorem brow : Row 52 54 2 48 enB := by
  have hi : (Try.prog.info? 54).map (fun i => (i.zero, i.size, i.bytes)) = some (some (.agg #[.slice none 0 0, .slice none 0 0]), 2, 48) := by kernel_rfl
  obtain ⟨i0, h1, h2, h3, h4⟩ := info_parts hi
  exact ⟨Try.underlying52, ⟨i0, _, h1, h2, h3, h4, rfl⟩, by decide, by decide, fun a => rfl, fun a v hv => by simp [enB] at hv; rcases hv with rfl | rfl <;> rfl⟩

structure Bs (w : World) (x : Option Addr) (n c : Nat) (L : List Bv) : Prop where
  len : L.length = n
  le : n ≤ c
  row : n = 0 ∨ ∃ b o, x = some ⟨b, o, none⟩ ∧ b < w.heap.size ∧ ∀ (k : Nat) (a : Bv), L[k]? = some a → w.cell? ⟨b, o + k * 2, none⟩ = some (.slice a.x a.n a.c) ∧ w.cell? ⟨b, o + k * 2 + 1, none⟩ = some (.slice a.y a.m a.d)

theorem Bs.turns {w w' : World} {G : Nat → Prop} {x : Option Addr} {n c : Nat} {L : List Bv} (h : Bs w x n c L) (t : Turns G w w') (hx : n ≠ 0 → ∀ a, x = some a → ¬ G a.block) : Bs w' x n c L := by
  refine ⟨h.len, h.le, ?_⟩
  rcases h.row with h0 | ⟨b, o, h1, h2, h3⟩
  · exact .inl h0
  · by_cases h0 : n = 0
    · exact .inl h0
    · have hb := t.block b h2 (hx h0 _ h1)
      exact .inr ⟨b, o, h1, Nat.lt_of_lt_of_le h2 t.size, fun k a hk => ⟨(World.cell?_of_block (a := ⟨b, o + k * 2, none⟩) hb).trans (h3 k a hk).1, (World.cell?_of_block (a := ⟨b, o + k * 2 + 1, none⟩) hb).trans (h3 k a hk).2⟩⟩

theorem own_bs {w : World} {B : Nat} {x : Option Addr} {n c : Nat} {L : List Bv} (h : Own w B 54 2 enB (.slice x n c) L) : Bs w x n c L := by
  obtain ⟨x', c', e, h1, h2, h3⟩ := h.form
  injection e with e1 e2 e3
  subst e1 e2 e3
  refine ⟨rfl, h1, ?_⟩
  by_cases h0 : L.length = 0
  · exact .inl h0
  · cases x with
    | none => exact .inl (h2 rfl).1
    | some ad =>
      obtain ⟨g, rfl, hB, hg⟩ := h3 ad rfl
      exact .inr ⟨g, 0, rfl, hg, fun k a hk => ⟨by rw [Nat.zero_add]; exact h.cell brow.len hk (j := 0) rfl, by rw [Nat.zero_add]; exact h.cell brow.len hk (j := 1) rfl⟩⟩

def Inn (F : Nat → Prop) (x : Option Addr) (n : Nat) : Prop := n ≠ 0 → ∀ a, x = some a → F a.block

/- The branch of a list from a level down; its blocks are among F. -/
def BrAt (w : World) (F : Nat → Prop) : Nat → Bv → List Osd → Prop
  | 0, v, S => v = noB
  | d + 1, v, S => Ws w v.x v.n v.c (wg (d + 1) S) ∧ Inn F v.x v.n ∧ ∃ U : List Bv, Bs w v.y v.m v.d U ∧ Inn F v.y v.m ∧ U.length = (wg (d + 1) S).length ∧ ∀ (k : Nat) (a : Wd) (u : Bv), (wg (d + 1) S)[k]? = some a → U[k]? = some u → BrAt w F d u (sub S (d + 1) a.id)

theorem BrAt.turns {w w' : World} {G F : Nat → Prop} (t : Turns G w w') (hF : ∀ k, F k → ¬ G k) : ∀ (d : Nat) (v : Bv) (S : List Osd), BrAt w F d v S → BrAt w' F d v S
  | 0, v, S, h => h
  | d + 1, v, S, h => by
    obtain ⟨h1, h2, U, h3, h4, h5, h6⟩ := h
    exact ⟨ws_turns h1 t (fun hn a ha => hF _ (h2 hn a ha)), h2, U, h3.turns t (fun hn a ha => hF _ (h4 hn a ha)), h4, h5, fun k a u ha hu => BrAt.turns t hF d u _ (h6 k a u ha hu)⟩

theorem BrAt.mono {w : World} {F F' : Nat → Prop} (hF : ∀ k, F k → k < w.heap.size → F' k) : ∀ (d : Nat) (v : Bv) (S : List Osd), BrAt w F d v S → BrAt w F' d v S
  | 0, v, S, h => h
  | d + 1, v, S, h => by
    obtain ⟨h1, h2, U, h3, h4, h5, h6⟩ := h
    refine ⟨h1, fun hn a ha => ?_, U, h3, fun hn a ha => ?_, h5, fun k a u ha hu => BrAt.mono hF d u _ (h6 k a u ha hu)⟩
    · rcases h1.row with q | ⟨b, o, e, hb, _⟩
      · exact absurd q hn
      · rw [e] at ha
        cases ha
        exact hF b (h2 hn _ e) hb
    · rcases h3.row with q | ⟨b, o, e, hb, _⟩
      · exact absurd q hn
      · rw [e] at ha
        cases ha
        exact hF b (h4 hn _ e) hb

theorem BrAt.below {w w' : World} {F : Nat → Prop} (t : Below w.heap.size w w') (d : Nat) (v : Bv) (S : List Osd) (h : BrAt w F d v S) : BrAt w' F d v S := BrAt.turns (G := fun _ => False) (Turns.of_below t) (fun _ _ h => h) d v S h

/- How many at a list's beginning are in one domain. -/
def tg (k : Int) (d : Nat) (L : List Osd) : Nat := match L.findIdx? (fun o => !decide (kO d o = k)) with | some i => i | none => L.length

theorem tg_facts (k : Int) (d : Nat) (L : List Osd) : tg k d L ≤ L.length ∧ (∀ o ∈ L.take (tg k d L), kO d o = k) ∧ ∀ o, L[tg k d L]? = some o → kO d o ≠ k := by
  unfold tg
  cases h : L.findIdx? (fun o => !decide (kO d o = k)) with
  | none =>
    refine ⟨Nat.le_refl _, fun o ho => ?_, fun o ho => ?_⟩
    · obtain ⟨j, hj⟩ := List.mem_iff_getElem?.1 (List.mem_of_mem_take ho)
      have := idx_none h j o hj
      simpa using this
    · have := (List.getElem?_eq_some_iff.1 ho).1
      dsimp only at this
      omega
  | some i =>
    obtain ⟨a, ha, hp, hj⟩ := idx_some h
    have hi := (List.getElem?_eq_some_iff.1 ha).1
    refine ⟨by dsimp only; omega, fun o ho => ?_, fun o ho => ?_⟩
    · dsimp only at ho
      obtain ⟨j, hj2⟩ := List.mem_iff_getElem?.1 ho
      rw [List.getElem?_take] at hj2
      split at hj2
      · rename_i hlt
        have := hj j o hlt hj2
        simpa using this
      · cases hj2
    · dsimp only at ho
      rw [ha] at ho
      cases ho
      simpa using hp

theorem tg_pos {k : Int} {d : Nat} {L : List Osd} {a : Osd} (h : L[0]? = some a) (hk : kO d a = k) : 1 ≤ tg k d L := by
  obtain ⟨h1, h2, h3⟩ := tg_facts k d L
  rcases Nat.eq_zero_or_pos (tg k d L) with e | e
  · rw [e] at h3
    exact absurd hk (h3 a h)
  · exact e

/- Sorted from a level down. -/
def LexD : Nat → Osd → Osd → Prop
  | 0, _, _ => False
  | d + 1, a, b => kO (d + 1) a < kO (d + 1) b ∨ kO (d + 1) a = kO (d + 1) b ∧ LexD d a b
def Srt (d : Nat) (S : List Osd) : Prop := S.Pairwise (fun a b => ¬ LexD d b a)

theorem Srt.le {d : Nat} {S : List Osd} (h : Srt (d + 1) S) {i j : Nat} {a b : Osd} (hi : S[i]? = some a) (hj : S[j]? = some b) (hij : i < j) : kO (d + 1) a ≤ kO (d + 1) b := by
  obtain ⟨q1, e1⟩ := List.getElem?_eq_some_iff.1 hi
  obtain ⟨q2, e2⟩ := List.getElem?_eq_some_iff.1 hj
  have := List.pairwise_iff_getElem.1 h i j q1 q2 hij
  rw [e1, e2] at this
  unfold LexD at this
  omega

theorem Srt.part {d : Nat} {S : List Osd} {k : Int} (h : Srt (d + 1) S) (hk : ∀ o ∈ S, kO (d + 1) o = k) : Srt d S := by
  unfold Srt at h ⊢
  refine List.Pairwise.imp_of_mem (fun {a b} ha hb hab => ?_) h
  intro hl
  apply hab
  unfold LexD
  exact .inr ⟨by rw [hk a ha, hk b hb], hl⟩

theorem Srt.rest {d : Nat} {S : List Osd} (h : Srt d S) (k : Nat) : Srt d (S.drop k) := List.Pairwise.sublist (List.drop_sublist k S) h
theorem Srt.first {d : Nat} {S : List Osd} (h : Srt d S) (k : Nat) : Srt d (S.take k) := List.Pairwise.sublist (List.take_sublist k S) h

/- Behind a group all numbers are greater. -/
theorem tg_more {d : Nat} {S : List Osd} {a : Osd} (h : Srt (d + 1) S) (ha : S[0]? = some a) : ∀ o ∈ S.drop (tg (kO (d + 1) a) (d + 1) S), kO (d + 1) a < kO (d + 1) o := by
  intro o ho
  obtain ⟨h1, h2, h3⟩ := tg_facts (kO (d + 1) a) (d + 1) S
  have hp := tg_pos (d := d + 1) ha rfl
  obtain ⟨j, hj⟩ := List.mem_iff_getElem?.1 ho
  rw [List.getElem?_drop] at hj
  have hle := h.le ha hj (by omega)
  have hne : kO (d + 1) o ≠ kO (d + 1) a := by
    have hlt := (List.getElem?_eq_some_iff.1 hj).1
    obtain ⟨b, hb⟩ : ∃ b, S[tg (kO (d + 1) a) (d + 1) S]? = some b := ⟨_, List.getElem?_eq_getElem (by omega)⟩
    have q1 := h3 b hb
    have q2 := h.le ha hb (by omega)
    by_cases e : j = 0
    · subst e
      rw [Nat.add_zero, hb] at hj
      cases hj
      exact q1
    · have q3 := h.le hb hj (by omega)
      omega
  omega

end Go.Proofs.Ythiomhbehajldaa.Cr
