/-
  Lists of bytes, and readers, as they lie in memory, and what stores, new blocks and draws make of them.
  Conditions: none.
-/
import Derived.Test.YtjodeceaogngfaaByRows
import Derived.Test.YtjodeceaogngfaaWiPlain
import Derived.ArgAppend
import Derived.Laws.BitsAllLaws
namespace Go.Proofs.Ytjodeceaogngfaa
open Go.RowKit Wi By
set_option linter.unusedVariables false
set_option linter.unusedSimpArgs false
set_option maxRecDepth 100000

def gl (l : List Nat) (i : Nat) : Nat := l.getD i 0

theorem gl_lt {l : List Nat} (h : ∀ v ∈ l, v < 256) (i : Nat) : gl l i < 256 := by
  unfold gl
  by_cases hi : i < l.length
  · have := h l[i] (List.getElem_mem hi)
    simpa [hi] using this
  · simp [Nat.le_of_not_lt hi]

theorem gl_append (l k : List Nat) (i : Nat) : gl (l ++ k) i = if i < l.length then gl l i else gl k (i - l.length) := by
  unfold gl
  split
  · rename_i h; simp [List.getD, List.getElem?_append_left h]
  · rename_i h; simp [List.getD, List.getElem?_append_right (Nat.le_of_not_lt h)]

theorem gl_drop (l : List Nat) (k i : Nat) : gl (l.drop k) i = gl l (k + i) := by simp [gl, List.getD, List.getElem?_drop]

theorem gl_take (l : List Nat) {k i : Nat} (h : i < k) : gl (l.take k) i = gl l i := by simp [gl, List.getD, List.getElem?_take, h]

def cellsL (l : List Nat) : List Value := l.map fun (n : Nat) => Value.int .u8 (n : Int)

theorem bytesOf_gl (l : List Nat) : bytesOf (gl l) l.length = cellsL l := by
  apply List.ext_getElem?
  intro i
  by_cases hi : i < l.length
  · simp [bytesOf, cellsL, gl, hi]
  · simp [bytesOf, cellsL, hi]

structure Sl (w : World) (x : Option Addr) (n c : Nat) (l : List Nat) : Prop where
  len : l.length = n
  le : n ≤ c
  nil : x = none → c = 0
  row : RowAt w x n (gl l)
  lt : ∀ v ∈ l, v < 256

theorem Sl.below {w w' : World} {x : Option Addr} {n c : Nat} {l : List Nat} (h : Sl w x n c l) (hb : Below w.heap.size w w') : Sl w' x n c l := ⟨h.len, h.le, h.nil, h.row.below hb, h.lt⟩

theorem wrow_heap {w v : World} {x : Option Addr} {n : Nat} {f : Nat → Nat} (h : RowAt w x n f) (e : v.heap = w.heap) : RowAt v x n f := by
  rcases h with h | ⟨b, o, h1, h2, h3⟩
  · exact .inl h
  · refine .inr ⟨b, o, h1, by rw [e]; exact h2, fun i hi => ?_⟩
    rw [← h3 i hi]
    exact World.cell?_of_block (by rw [e])

theorem Sl.empty (w : World) : Sl w none 0 0 [] := ⟨rfl, Nat.le_refl _, fun _ => rfl, .inl rfl, fun v hv => by cases hv⟩

theorem Sl.heap {w v : World} {x : Option Addr} {n c : Nat} {l : List Nat} (h : Sl w x n c l) (e : v.heap = w.heap) : Sl v x n c l := ⟨h.len, h.le, h.nil, wrow_heap h.row e, h.lt⟩

theorem Sl.nil' {w : World} {x : Option Addr} {n c : Nat} {l : List Nat} (h : Sl w x n c l) : x = Option.none → n = 0 ∧ c = 0 := fun e => by
  have := h.nil e
  have := h.le
  omega

theorem Sl.of_in {w : World} {x : Option Addr} {n c : Nat} {f : Nat → Nat} (h : BytesIn w x n c f) : Sl w x n c ((List.range n).map f) := by
  refine ⟨by simp, h.le, fun e => (h.nil e).2, h.row.congr fun i hi => by simp [gl, hi], fun v hv => ?_⟩
  simp only [List.mem_map] at hv
  obtain ⟨i, _, rfl⟩ := hv
  exact h.lt i

theorem wcell_of_heap {w : World} {g i : Nat} {L : List Value} {t : TypeId} {p : Nat × Nat} (h : w.heap[g]? = some (.cells L.toArray t p)) : w.cell? ⟨g, i, none⟩ = L[i]? := by
  simp [World.cell?, h]

theorem frozen_new (w : World) (cs : Array Value) (t : TypeId) (j : Nat) : (w.alloc (.cells cs t)).frozen? ⟨w.heap.size, j, none⟩ = false := by
  unfold World.frozen?
  rw [heap_alloc_new]
  simp

/- A row of one's own. -/
def OwnL (w : World) (base : Nat) (v : Value) (l : List Nat) : Prop := w.ownsRow base 5 1 v l.length (cellsL l)

theorem OwnL.start (w : World) (base : Nat) : OwnL w base (.slice none 0 0) [] := ⟨rfl, .inl ⟨rfl, rfl⟩⟩

theorem OwnL.sl {w : World} {base : Nat} {v : Value} {l : List Nat} (h : OwnL w base v l) (hl : ∀ u ∈ l, u < 256) :
    ∃ x c, v = .slice x l.length c ∧ Sl w x l.length c l ∧ ∀ a, x = some a → base ≤ a.block ∧ a.block < w.heap.size := by
  by_cases hv : v = .slice none 0 0
  · subst hv
    rcases h.2 with ⟨_, h0⟩ | ⟨g, c, cur, h1, _⟩
    · have : l = [] := List.eq_nil_of_length_eq_zero h0
      subst this
      exact ⟨none, 0, rfl, Sl.empty w, fun a ha => by cases ha⟩
    · cases h1
  · have h' := h
    unfold OwnL at h'
    rw [← bytesOf_gl] at h'
    obtain ⟨g, c, rfl, h1, h2, h3, _, h4⟩ := own_rowAt h' hv
    refine ⟨some ⟨g, 0, none⟩, c, rfl, ⟨rfl, h3, (fun e => by cases e), h4, hl⟩, fun a ha => ?_⟩
    cases ha
    exact ⟨h1, h2⟩

theorem OwnL.mono {w : World} {B base : Nat} {v : Value} {l : List Nat} (h : OwnL w base v l) (hB : B ≤ base) : OwnL w B v l := by
  refine ⟨h.1, ?_⟩
  rcases h.2 with h0 | ⟨g, c, cur, h1, h2, h3⟩
  · exact .inl h0
  · exact .inr ⟨g, c, cur, h1, Nat.le_trans hB h2, h3⟩

theorem OwnL.alloc {w : World} {base : Nat} {v : Value} {l : List Nat} (h : OwnL w base v l) (ob : Obj) : OwnL (w.alloc ob) base v l := World.ownsRow.alloc h ob

theorem OwnL.below {w w' : World} {base : Nat} {v : Value} {l : List Nat} (h : OwnL w base v l) (hb : Below w.heap.size w w') : OwnL w' base v l :=
  World.ownsRow.kept (row := none) h ⟨hb.os, hb.tape, hb.output, hb.size, fun i hi _ => hb.block i hi⟩ (by
    cases hv : v.ownBlock with
    | none => exact .inl rfl
    | some x => exact .inr (by simp))

theorem push_list (w w0 : World) (base : Nat) (R : Value) (l : List Nat) (hown : OwnL w base R l) (hb : base ≤ w.heap.size) (h0 : Below base w0 w)
    (x : Option Addr) (m c : Nat) (k : List Nat) (hk : Sl w x m c k) (hs : l.length + m ≤ 140737488355328) :
    ∃ R' w', (Builtin.append_ #[22, 22] 22 #[R, .slice x m c]).run Try.prog w = .ok R' w' ∧ OwnL w' base R' (l ++ k) ∧ Below base w0 w' := by
  have hown' : w.ownsRow base 5 1 R l.length (bytesOf (gl l) l.length) := by rw [bytesOf_gl]; exact hown
  obtain ⟨R', w', h1, h2, h3, _⟩ := push_row w w0 base R l.length (gl l) hown' hb h0 x m c (gl k) hk.nil' hk.row hs
  refine ⟨R', w', h1, ?_, h3⟩
  have e : bytesOf (fun i => if i < l.length then gl l i else gl k (i - l.length)) (l.length + m) = cellsL (l ++ k) := by
    rw [← bytesOf_gl, List.length_append, hk.len]
    exact List.map_congr_left fun i _ => by rw [gl_append]
  rw [e] at h2
  unfold OwnL
  rw [List.length_append, hk.len]
  exact h2

/- One byte more. -/
theorem push_one (w w0 : World) (base : Nat) (R : Value) (l : List Nat) (v : Nat) (hv : v < 256) (hown : OwnL w base R l) (hb : base ≤ w.heap.size) (h0 : Below base w0 w) (hs : l.length ≤ 1000) :
    ∃ R' w', (Builtin.append_ #[22, 22] 22 #[R, .slice (some ⟨w.heap.size, 0, none⟩) 1 1]).run Try.prog (w.alloc (.cells #[.int .u8 (v : Int)] 5)) = .ok R' w' ∧ OwnL w' base R' (l ++ [v]) ∧ Below base w0 w' := by
  refine push_list _ w0 base R l (hown.alloc _) (by simp; omega) (h0.alloc hb _) _ 1 1 [v] ⟨rfl, Nat.le_refl _, (fun e => by cases e), ?_, fun u hu => by simp at hu; omega⟩ (by omega)
  refine .inr ⟨w.heap.size, 0, rfl, by simp, fun i hi => ?_⟩
  obtain rfl : i = 0 := by omega
  simp [gl]

/- Behind a list that is cut off at its end there is no room. -/
theorem push_cut (w : World) (x : Option Addr) (n : Nat) (l : List Nat) (c : Nat) (hl : Sl w x n c l) (y : Option Addr) (m d : Nat) (k : List Nat) (hk : Sl w y m d k) (hm : 0 < m) (hs : n + m ≤ 140737488355328) :
    ∃ R' w', (Builtin.append_ #[22, 22] 22 #[.slice x n n, .slice y m d]).run Try.prog w = .ok R' w' ∧ OwnL w' w.heap.size R' (l ++ k) ∧ Below w.heap.size w w' := by
  cases x with
  | none =>
    have h0 := hl.nil' rfl
    have hn := h0.1
    subst hn
    have hl0 : l = [] := List.eq_nil_of_length_eq_zero hl.len
    subst hl0
    exact push_list w w w.heap.size (.slice none 0 0) [] (OwnL.start w _) (Nat.le_refl _) (Below.refl _ _) y m d k hk (by simp; omega)
  | some a =>
    obtain ⟨i0, hi, hz0, hz1, hz2⟩ := info_parts info_byte
    rcases hk.row with hk0 | ⟨b, o, rfl, _, hkc⟩
    · omega
    obtain ⟨R', w', h1, h2, h3⟩ := run_append_arg_grows (P := Try.prog) w 22 22 5 i0 (.int .u8 0) 1 1 Try.underlying22 hi hz0 hz1 hz2 rfl (by decide) a n n (cellsL l) (by simp [cellsL, hl.len])
      (fun j u hj => by
        have hjn : j < n := by
          have := (List.getElem?_eq_some_iff.1 hj).1
          simpa [cellsL, hl.len] using this
        have e : u = .int .u8 (gl l j : Int) := by simp [cellsL] at hj; obtain ⟨q, hq, rfl⟩ := hj; simp [gl, hq]
        rcases hl.row with h0 | ⟨b', o', ha, _, hc⟩
        · omega
        · injection ha with ha
          subst ha
          rw [e, add_at]
          exact hc j hjn)
      ⟨b, o, none⟩ m d (cellsL k) (by simp [cellsL, hk.len])
      (fun j u hj => by
        have hjn : j < m := by
          have := (List.getElem?_eq_some_iff.1 hj).1
          simpa [cellsL, hk.len] using this
        have e : u = .int .u8 (gl k j : Int) := by simp [cellsL] at hj; obtain ⟨q, hq, rfl⟩ := hj; simp [gl, hq]
        rw [e, add_at]
        exact hkc j hjn) (by omega) (by unfold maxLen; omega) (by omega)
    refine ⟨R', w', h1, ?_, ⟨h3.os, h3.tape, h3.output, h3.size, fun q hq => h3.block q hq (by simp)⟩⟩
    unfold OwnL
    rw [List.length_append, hl.len, hk.len]
    simpa [cellsL] using h2

/- Cut lists. -/
theorem welem_row : Try.prog.underlying 22 = some (.slice (Try.prog.elem 22)) := by kernel_rfl
theorem welem_is : Try.prog.elem 22 = 5 := by kernel_rfl
theorem wsize_byte (w : World) : (sizeOf 5).run Try.prog w = .ok 1 w := by kernel_rfl

theorem cut_end (x : Option Addr) (n c : Nat) (w : World) (h : n ≤ c) :
    (Instr.slice 22 (.slice x n c) none (some (.int .i64 (n : Int))) (some (.int .i64 (n : Int)))).run Try.prog w = .ok (.slice x n n) w := by
  rw [run_slice_hm w 22 _ _ _ welem_row .i64 .i64 (n : Int) (n : Int) (by omega) (by omega) (by omega), welem_is, wsize_byte]
  simp only [Result.andThen, sliced, Int.toNat_natCast, Nat.zero_mul, Nat.sub_zero]
  have : (if n = 0 then x else x.map (·.add 0)) = x := by
    split
    · rfl
    · cases x with
      | none => rfl
      | some a => simp [Addr.add]
  rw [this]

theorem cut_head (x : Option Addr) (n c m : Nat) (w : World) (h : m ≤ c) :
    (Instr.slice 22 (.slice x n c) none (some (.int .i64 (m : Int))) none).run Try.prog w = .ok (.slice x m c) w := by
  rw [run_slice_h w 22 _ _ _ welem_row .i64 (m : Int) (by omega) (by omega), welem_is, wsize_byte]
  simp only [Result.andThen, sliced, Int.toNat_natCast, Nat.zero_mul, Nat.sub_zero]
  have : (if c = 0 then x else x.map (·.add 0)) = x := by
    split
    · rfl
    · cases x with
      | none => rfl
      | some a => simp [Addr.add]
  rw [this]

theorem Sl.head {w : World} {x : Option Addr} {n c : Nat} {l : List Nat} (h : Sl w x n c l) (m : Nat) (hm : m ≤ n) : Sl w x m c (l.take m) :=
  ⟨by rw [List.length_take, h.len]; omega, Nat.le_trans hm h.le, h.nil, (h.row.take hm).congr fun i hi => (gl_take l hi).symm, fun v hv => h.lt v (List.mem_of_mem_take hv)⟩

def cutTo (x : Option Addr) (c k : Nat) : Option Addr := if c = k then x else x.map (·.add k)

theorem wcut_from (x : Option Addr) (n c k : Nat) (w : World) (h : k ≤ n) :
    (Instr.slice 22 (.slice x n c) (some (.int .i64 (k : Int))) none none).run Try.prog w = .ok (.slice (cutTo x c k) (n - k) (c - k)) w := by
  rw [run_slice_l w 22 _ _ _ welem_row .i64 (k : Int) (by omega) (by omega), welem_is, wsize_byte]
  simp only [Result.andThen, sliced, Int.toNat_natCast, Nat.mul_one]
  rfl

theorem cutTo_block {x : Option Addr} {c k : Nat} {a : Addr} (h : cutTo x c k = some a) : ∃ a', x = some a' ∧ a'.block = a.block := by
  unfold cutTo at h
  split at h
  · exact ⟨a, h, rfl⟩
  · cases x with
    | none => cases h
    | some a' =>
      simp at h
      refine ⟨a', rfl, ?_⟩
      rw [← h]
      unfold Addr.add
      split <;> rfl

theorem Sl.from {w : World} {x : Option Addr} {n c : Nat} {l : List Nat} (h : Sl w x n c l) (k : Nat) (hk : k ≤ n) : Sl w (cutTo x c k) (n - k) (c - k) (l.drop k) := by
  have hle := h.le
  refine ⟨by rw [List.length_drop, h.len], by omega, fun e => ?_, ?_, fun v hv => h.lt v (List.mem_of_mem_drop hv)⟩
  · unfold cutTo at e
    split at e
    · omega
    · cases x with
      | none => have := h.nil rfl; omega
      | some a => cases e
  · by_cases h0 : n - k = 0
    · exact .inl h0
    · rcases h.row with hr | ⟨b, o, rfl, hb, hc⟩
      · omega
      · refine .inr ⟨b, o + k, ?_, hb, fun i hi => ?_⟩
        · unfold cutTo
          rw [if_neg (by omega)]
          simp [add_at]
        · rw [gl_drop, Nat.add_assoc]
          exact hc (k + i) (by omega)

/- One block alone is written. -/
structure Turn (g : Nat) (w w' : World) : Prop where
  os : w'.os = w.os
  tape : w'.tape = w.tape
  output : w'.output = w.output
  size : w.heap.size ≤ w'.heap.size
  block : ∀ k, k < w.heap.size → k ≠ g → w'.heap[k]? = w.heap[k]?

theorem Turn.refl (g : Nat) (w : World) : Turn g w w := ⟨rfl, rfl, rfl, Nat.le_refl _, fun _ _ _ => rfl⟩

theorem Turn.trans {g : Nat} {a b c : World} (h : Turn g a b) (k : Turn g b c) : Turn g a c :=
  ⟨k.os.trans h.os, k.tape.trans h.tape, k.output.trans h.output, Nat.le_trans h.size k.size, fun i hi hg => (k.block i (Nat.lt_of_lt_of_le hi h.size) hg).trans (h.block i hi hg)⟩

theorem Turn.of_below {g : Nat} {w w' : World} (h : Below w.heap.size w w') : Turn g w w' := ⟨h.os, h.tape, h.output, h.size, fun k hk _ => h.block k hk⟩

theorem Turn.drewN {g : Nat} {a w : World} (h : Turn g a w) (n : Nat) : Turn g a (w.drewN n) := ⟨h.os, h.tape, h.output, h.size, h.block⟩
theorem Turn.drew {g : Nat} {a w : World} (h : Turn g a w) : Turn g a w.drew := ⟨h.os, h.tape, h.output, h.size, h.block⟩

theorem Turn.setCell {g : Nat} {a w : World} (h : Turn g a w) {p : Addr} (hp : p.block = g) (u : Value) : Turn g a (w.setCell p u) :=
  h.trans ⟨rfl, rfl, rfl, by simp [World.setCell], fun k _ hk => Below.heap_setCell _ _ _ _ (by rw [hp]; exact hk)⟩

theorem Turn.below {g base : Nat} {w w' : World} (h : Turn g w w') (hg : base ≤ g) (hs : base ≤ w.heap.size) : Below base w w' :=
  ⟨h.os, h.tape, h.output, h.size, fun k hk => h.block k (by omega) (by omega)⟩

theorem Turn.cell {g : Nat} {w w' : World} (h : Turn g w w') {p : Addr} (hp : p.block ≠ g) (hs : p.block < w.heap.size) : w'.cell? p = w.cell? p := World.cell?_of_block (w := w) (h.block p.block hs hp)

theorem Turn.frozen {g : Nat} {w w' : World} (h : Turn g w w') {p : Addr} (hp : p.block ≠ g) (hs : p.block < w.heap.size) : w'.frozen? p = w.frozen? p := World.frozen?_of_block (w := w) (h.block p.block hs hp)

theorem Sl.turn {w w' : World} {x : Option Addr} {n c : Nat} {l : List Nat} {g : Nat} (h : Sl w x n c l) (t : Turn g w w') (ha : ∀ a, x = some a → a.block ≠ g) : Sl w' x n c l := by
  refine ⟨h.len, h.le, h.nil, ?_, h.lt⟩
  rcases h.row with h0 | ⟨b, o, hx, hb, hc⟩
  · exact .inl h0
  · exact .inr ⟨b, o, hx, Nat.lt_of_lt_of_le hb t.size, fun i hi => (t.cell (p := ⟨b, o + i, none⟩) (ha ⟨b, o, none⟩ hx) hb).trans (hc i hi)⟩

theorem Sl.turn0 {w w' : World} {x : Option Addr} {n c : Nat} {l : List Nat} {g : Nat} (h : Sl w x n c l) (t : Turn g w w') (ha : n ≠ 0 → ∀ a, x = some a → a.block ≠ g) : Sl w' x n c l := by
  by_cases h0 : n = 0
  · exact ⟨h.len, h.le, h.nil, .inl h0, h.lt⟩
  · exact h.turn t (ha h0)

/- The program's reader at block p: what is behind the place, what was wrong. -/
structure PRd (w : World) (p : Nat) (x : Option Addr) (n c : Nat) (l : List Nat) (e : Nat) : Prop where
  rest : w.cell? ⟨p, 0, none⟩ = some (.slice x n c)
  wrong : w.cell? ⟨p, 1, none⟩ = some (.int .i64 (e : Int))
  fr : ∀ j, w.frozen? ⟨p, j, none⟩ = false
  sl : Sl w x n c l
  ap : ∀ a, x = some a → a.block ≠ p
  small : n ≤ 140737488355328

theorem PRd.lt {w : World} {p : Nat} {x : Option Addr} {n c : Nat} {l : List Nat} {e : Nat} (h : PRd w p x n c l e) : p < w.heap.size := cell_lt' h.rest

theorem PRd.setRest {w : World} {p : Nat} {x : Option Addr} {n c : Nat} {l : List Nat} {e : Nat} (h : PRd w p x n c l e) {x' : Option Addr} {n' c' : Nat} {l' : List Nat} (hs : Sl w x' n' c' l') (ha : ∀ a, x' = some a → a.block ≠ p) (hc : n' ≤ 140737488355328) :
    PRd (w.setCell ⟨p, 0, none⟩ (.slice x' n' c')) p x' n' c' l' e :=
  ⟨World.cell?_setCell_same _ _ _ h.rest, (World.cell?_setCell_other _ _ _ _ (fun h => by injection h with _ h2 _; cases h2)).trans h.wrong, fun j => by simpa using h.fr j,
    hs.turn ((Turn.refl p w).setCell rfl _) ha, ha, hc⟩

theorem PRd.setWrong {w : World} {p : Nat} {x : Option Addr} {n c : Nat} {l : List Nat} {e : Nat} (h : PRd w p x n c l e) (e' : Nat) :
    PRd (w.setCell ⟨p, 1, none⟩ (.int .i64 (e' : Int))) p x n c l e' :=
  ⟨(World.cell?_setCell_other _ _ _ _ (fun h => by injection h with _ h2 _; cases h2)).trans h.rest, World.cell?_setCell_same _ _ _ h.wrong, fun j => by simpa using h.fr j,
    h.sl.turn ((Turn.refl p w).setCell rfl _) h.ap, h.ap, h.small⟩

theorem PRd.turn {w w' : World} {p q : Nat} {x : Option Addr} {n c : Nat} {l : List Nat} {e : Nat} (h : PRd w p x n c l e) (t : Turn q w w') (hp : p ≠ q) (ha : ∀ a, x = some a → a.block ≠ q) : PRd w' p x n c l e :=
  ⟨(t.cell hp h.lt).trans h.rest, (t.cell hp h.lt).trans h.wrong, fun j => (t.frozen hp h.lt).trans (h.fr j), h.sl.turn t ha, h.ap, h.small⟩

theorem PRd.below {w w' : World} {p : Nat} {x : Option Addr} {n c : Nat} {l : List Nat} {e : Nat} (h : PRd w p x n c l e) (b : Below w.heap.size w w') : PRd w' p x n c l e :=
  ⟨(b.cell h.lt).trans h.rest, (b.cell h.lt).trans h.wrong, fun j => (World.frozen?_of_block (w := w) (b.block p h.lt)).trans (h.fr j), h.sl.below b, h.ap, h.small⟩

/- The document's reader at block q: the bytes, the place, what was wrong. -/
structure RRd (w : World) (q : Nat) (x : Option Addr) (n c : Nat) (L : List Nat) (t : Nat) (e : Nat) : Prop where
  bytes : w.cell? ⟨q, 0, none⟩ = some (.slice x n c)
  place : w.cell? ⟨q, 1, none⟩ = some (.int .i64 (t : Int))
  bad : w.cell? ⟨q, 2, none⟩ = some (.int .i64 (e : Int))
  fr : ∀ j, w.frozen? ⟨q, j, none⟩ = false
  sl : Sl w x n c L
  ap : n ≠ 0 → ∀ a, x = some a → a.block ≠ q
  le : t ≤ n
  small : n ≤ 140737488355328

theorem RRd.lt {w : World} {q : Nat} {x : Option Addr} {n c : Nat} {L : List Nat} {t e : Nat} (h : RRd w q x n c L t e) : q < w.heap.size := cell_lt' h.bytes

theorem RRd.setPlace {w : World} {q : Nat} {x : Option Addr} {n c : Nat} {L : List Nat} {t e : Nat} (h : RRd w q x n c L t e) (t' : Nat) (ht : t' ≤ n) :
    RRd (w.setCell ⟨q, 1, none⟩ (.int .i64 (t' : Int))) q x n c L t' e :=
  ⟨(World.cell?_setCell_other _ _ _ _ (fun h => by injection h with _ h2 _; cases h2)).trans h.bytes, World.cell?_setCell_same _ _ _ h.place, (World.cell?_setCell_other _ _ _ _ (fun h => by injection h with _ h2 _; cases h2)).trans h.bad, fun j => by simpa using h.fr j,
    h.sl.turn0 ((Turn.refl q w).setCell rfl _) h.ap, h.ap, ht, h.small⟩

theorem RRd.setBad {w : World} {q : Nat} {x : Option Addr} {n c : Nat} {L : List Nat} {t e : Nat} (h : RRd w q x n c L t e) (e' : Nat) :
    RRd (w.setCell ⟨q, 2, none⟩ (.int .i64 (e' : Int))) q x n c L t e' :=
  ⟨(World.cell?_setCell_other _ _ _ _ (fun h => by injection h with _ h2 _; cases h2)).trans h.bytes, (World.cell?_setCell_other _ _ _ _ (fun h => by injection h with _ h2 _; cases h2)).trans h.place, World.cell?_setCell_same _ _ _ h.bad, fun j => by simpa using h.fr j,
    h.sl.turn0 ((Turn.refl q w).setCell rfl _) h.ap, h.ap, h.le, h.small⟩

theorem RRd.turn {w w' : World} {p q : Nat} {x : Option Addr} {n c : Nat} {L : List Nat} {t e : Nat} (h : RRd w q x n c L t e) (k : Turn p w w') (hp : q ≠ p) (ha : ∀ a, x = some a → a.block ≠ p) : RRd w' q x n c L t e :=
  ⟨(k.cell hp h.lt).trans h.bytes, (k.cell hp h.lt).trans h.place, (k.cell hp h.lt).trans h.bad, fun j => (k.frozen hp h.lt).trans (h.fr j), h.sl.turn k ha, h.ap, h.le, h.small⟩

theorem RRd.turn0 {w w' : World} {p q : Nat} {x : Option Addr} {n c : Nat} {L : List Nat} {t e : Nat} (h : RRd w q x n c L t e) (k : Turn p w w') (hp : q ≠ p) (ha : n ≠ 0 → ∀ a, x = some a → a.block ≠ p) : RRd w' q x n c L t e :=
  ⟨(k.cell hp h.lt).trans h.bytes, (k.cell hp h.lt).trans h.place, (k.cell hp h.lt).trans h.bad, fun j => (k.frozen hp h.lt).trans (h.fr j), h.sl.turn0 k ha, h.ap, h.le, h.small⟩

theorem RRd.below {w w' : World} {q : Nat} {x : Option Addr} {n c : Nat} {L : List Nat} {t e : Nat} (h : RRd w q x n c L t e) (b : Below w.heap.size w w') : RRd w' q x n c L t e :=
  ⟨(b.cell h.lt).trans h.bytes, (b.cell h.lt).trans h.place, (b.cell h.lt).trans h.bad, fun j => (World.frozen?_of_block (w := w) (b.block q h.lt)).trans (h.fr j), h.sl.below b, h.ap, h.le, h.small⟩

end Go.Proofs.Ytjodeceaogngfaa
