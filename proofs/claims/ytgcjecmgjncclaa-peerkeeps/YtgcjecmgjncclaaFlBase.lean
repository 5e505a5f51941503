/-
  Memory, plainly: blocks as rows of values, what a call may turn, lists of bytes, rows of one's own of whatever elements.
  Conditions: none.
-/
import Derived.Test.YtgcjecmgjncclaaByRows
import Derived.Laws.CopyOwn
import Derived.ArgAppend
import Derived.Maps.AppendAt
import Derived.Deep.QuietTactic
import Derived.BigQuiet
namespace Go.Proofs.Ytgcjecmgjncclaa.Fl
open Go.RowKit By
set_option linter.unusedVariables false
set_option linter.unusedSimpArgs false
set_option maxRecDepth 100000

theorem hid {p : Prop} (h : p) : Hid p := h

def rowOf (v : Nat → Value) (n : Nat) : List Value := (List.range n).map v

theorem rowOf_get (v : Nat → Value) (n k : Nat) (h : k < n) : (rowOf v n)[k]? = some (v k) := by simp [rowOf, h]
theorem rowOf_len (v : Nat → Value) (n : Nat) : (rowOf v n).length = n := by simp [rowOf]
theorem rowOf_congr {v u : Nat → Value} {n : Nat} (h : ∀ k, k < n → v k = u k) : rowOf v n = rowOf u n := List.map_congr_left fun i hi => h i (List.mem_range.1 hi)
theorem rowOf_one (v : Nat → Value) (n : Nat) (h : ∀ k, (v k).oneCell' = true) : ∀ u ∈ rowOf v n, u.oneCell' = true := fun u hu => by
  simp only [rowOf, List.mem_map] at hu
  obtain ⟨k, _, rfl⟩ := hu
  exact h k
theorem rowOf_succ (v : Nat → Value) (n : Nat) : rowOf v (n + 1) = rowOf v n ++ [v n] := by simp [rowOf, List.range_succ]

def upd (v : Nat → Value) (k : Nat) (u : Value) : Nat → Value := fun i => if i = k then u else v i

theorem rowOf_set (v : Nat → Value) (n k : Nat) (u : Value) : (rowOf v n).set k u = rowOf (upd v k u) n := by
  apply List.ext_getElem?
  intro i
  by_cases hi : i < n
  · rw [rowOf_get _ _ _ hi, List.getElem?_set]
    by_cases e : k = i
    · subst e; simp [rowOf_len, hi, upd]
    · rw [if_neg e, rowOf_get _ _ _ hi]
      simp [upd, Ne.symm e]
  · rw [List.getElem?_eq_none (by rw [List.length_set, rowOf_len]; omega), List.getElem?_eq_none (by rw [rowOf_len]; omega)]

def Blk (w : World) (g : Nat) (t : TypeId) (n : Nat) (v : Nat → Value) : Prop := w.heap[g]? = some (.cells (rowOf v n).toArray t (0, 0))

section
variable {w w' : World} {g n : Nat} {t : TypeId} {v : Nat → Value}

theorem Blk.lt (h : Blk w g t n v) : g < w.heap.size := (Array.getElem?_eq_some_iff.1 h).1

theorem Blk.cell (h : Blk w g t n v) {k : Nat} (hk : k < n) : w.cell? ⟨g, k, none⟩ = some (v k) := by
  unfold Blk at h
  simp only [World.cell?, h]
  simp [rowOf_get v n k hk]

theorem Blk.frozen (h : Blk w g t n v) (k : Nat) : w.frozen? ⟨g, k, none⟩ = false := by
  unfold Blk at h
  simp [World.frozen?, h]

theorem Blk.of_heap (h : Blk w g t n v) (e : w'.heap[g]? = w.heap[g]?) : Blk w' g t n v := e.trans h

theorem Blk.ne {g' n' : Nat} {t' : TypeId} {v' : Nat → Value} (h : Blk w g t n v) (k : Blk w g' t' n' v') (ht : t ≠ t') : g ≠ g' := fun e => by
  subst e
  have := Option.some.inj (Eq.trans (Eq.symm h) k)
  injection this with _ h2 _
  exact ht h2

theorem Blk.congr {v' : Nat → Value} (h : Blk w g t n v) (e : ∀ k, k < n → v k = v' k) : Blk w g t n v' := by
  unfold Blk
  rw [← rowOf_congr e]
  exact h

theorem Blk.set (h : Blk w g t n v) (k : Nat) (u : Value) : Blk (w.setCell ⟨g, k, none⟩ u) g t n (upd v k u) := by
  unfold Blk at h ⊢
  obtain ⟨h1, h2⟩ := Array.getElem?_eq_some_iff.1 h
  simp only [World.setCell]
  rw [Array.getElem?_eq_getElem (by simpa using h1), Array.getElem_modify, if_pos rfl, h2]
  simp [rowOf_set]

theorem Blk.new (w : World) (t : TypeId) (n : Nat) (v : Nat → Value) (cs : Array Value) (e : cs = (rowOf v n).toArray) : Blk (w.alloc (.cells cs t)) w.heap.size t n v := by
  unfold Blk
  rw [heap_alloc_new, e]

theorem Blk.row {f : Nat → Nat} (h : Blk w g 5 n (fun i => .int .u8 (f i : Int))) : RowAt w (some ⟨g, 0, none⟩) n f :=
  .inr ⟨g, 0, rfl, h.lt, fun i hi => by rw [Nat.zero_add]; exact h.cell hi⟩

end

/- What a call may turn: the blocks of F, and new ones. -/
structure Turns (F : Nat → Prop) (w w' : World) : Prop where
  os : w'.os = w.os
  tape : w'.tape = w.tape
  output : w'.output = w.output
  size : w.heap.size ≤ w'.heap.size
  block : ∀ k, k < w.heap.size → ¬ F k → w'.heap[k]? = w.heap[k]?

def grow (F : Nat → Prop) (w w' : World) : Nat → Prop := fun k => F k ∨ (w.heap.size ≤ k ∧ k < w'.heap.size)

section
variable {F : Nat → Prop} {a b c w : World}

theorem Turns.refl (F : Nat → Prop) (w : World) : Turns F w w := ⟨rfl, rfl, rfl, Nat.le_refl _, fun _ _ _ => rfl⟩

theorem Turns.trans (h : Turns F a b) (k : Turns F b c) : Turns F a c :=
  ⟨k.os.trans h.os, k.tape.trans h.tape, k.output.trans h.output, Nat.le_trans h.size k.size, fun i hi hg => (k.block i (Nat.lt_of_lt_of_le hi h.size) hg).trans (h.block i hi hg)⟩

theorem Turns.more {G : Nat → Prop} (h : Turns F a b) (k : Turns G b c) (hG : ∀ i, G i → F i ∨ a.heap.size ≤ i) : Turns F a c :=
  ⟨k.os.trans h.os, k.tape.trans h.tape, k.output.trans h.output, Nat.le_trans h.size k.size, fun i hi hg => (k.block i (Nat.lt_of_lt_of_le hi h.size) (fun h1 => by rcases hG i h1 with h2 | h2; exact hg h2; omega)).trans (h.block i hi hg)⟩

theorem Turns.of_below (h : Below a.heap.size a b) : Turns F a b := ⟨h.os, h.tape, h.output, h.size, fun k hk _ => h.block k hk⟩

theorem Turns.drewN (h : Turns F a w) (n : Nat) : Turns F a (w.drewN n) := ⟨h.os, h.tape, h.output, h.size, h.block⟩
theorem Turns.drew (h : Turns F a w) : Turns F a w.drew := ⟨h.os, h.tape, h.output, h.size, h.block⟩
theorem Turns.of_drewN {n : Nat} (h : Turns F (a.drewN n) w) : Turns F a w := ⟨h.os, h.tape, h.output, h.size, h.block⟩

theorem Turns.setCell (h : Turns F a w) {p : Addr} (hp : F p.block ∨ a.heap.size ≤ p.block) (u : Value) : Turns F a (w.setCell p u) :=
  ⟨h.os, h.tape, h.output, by simpa [World.setCell] using h.size, fun k hk hF => (Below.heap_setCell _ _ _ _ (fun e => by subst e; rcases hp with hp | hp; exact hF hp; omega)).trans (h.block k hk hF)⟩

theorem Turns.alloc (h : Turns F a w) (o : Obj) : Turns F a (w.alloc o) :=
  ⟨h.os, h.tape, h.output, by have := h.size; simp; omega, fun k hk hF => (Below.heap_alloc _ _ _ (Nat.lt_of_lt_of_le hk h.size)).trans (h.block k hk hF)⟩

theorem Turns.grown {w' : World} {row : Option Nat} (h : Turns F a w) (hg : w.grownBy w' row) (hr : ∀ k, row = some k → F k ∨ a.heap.size ≤ k) : Turns F a w' :=
  ⟨hg.os.trans h.os, hg.tape.trans h.tape, hg.output.trans h.output, Nat.le_trans h.size hg.size, fun k hk hF => (hg.block k (Nat.lt_of_lt_of_le hk h.size) (fun e => by rcases hr k e.symm with h1 | h1; exact hF h1; omega)).trans (h.block k hk hF)⟩

theorem Turns.weak {G : Nat → Prop} (h : Turns F a b) (hG : ∀ k, F k → G k) : Turns G a b := ⟨h.os, h.tape, h.output, h.size, fun k hk hg => h.block k hk (fun e => hg (hG k e))⟩

theorem Turns.below {B : Nat} (h : Turns F a b) (hF : ∀ k, F k → B ≤ k) (hB : B ≤ a.heap.size) : Below B a b :=
  ⟨h.os, h.tape, h.output, h.size, fun k hk => h.block k (by omega) (fun e => by have := hF k e; omega)⟩

theorem Turns.blk {g n : Nat} {t : TypeId} {v : Nat → Value} (h : Turns F a b) (k : Blk a g t n v) (hg : ¬ F g) : Blk b g t n v := k.of_heap (h.block g k.lt hg)

theorem Turns.row {x : Option Addr} {n : Nat} {f : Nat → Nat} (h : Turns F a b) (k : RowAt a x n f) (hx : ∀ ad, x = some ad → ¬ F ad.block) : RowAt b x n f := by
  rcases k with k | ⟨g, o, rfl, hg, hc⟩
  · exact .inl k
  · exact .inr ⟨g, o, rfl, Nat.lt_of_lt_of_le hg h.size, fun i hi => (World.cell?_of_block (a := ⟨g, o + i, none⟩) (h.block g hg (hx _ rfl))).trans (hc i hi)⟩

theorem ownsRow_same {w w' : World} {base : Nat} {e : TypeId} {size : Nat} {R : Value} {n : Nat} {xs : List Value} (h : w.ownsRow base e size R n xs) (hb : ∀ g, R.ownBlock = some g → w'.heap[g]? = w.heap[g]?) : w'.ownsRow base e size R n xs := by
  refine ⟨h.1, ?_⟩
  rcases h.2 with h0 | ⟨g, cap, cur, rfl, h1, h2, h3⟩
  · exact .inl h0
  · exact .inr ⟨g, cap, cur, rfl, h1, (hb g rfl).trans h2, h3⟩

theorem ownsRow_ne {w : World} {base g n' : Nat} {e t' : TypeId} {size : Nat} {R : Value} {n : Nat} {xs : List Value} {v : Nat → Value} (h : w.ownsRow base e size R n xs) (k : Blk w g t' n' v) (ht : e ≠ t') : R.ownBlock ≠ some g := fun hg => by
  rcases h.2 with ⟨rfl, _⟩ | ⟨g0, cap, cur, rfl, h1, h2, h3⟩
  · cases hg
  · simp [Value.ownBlock] at hg
    subst hg
    have := Option.some.inj (h2.symm.trans k)
    injection this with _ h4 _
    exact ht h4

end

def gl (l : List Nat) (i : Nat) : Nat := l.getD i 0

theorem gl_lt {l : List Nat} (h : ∀ v ∈ l, v < 256) (i : Nat) : gl l i < 256 := by
  unfold gl
  by_cases hi : i < l.length
  · have := h l[i] (List.getElem_mem hi)
    simpa [hi] using this
  · simp [Nat.le_of_not_lt hi]

structure Sl (w : World) (x : Option Addr) (n c : Nat) (l : List Nat) : Prop where
  len : l.length = n
  le : n ≤ c
  nil : x = none → c = 0
  row : RowAt w x n (gl l)
  lt : ∀ v ∈ l, v < 256

theorem Sl.below {w w' : World} {x : Option Addr} {n c : Nat} {l : List Nat} (h : Sl w x n c l) (hb : Below w.heap.size w w') : Sl w' x n c l := ⟨h.len, h.le, h.nil, h.row.below hb, h.lt⟩

theorem wrow_heap {w v : World} {x : Option Addr} {n : Nat} {f : Nat → Nat} (h : RowAt w x n f) (e : v.heap = w.heap) : RowAt v x n f := by
  rcases h with h | ⟨b, o, h1, h2, h3⟩
  · exact .inl h
  · refine .inr ⟨b, o, h1, by rw [e]; exact h2, fun i hi => ?_⟩
    rw [← h3 i hi]
    exact World.cell?_of_block (by rw [e])

theorem Sl.empty (w : World) : Sl w none 0 0 [] := ⟨rfl, Nat.le_refl _, fun _ => rfl, .inl rfl, fun v hv => by cases hv⟩

theorem Sl.heap {w v : World} {x : Option Addr} {n c : Nat} {l : List Nat} (h : Sl w x n c l) (e : v.heap = w.heap) : Sl v x n c l := ⟨h.len, h.le, h.nil, wrow_heap h.row e, h.lt⟩

theorem Sl.nil' {w : World} {x : Option Addr} {n c : Nat} {l : List Nat} (h : Sl w x n c l) : x = Option.none → n = 0 ∧ c = 0 := fun e => by
  have := h.nil e
  have := h.le
  omega

theorem Sl.of_in {w : World} {x : Option Addr} {n c : Nat} {f : Nat → Nat} (h : BytesIn w x n c f) : Sl w x n c ((List.range n).map f) := by
  refine ⟨by simp, h.le, fun e => (h.nil e).2, h.row.congr fun i hi => by simp [gl, hi], fun v hv => ?_⟩
  simp only [List.mem_map] at hv
  obtain ⟨i, _, rfl⟩ := hv
  exact h.lt i

def nat (s : ByteArray) : List Nat := s.data.toList.map UInt8.toNat

theorem nat_length (s : ByteArray) : (nat s).length = s.size := by
  unfold nat
  rw [List.length_map, Array.length_toList]
  rfl

theorem nat_lt (s : ByteArray) : ∀ x ∈ nat s, x < 256 := by
  intro x hx
  obtain ⟨b, _, rfl⟩ := List.mem_map.1 hx
  exact b.toNat_lt

theorem nat_inj {s t : ByteArray} (h : nat s = nat t) : s = t := by
  have : s.data.toList = t.data.toList := by
    refine List.map_inj_right (f := UInt8.toNat) ?_ |>.1 h
    intro a b e
    exact UInt8.toNat_inj.1 e
  exact ByteArray.ext (Array.toList_inj.1 this)

theorem nat_toList (s : ByteArray) : s.toList = s.data.toList := ByteArray.toList_eq s

theorem beq_nat (s t : ByteArray) (b : Bool) (h : nat s = nat t ↔ b = true) : (s.toList == t.toList) = b := by
  rw [nat_toList, nat_toList]
  cases b with
  | true =>
    have := nat_inj (h.2 rfl)
    subst this
    simp
  | false =>
    have hne : s.data.toList ≠ t.data.toList := fun e => by
      have := h.1 (by unfold nat; rw [e])
      cases this
    simpa using hne

def str (l : List Nat) : ByteArray := ⟨(l.map UInt8.ofNat).toArray⟩

theorem nat_str {l : List Nat} (h : ∀ x ∈ l, x < 256) : nat (str l) = l := by
  unfold nat str
  simp only [List.map_map]
  conv => rhs; rw [← List.map_id l]
  refine List.map_congr_left fun x hx => ?_
  simp [Function.comp, UInt8.toNat_ofNat', Nat.mod_eq_of_lt (h x hx)]

theorem str_nat (s : ByteArray) : str (nat s) = s := nat_inj (nat_str (nat_lt s))

theorem str_size (l : List Nat) : (str l).size = l.length := by
  show (l.map UInt8.ofNat).toArray.size = l.length
  simp

theorem Sl.turns {w w' : World} {G : Nat → Prop} {x : Option Addr} {n c : Nat} {l : List Nat} (h : Sl w x n c l) (t : Turns G w w') (hx : n ≠ 0 → ∀ a, x = some a → ¬ G a.block) : Sl w' x n c l := by
  refine ⟨h.len, h.le, h.nil, ?_, h.lt⟩
  rcases h.row with h0 | ⟨b, o, h1, h2, h3⟩
  · exact .inl h0
  · by_cases h0 : n = 0
    · exact .inl h0
    · exact t.row h.row (hx h0)

theorem str_row (l : List Nat) : strOfNums (nums (gl l) l.length) = str l := by
  unfold strOfNums str nums
  congr 2
  rw [List.map_map]
  apply List.ext_getElem?
  intro i
  by_cases h : i < l.length
  · simp [h, gl, List.getD]
  · rw [List.getElem?_eq_none (by simp; omega), List.getElem?_eq_none (by simp; omega)]

/- An append that comes up alone in a region that draws its order. -/
theorem st_append {P : Program} {w w' : World} {ops : Array Oper} {o : Oper} {a : Act} {K : Act → World → Prop} {Q : Exit → Act → World → Prop} {v' : Value} (hg : Region.wanted o (yielded ops a.tmps) = true) (s x : Operand) (t : TypeId)
    (ho : o.op = .call { callee := .builtin .append, args := #[s, x], argTypes := #[t, t] }) (v1 v2 : Value) (hs : a.eval s = v1) (hx : a.eval x = v2) (hr : (Builtin.append_ #[t, t] o.type #[v1, v2]).run P w = .ok v' w')
    (h : K (a.put o.dst v') w') : if Region.wanted o (yielded ops a.tmps) = true then Oper.wp P o a w K Q else K (a.put o.dst undef) w := by
  rw [if_pos hg]
  unfold Oper.wp execOp
  simp only [ho, resolve, invoke, builtin, Sem.run_bind, Sem.run_pure, Result.andThen_ok, List.map_toArray, List.map_cons, List.map_nil, hs, hx, hr]
  exact h

theorem below_heap {B : Nat} {a w v : World} (h : Below B a w) (e1 : v.heap = w.heap) (e2 : v.os = w.os) (e3 : v.tape = w.tape) (e4 : v.output = w.output) : Below B a v :=
  ⟨e2.trans h.os, e3.trans h.tape, e4.trans h.output, by rw [e1]; exact h.size, fun k hk => by rw [e1]; exact h.block k hk⟩


/- A block of a type; a block that is a map. -/
def Tb (w : World) (k : Nat) (t : TypeId) : Prop := ∃ cs z, w.heap[k]? = some (.cells cs t z)
def Mb (w : World) (k : Nat) : Prop := ∃ es c, w.heap[k]? = some (.map es c)

theorem Tb.same {w : World} {k : Nat} {t u : TypeId} (h : Tb w k t) (g : Tb w k u) : t = u := by
  obtain ⟨a, b, h⟩ := h
  obtain ⟨c, d, g⟩ := g
  have := Option.some.inj (h.symm.trans g)
  injection this
theorem Tb.not_map {w : World} {k : Nat} {t : TypeId} (h : Tb w k t) (g : Mb w k) : False := by
  obtain ⟨a, b, h⟩ := h
  obtain ⟨c, d, g⟩ := g
  have := Option.some.inj (h.symm.trans g)
  cases this
theorem Tb.lt {w : World} {k : Nat} {t : TypeId} (h : Tb w k t) : k < w.heap.size := by
  obtain ⟨a, b, h⟩ := h
  exact (Array.getElem?_eq_some_iff.1 h).1
theorem Tb.of_heap {w w' : World} {k : Nat} {t : TypeId} (h : Tb w k t) (e : w'.heap[k]? = w.heap[k]?) : Tb w' k t := by
  obtain ⟨a, b, h⟩ := h
  exact ⟨a, b, e.trans h⟩
theorem Blk.tb {w : World} {g : Nat} {t : TypeId} {n : Nat} {v : Nat → Value} (h : Blk w g t n v) : Tb w g t := ⟨_, _, h⟩

theorem setRow_turns (w : World) (g : Nat) (cs : Array Value) : Turns (fun k => k = g) w (w.setRow g cs) := ⟨rfl, rfl, rfl, by simp, fun k _ hk => setRow_other w g k cs hk⟩

/- Rows of one's own: elements of whatever kind, each laid as sz cells. -/
structure Row {α : Type} (T e : TypeId) (sz bt : Nat) (enc : α → List Value) : Prop where
  und : Try.prog.underlying T = some (.slice e)
  info : ∃ i z, Try.prog.info? e = some i ∧ i.zero = some z ∧ i.size = sz ∧ i.bytes = bt ∧ z.cells.size = sz
  pos : 0 < sz
  bpos : bt ≤ 1000
  len : ∀ a, (enc a).length = sz
  one : ∀ a, ∀ v ∈ enc a, v.oneCell' = true

def flat {α : Type} (enc : α → List Value) (L : List α) : List Value := L.flatMap enc

section
variable {α : Type} {enc : α → List Value} {sz : Nat}

theorem flat_nil : flat enc ([] : List α) = [] := rfl
theorem flat_cons (a : α) (L : List α) : flat enc (a :: L) = enc a ++ flat enc L := rfl
theorem flat_app (L K : List α) : flat enc (L ++ K) = flat enc L ++ flat enc K := by simp [flat]
theorem flat_one (a : α) : flat enc [a] = enc a := by simp [flat]

theorem flat_len (h : ∀ a, (enc a).length = sz) : ∀ L : List α, (flat enc L).length = L.length * sz
  | [] => by simp [flat]
  | a :: L => by rw [flat_cons, List.length_append, h, flat_len h L, List.length_cons, Nat.succ_mul]; omega

theorem flat_get (h : ∀ a, (enc a).length = sz) : ∀ (L : List α) (k : Nat) (a : α), L[k]? = some a → ∀ j, j < sz → (flat enc L)[k * sz + j]? = (enc a)[j]?
  | [], k, a, e, j, hj => by simp at e
  | b :: L, 0, a, e, j, hj => by
    simp at e
    subst e
    rw [flat_cons, Nat.zero_mul, Nat.zero_add, List.getElem?_append_left (by rw [h]; exact hj)]
  | b :: L, k + 1, a, e, j, hj => by
    simp at e
    rw [flat_cons, List.getElem?_append_right (by rw [h, Nat.succ_mul]; omega), h, show (k + 1) * sz + j - sz = k * sz + j by rw [Nat.succ_mul]; omega]
    exact flat_get h L k a e j hj

theorem flat_take (h : ∀ a, (enc a).length = sz) : ∀ (L : List α) (k : Nat), (flat enc L).take (k * sz) = flat enc (L.take k)
  | [], k => by simp [flat]
  | b :: L, 0 => by simp [flat]
  | b :: L, k + 1 => by
    rw [flat_cons, List.take_succ_cons, flat_cons, ← flat_take h L k, List.take_append, h, List.take_of_length_le (by rw [h, Nat.succ_mul]; omega), show (k + 1) * sz - sz = k * sz by rw [Nat.succ_mul]; omega]

theorem flat_drop (h : ∀ a, (enc a).length = sz) : ∀ (L : List α) (k : Nat), (flat enc L).drop (k * sz) = flat enc (L.drop k)
  | [], k => by simp [flat]
  | b :: L, 0 => by simp [flat]
  | b :: L, k + 1 => by
    rw [flat_cons, List.drop_succ_cons, ← flat_drop h L k, List.drop_append, h, List.drop_of_length_le (by rw [h, Nat.succ_mul]; omega), show (k + 1) * sz - sz = k * sz by rw [Nat.succ_mul]; omega, List.nil_append]

theorem flat_mem {v : Value} {L : List α} (h : v ∈ flat enc L) : ∃ a ∈ L, v ∈ enc a := by
  simpa [flat, List.mem_flatMap] using h

end

def Own {α : Type} (w : World) (B : Nat) (e : TypeId) (sz : Nat) (enc : α → List Value) (R : Value) (L : List α) : Prop := w.ownsRow B e sz R L.length (flat enc L)

section
variable {α : Type} {w w' : World} {B : Nat} {T e : TypeId} {sz bt : Nat} {enc : α → List Value} {R : Value} {L : List α}

theorem Own.tb (h : Own w B e sz enc R L) {g : Nat} (hg : R.ownBlock = some g) : B ≤ g ∧ Tb w g e := by
  rcases h.2 with ⟨rfl, _⟩ | ⟨g0, cap, cur, rfl, h1, h2, h3⟩
  · cases hg
  · simp [Value.ownBlock] at hg
    subst hg
    exact ⟨h1, _, _, h2⟩

theorem Own.form (h : Own w B e sz enc R L) : ∃ x c, R = .slice x L.length c ∧ L.length ≤ c ∧ (x = none → L.length = 0 ∧ c = 0) ∧ ∀ ad, x = some ad → ∃ g, ad = ⟨g, 0, none⟩ ∧ B ≤ g ∧ g < w.heap.size := by
  rcases h.2 with ⟨rfl, h0⟩ | ⟨g, cap, cur, hv, h1, h2, h3, h4⟩
  · exact ⟨none, 0, by rw [h0], by omega, fun _ => ⟨h0, rfl⟩, fun _ e => by cases e⟩
  · exact ⟨_, cap, hv, h3, (fun e => by cases e), fun ad e => by cases e; exact ⟨g, rfl, h1, (Array.getElem?_eq_some_iff.1 h2).1⟩⟩

theorem Own.there (h : Own w B e sz enc R L) (hL : L ≠ []) : ∃ g c, R = .slice (some ⟨g, 0, none⟩) L.length c ∧ L.length ≤ c ∧ c ≤ maxLen ∧ B ≤ g ∧ g < w.heap.size := by
  rcases h.2 with ⟨rfl, h0⟩ | ⟨g, cap, cur, hv, h1, h2, h3, h4⟩
  · exact absurd (List.eq_nil_of_length_eq_zero h0) hL
  · exact ⟨g, cap, hv, h3, h4.1, h1, (Array.getElem?_eq_some_iff.1 h2).1⟩

theorem Own.cell {g n c : Nat} (h : Own w B e sz enc (.slice (some ⟨g, 0, none⟩) n c) L) (hl : ∀ a, (enc a).length = sz) {k : Nat} {a : α} (hk : L[k]? = Option.some a) {j : Nat} {v : Value} (hv : (enc a)[j]? = Option.some v) : w.cell? ⟨g, k * sz + j, none⟩ = Option.some v := by
  have hj : j < sz := by
    rw [← hl a]
    exact (List.getElem?_eq_some_iff.1 hv).1
  have := World.ownsRow.cells h (g := g) rfl (k * sz + j) v ((flat_get hl L k a hk j hj).trans hv)
  rwa [add_at, Nat.zero_add] at this

theorem Own.frozen {g n c k : Nat} (h : Own w B e sz enc (.slice (some ⟨g, 0, none⟩) n c) L) : w.frozen? ⟨g, k, none⟩ = false := by
  rcases h.2 with ⟨h0, _⟩ | ⟨g0, cap, cur, hv, h1, h2, h3, h4⟩
  · cases h0
  · injection hv with hv _ _
    injection hv with hv
    injection hv with hv _ _
    subst hv
    simp [World.frozen?, h2]

theorem Own.same (h : Own w B e sz enc R L) (hb : ∀ g, R.ownBlock = Option.some g → w'.heap[g]? = w.heap[g]?) : Own w' B e sz enc R L := ownsRow_same h hb

theorem Own.turns {G : Nat → Prop} (h : Own w B e sz enc R L) (t : Turns G w w') (hg : ∀ g, R.ownBlock = Option.some g → ¬ G g) : Own w' B e sz enc R L :=
  h.same fun g e => t.block g (World.ownsRow.lt h g e).2 (hg g e)

theorem Own.below (h : Own w B e sz enc R L) (t : Below w.heap.size w w') : Own w' B e sz enc R L := h.turns (Turns.of_below (F := fun _ => False) t) (fun _ _ h => h)

theorem Own.nil (w : World) (B : Nat) (e : TypeId) (sz : Nat) (enc : α → List Value) : Own w B e sz enc (.slice none 0 0) ([] : List α) := ⟨by simp [flat], .inl ⟨rfl, rfl⟩⟩

theorem Own.empty (w : World) {B : Nat} (hB : B ≤ w.heap.size) (e : TypeId) (sz : Nat) (enc : α → List Value) : Own (w.alloc (.cells #[] e)) B e sz enc (.slice (Option.some ⟨w.heap.size, 0, Option.none⟩) 0 0) ([] : List α) :=
  ⟨by simp [flat], .inr ⟨w.heap.size, 0, #[], rfl, hB, heap_alloc_new _ _, Nat.le_refl _, Nat.zero_le _, by simp, by simp [flat]⟩⟩

/- More behind it. -/
theorem Own.push (h : Own w B e sz enc R L) (r : Row T e sz bt enc) (hB : B ≤ w.heap.size) (ad : Addr) (m c : Nat) (K : List α) (hm : K.length = m) (hK : ∀ j u, (flat enc K)[j]? = Option.some u → w.cell? (ad.add j) = Option.some u) (hs : L.length + m ≤ 100000) :
    ∃ x' c' w', (Builtin.append_ #[T, T] T #[R, .slice (Option.some ad) m c]).run Try.prog w = .ok (.slice x' (L.length + m) c') w' ∧
      Hid (Own w' B e sz enc (.slice x' (L.length + m) c') (L ++ K) ∧ Turns (fun j => R.ownBlock = Option.some j) w w' ∧ (∀ g, (Value.slice x' (L.length + m) c').ownBlock = Option.some g → R.ownBlock = Option.some g ∨ g = w.heap.size)) := by
  obtain ⟨i, z, i1, i2, i3, i4, i5⟩ := r.info
  have hbt := r.bpos
  obtain ⟨R', w4, hap, ho, hgr, hnil, hR'⟩ := run_append_own_at (P := Try.prog) w B T T e i z sz bt r.und i1 i2 i3 i4 i5 r.pos R L.length _ h ad m c (flat enc K) (by rw [flat_len r.len, hm]) hK
    (fun u hu => by obtain ⟨a, _, ha⟩ := flat_mem hu; exact r.one a u ha) (by unfold maxLen; omega) (Nat.le_trans (Nat.mul_le_mul hs hbt) (by omega)) hB
  have ho' : Own w4 B e sz enc R' (L ++ K) := by
    unfold Own
    rw [flat_app, List.length_append, hm]
    exact ho
  obtain ⟨x', c', hRe, _⟩ := ho'.form
  rw [List.length_append, hm] at hRe
  subst hRe
  refine ⟨x', c', w4, hap, ho', (Turns.refl _ w).grown hgr (fun k hk => .inl hk), fun g hg => ?_⟩
  rcases hR' with q | q
  · exact .inl (q ▸ hg)
  · right
    rw [q] at hg
    injection hg with hg
    exact hg.symm

/- A part of it is written over, a tail of it is cleared. -/
theorem Own.heap {g n c : Nat} (h : Own w B e sz enc (.slice (Option.some ⟨g, 0, Option.none⟩) n c) L) : L.length = n ∧ B ≤ g ∧ n ≤ c ∧ c ≤ maxLen ∧ ∃ cur, w.heap[g]? = Option.some (.cells cur e (0, 0)) ∧ cur.size = c * sz ∧ cur.toList.take (n * sz) = flat enc L := by
  rcases h.2 with ⟨h0, _⟩ | ⟨g0, cap, cur, hv, h1, h2, h3, h4, h5, h6⟩
  · cases h0
  · injection hv with hv hn hc
    injection hv with hv
    injection hv with hv _ _
    subst hv
    subst hn
    subst hc
    exact ⟨rfl, h1, h3, h4, cur, h2, h5, h6⟩

theorem Own.of_heap {g c : Nat} {cur : Array Value} {K : List α} (h0 : w.heap[g]? = Option.some (.cells cur e (0, 0))) (hB : B ≤ g) (hc : K.length ≤ c) (hm : c ≤ maxLen) (hz : cur.size = c * sz) (hl : ∀ a, (enc a).length = sz) (ht : cur.toList.take (K.length * sz) = flat enc K) :
    Own w B e sz enc (.slice (Option.some ⟨g, 0, Option.none⟩) K.length c) K := ⟨flat_len hl K, .inr ⟨g, c, cur, rfl, hB, h0, hc, hm, hz, ht⟩⟩

theorem Own.slide {g n c i : Nat} (h : Own w B e sz enc (.slice (Option.some ⟨g, 0, Option.none⟩) n c) L) (r : Row T e sz bt enc) (hi : i < n) (o : Nat) (ho : i + 1 < c → o = (i + 1) * sz) :
    ∃ w', (Builtin.append_ #[T, T] T #[.slice (Option.some ⟨g, 0, Option.none⟩) i c, .slice (Option.some ⟨g, o, Option.none⟩) (n - (i + 1)) (c - (i + 1))]).run Try.prog w = .ok (.slice (Option.some ⟨g, 0, Option.none⟩) (i + (n - (i + 1))) c) w' ∧
      Hid (Own w' B e sz enc (.slice (Option.some ⟨g, 0, Option.none⟩) n c) (L.take i ++ L.drop (i + 1) ++ L.drop (n - 1)) ∧ Turns (fun k => k = g) w w') := by
  obtain ⟨hL, hBg, hnc, hcm, cur, h0, hz, ht⟩ := h.heap
  obtain ⟨i0, z, i1, i2, i3, i4, i5⟩ := r.info
  have hsz := r.pos
  have hsrc : ∀ j u, (flat enc (L.drop (i + 1)))[j]? = Option.some u → w.cell? ((⟨g, o, Option.none⟩ : Addr).add j) = Option.some u := fun j u hj => by
    have hlt := (List.getElem?_eq_some_iff.1 hj).1
    rw [flat_len r.len, List.length_drop, hL] at hlt
    have hic : i + 1 < c := by
      have : 0 < n - (i + 1) := by
        rcases Nat.eq_zero_or_pos (n - (i + 1)) with h1 | h1
        · rw [h1] at hlt; omega
        · exact h1
      omega
    rw [add_at, ho hic]
    rw [← flat_drop r.len, List.getElem?_drop] at hj
    have := World.ownsRow.cells h (g := g) rfl _ u hj
    rwa [add_at, Nat.zero_add] at this
  have hfl : (flat enc (L.drop (i + 1))).length = (n - (i + 1)) * sz := by rw [flat_len r.len, List.length_drop, hL]
  have hin : i + (n - (i + 1)) ≤ c := by omega
  have hfit : i * sz + (n - (i + 1)) * sz ≤ c * sz := by rw [← Nat.add_mul]; exact Nat.mul_le_mul_right _ hin
  have hrun := run_append_room (P := Try.prog) w T T e i0 r.und i1 g i c cur h0 ⟨g, o, Option.none⟩ (n - (i + 1)) (c - (i + 1)) (flat enc (L.drop (i + 1))) (by rw [i3]; exact hfl) hsrc
    (fun u hu => by obtain ⟨a, _, ha⟩ := flat_mem hu; exact r.one a u ha) hin (by rw [i3, hfl, hz]; exact hfit)
  rw [i3, hfl] at hrun
  refine ⟨_, hrun, ?_, setRow_turns _ _ _⟩
  have e1 : (L.take i ++ L.drop (i + 1) ++ L.drop (n - 1)).length = n := by
    simp only [List.length_append, List.length_take, List.length_drop, hL]
    omega
  have h1 := setRow_heap w g cur (cur.toList.take (i * sz) ++ flat enc (L.drop (i + 1)) ++ cur.toList.drop (i * sz + (n - (i + 1)) * sz)).toArray e (0, 0) h0
  have hcl : cur.toList.length = c * sz := by rw [Array.length_toList]; exact hz
  have hnz : n * sz ≤ c * sz := Nat.mul_le_mul_right _ hnc
  have hiz : i * sz ≤ n * sz := Nat.mul_le_mul_right _ (by omega)
  have e3 : i * sz + (n - (i + 1)) * sz = (n - 1) * sz := by rw [← Nat.add_mul]; congr 1; omega
  have e4 : (n - 1) * sz + sz = n * sz := by rw [← Nat.succ_mul]; congr 1; omega
  have key := Own.of_heap (K := L.take i ++ L.drop (i + 1) ++ L.drop (n - 1)) h1 hBg (by rw [e1]; exact hnc) hcm (by
      simp only [List.size_toArray, List.length_append, List.length_take, List.length_drop, hfl, hcl]
      omega) r.len (by
      rw [e1, flat_app, flat_app, ← flat_take r.len L i, ← flat_drop r.len L (n - 1), ← ht]
      simp only []
      rw [List.take_append, List.take_of_length_le (l := cur.toList.take (i * sz) ++ flat enc (L.drop (i + 1))) (by simp only [List.length_append, List.length_take, hfl, hcl]; omega), List.take_take, Nat.min_eq_left hiz]
      congr 1
      simp only [List.length_append, List.length_take, hfl, hcl]
      rw [Nat.min_eq_left (by omega), e3, List.drop_take])
  rw [e1] at key
  exact key

theorem Own.clear {g n c k : Nat} (h : Own w B e sz enc (.slice (Option.some ⟨g, 0, Option.none⟩) n c) L) (r : Row T e sz bt enc) (hk : k ≤ n) (o cc : Nat) (ho : k < n → o = k * sz) (z : Value) (hz0 : (zeroValue e).run Try.prog w = .ok z w) (hzs : z.cells.size = sz) (hz1 : ∀ u ∈ z.cells, u.oneCell' = true) (ty : TypeId) :
    ∃ w', (Builtin.clear_ #[T] ty #[.slice (Option.some ⟨g, o, Option.none⟩) (n - k) cc]).run Try.prog w = .ok (.tuple #[]) w' ∧ Hid (Own w' B e sz enc (.slice (Option.some ⟨g, 0, Option.none⟩) k c) (L.take k) ∧ Turns (fun k => k = g) w w') := by
  obtain ⟨hL, hBg, hnc, hcm, cur, h0, hz, ht⟩ := h.heap
  have hsz := r.pos
  have e1 : (L.take k).length = k := by rw [List.length_take, hL]; omega
  by_cases hkn : k = n
  · refine ⟨w, ?_, ?_, Turns.refl _ _⟩
    · rw [show n - k = 0 by omega]
      simp [Builtin.clear_, run_underlying r.und]
    · subst hkn
      rw [← hL, List.take_length]
      rw [hL]
      exact h
  · have hlt : k < n := by omega
    rw [ho hlt]
    have hkz : k * sz + (n - k) * sz = n * sz := by rw [← Nat.add_mul]; congr 1; omega
    have hnz : n * sz ≤ c * sz := Nat.mul_le_mul_right _ hnc
    have hzl : (Builtin.zeroCells z.cells (n - k)).toList.length = (n - k) * sz := by simp [Builtin.zeroCells, hzs]
    have hst := run_storeCells_at (P := Try.prog) g (k * sz) e (Builtin.zeroCells z.cells (n - k)).toList 0 cur w h0 (by rw [hzl, hz]; omega) (by
      intro v hv
      simp only [Builtin.zeroCells, Array.toList_map, List.mem_map] at hv
      obtain ⟨j, _, rfl⟩ := hv
      have hj : j % z.cells.size < z.cells.size := Nat.mod_lt _ (by omega)
      rw [getElem!_pos z.cells (j % z.cells.size) hj]
      exact hz1 _ (Array.getElem_mem hj))
    simp only [Nat.add_zero] at hst
    obtain ⟨m, hm⟩ : ∃ m, n - k = m + 1 := ⟨n - k - 1, by omega⟩
    have hrun : (Builtin.clear_ #[T] ty #[.slice (Option.some ⟨g, k * sz, Option.none⟩) (n - k) cc]).run Try.prog w = .ok (.tuple #[]) (w.setRow g (cur.toList.take (k * sz) ++ (Builtin.zeroCells z.cells (n - k)).toList ++ cur.toList.drop (k * sz + (Builtin.zeroCells z.cells (n - k)).toList.length)).toArray) := by
      rw [hm] at hst ⊢
      simp [Builtin.clear_, run_underlying r.und, hz0]
      simp at hst
      rw [hst]
      rfl
    rw [hzl] at hrun
    refine ⟨_, hrun, ?_, setRow_turns _ _ _⟩
    have hcl : cur.toList.length = c * sz := by rw [Array.length_toList]; exact hz
    have h1 := setRow_heap w g cur (cur.toList.take (k * sz) ++ (Builtin.zeroCells z.cells (n - k)).toList ++ cur.toList.drop (k * sz + (n - k) * sz)).toArray e (0, 0) h0
    have key := Own.of_heap (K := L.take k) h1 hBg (by rw [e1]; omega) hcm (by
        simp only [List.size_toArray, List.length_append, List.length_take, List.length_drop, hzl, hcl]
        omega) r.len (by
        rw [e1, ← flat_take r.len L k, ← ht, List.take_take, Nat.min_eq_left (Nat.mul_le_mul_right _ hk)]
        simp only []
        rw [List.append_assoc, List.take_append_of_le_length (by rw [List.length_take, hcl]; omega), List.take_take, Nat.min_self])
    rw [e1] at key
    exact key

/- One cell of it is written. -/
theorem own_setCell {g n c : Nat} {xs : List Value} (h : w.ownsRow B e sz (.slice (Option.some ⟨g, 0, Option.none⟩) n c) n xs) (k : Nat) (v : Value) : (w.setCell ⟨g, k, Option.none⟩ v).ownsRow B e sz (.slice (Option.some ⟨g, 0, Option.none⟩) n c) n (xs.set k v) := by
  refine ⟨by rw [List.length_set]; exact h.1, ?_⟩
  rcases h.2 with ⟨h0, _⟩ | ⟨g0, cap, cur, hv, h1, h2, h3, h4, h5, h6⟩
  · cases h0
  · injection hv with hv hn hc
    injection hv with hv
    injection hv with hv _ _
    subst hv
    subst hc
    refine .inr ⟨g, c, cur.setIfInBounds k v, rfl, h1, ?_, h3, h4, by simpa using h5, ?_⟩
    · rw [setCell_eq_setRow w g k cur e (0, 0) v h2]
      exact setRow_heap w g cur _ e (0, 0) h2
    · rw [Array.toList_setIfInBounds, ← h6, List.take_set]

theorem flat_set3 {enc : α → List Value} (f0 f1 f2 : α → Value) (he : ∀ a, enc a = [f0 a, f1 a, f2 a]) : ∀ (L : List α) (i : Nat) (a : α), flat enc (L.set i a) = (((flat enc L).set (i * 3) (f0 a)).set (i * 3 + 1) (f1 a)).set (i * 3 + 2) (f2 a)
  | [], i, a => by simp [flat]
  | b :: L, 0, a => by simp [flat_cons, he]
  | b :: L, i + 1, a => by
    rw [List.set_cons_succ, flat_cons, flat_cons, flat_set3 f0 f1 f2 he L i a, he b, show (i + 1) * 3 = i * 3 + 1 + 1 + 1 by omega]
    simp [List.set_cons_succ]

end

end Go.Proofs.Ytgcjecmgjncclaa.Fl
