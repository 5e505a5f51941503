/-
  Blocks of memory as rows of values; what a call may turn; a disk as it lies in memory.
  Conditions: none.
-/
import Derived.Test.YthfpljfndnjcnaaByRows
import Derived.Test.YthfpljfndnjcnaaDkPlain
import Derived.Laws.CopyOwn
import Derived.ArgAppend
namespace Go.Proofs.Ythfpljfndnjcnaa
open Go.RowKit By Dk
set_option linter.unusedVariables false
set_option linter.unusedSimpArgs false

theorem hid {p : Prop} (h : p) : Hid p := h

def rowOf (v : Nat → Value) (n : Nat) : List Value := (List.range n).map v

theorem rowOf_get (v : Nat → Value) (n k : Nat) (h : k < n) : (rowOf v n)[k]? = some (v k) := by simp [rowOf, h]
theorem rowOf_len (v : Nat → Value) (n : Nat) : (rowOf v n).length = n := by simp [rowOf]
theorem rowOf_congr {v u : Nat → Value} {n : Nat} (h : ∀ k, k < n → v k = u k) : rowOf v n = rowOf u n := List.map_congr_left fun i hi => h i (List.mem_range.1 hi)
theorem rowOf_one (v : Nat → Value) (n : Nat) (h : ∀ k, (v k).oneCell' = true) : ∀ u ∈ rowOf v n, u.oneCell' = true := fun u hu => by
  simp only [rowOf, List.mem_map] at hu
  obtain ⟨k, _, rfl⟩ := hu
  exact h k
theorem rowOf_succ (v : Nat → Value) (n : Nat) : rowOf v (n + 1) = rowOf v n ++ [v n] := by simp [rowOf, List.range_succ]

def upd (v : Nat → Value) (k : Nat) (u : Value) : Nat → Value := fun i => if i = k then u else v i

theorem rowOf_set (v : Nat → Value) (n k : Nat) (u : Value) : (rowOf v n).set k u = rowOf (upd v k u) n := by
  apply List.ext_getElem?
  intro i
  by_cases hi : i < n
  · rw [rowOf_get _ _ _ hi, List.getElem?_set]
    by_cases e : k = i
    · subst e; simp [rowOf_len, hi, upd]
    · rw [if_neg e, rowOf_get _ _ _ hi]
      simp [upd, Ne.symm e]
  · rw [List.getElem?_eq_none (by rw [List.length_set, rowOf_len]; omega), List.getElem?_eq_none (by rw [rowOf_len]; omega)]

def Blk (w : World) (g : Nat) (t : TypeId) (n : Nat) (v : Nat → Value) : Prop := w.heap[g]? = some (.cells (rowOf v n).toArray t (0, 0))

section
variable {w w' : World} {g n : Nat} {t : TypeId} {v : Nat → Value}

theorem Blk.lt (h : Blk w g t n v) : g < w.heap.size := (Array.getElem?_eq_some_iff.1 h).1

theorem Blk.cell (h : Blk w g t n v) {k : Nat} (hk : k < n) : w.cell? ⟨g, k, none⟩ = some (v k) := by
  unfold Blk at h
  simp only [World.cell?, h]
  simp [rowOf_get v n k hk]

theorem Blk.frozen (h : Blk w g t n v) (k : Nat) : w.frozen? ⟨g, k, none⟩ = false := by
  unfold Blk at h
  simp [World.frozen?, h]

theorem Blk.of_heap (h : Blk w g t n v) (e : w'.heap[g]? = w.heap[g]?) : Blk w' g t n v := e.trans h

theorem Blk.ne {g' n' : Nat} {t' : TypeId} {v' : Nat → Value} (h : Blk w g t n v) (k : Blk w g' t' n' v') (ht : t ≠ t') : g ≠ g' := fun e => by
  subst e
  have := Option.some.inj (Eq.trans (Eq.symm h) k)
  injection this with _ h2 _
  exact ht h2

theorem Blk.congr {v' : Nat → Value} (h : Blk w g t n v) (e : ∀ k, k < n → v k = v' k) : Blk w g t n v' := by
  unfold Blk
  rw [← rowOf_congr e]
  exact h

theorem Blk.set (h : Blk w g t n v) (k : Nat) (u : Value) : Blk (w.setCell ⟨g, k, none⟩ u) g t n (upd v k u) := by
  unfold Blk at h ⊢
  obtain ⟨h1, h2⟩ := Array.getElem?_eq_some_iff.1 h
  simp only [World.setCell]
  rw [Array.getElem?_eq_getElem (by simpa using h1), Array.getElem_modify, if_pos rfl, h2]
  simp [rowOf_set]

theorem Blk.new (w : World) (t : TypeId) (n : Nat) (v : Nat → Value) (cs : Array Value) (e : cs = (rowOf v n).toArray) : Blk (w.alloc (.cells cs t)) w.heap.size t n v := by
  unfold Blk
  rw [heap_alloc_new, e]

theorem Blk.row {f : Nat → Nat} (h : Blk w g 5 n (fun i => .int .u8 (f i : Int))) : RowAt w (some ⟨g, 0, none⟩) n f :=
  .inr ⟨g, 0, rfl, h.lt, fun i hi => by rw [Nat.zero_add]; exact h.cell hi⟩

end

/- What a call may turn: the blocks of F, and new ones. -/
structure Turns (F : Nat → Prop) (w w' : World) : Prop where
  os : w'.os = w.os
  tape : w'.tape = w.tape
  output : w'.output = w.output
  size : w.heap.size ≤ w'.heap.size
  block : ∀ k, k < w.heap.size → ¬ F k → w'.heap[k]? = w.heap[k]?

def grow (F : Nat → Prop) (w w' : World) : Nat → Prop := fun k => F k ∨ (w.heap.size ≤ k ∧ k < w'.heap.size)

section
variable {F : Nat → Prop} {a b c w : World}

theorem Turns.refl (F : Nat → Prop) (w : World) : Turns F w w := ⟨rfl, rfl, rfl, Nat.le_refl _, fun _ _ _ => rfl⟩

theorem Turns.trans (h : Turns F a b) (k : Turns F b c) : Turns F a c :=
  ⟨k.os.trans h.os, k.tape.trans h.tape, k.output.trans h.output, Nat.le_trans h.size k.size, fun i hi hg => (k.block i (Nat.lt_of_lt_of_le hi h.size) hg).trans (h.block i hi hg)⟩

theorem Turns.more {G : Nat → Prop} (h : Turns F a b) (k : Turns G b c) (hG : ∀ i, G i → F i ∨ a.heap.size ≤ i) : Turns F a c :=
  ⟨k.os.trans h.os, k.tape.trans h.tape, k.output.trans h.output, Nat.le_trans h.size k.size, fun i hi hg => (k.block i (Nat.lt_of_lt_of_le hi h.size) (fun h1 => by rcases hG i h1 with h2 | h2; exact hg h2; omega)).trans (h.block i hi hg)⟩

theorem Turns.of_below (h : Below a.heap.size a b) : Turns F a b := ⟨h.os, h.tape, h.output, h.size, fun k hk _ => h.block k hk⟩

theorem Turns.drewN (h : Turns F a w) (n : Nat) : Turns F a (w.drewN n) := ⟨h.os, h.tape, h.output, h.size, h.block⟩
theorem Turns.drew (h : Turns F a w) : Turns F a w.drew := ⟨h.os, h.tape, h.output, h.size, h.block⟩
theorem Turns.of_drewN {n : Nat} (h : Turns F (a.drewN n) w) : Turns F a w := ⟨h.os, h.tape, h.output, h.size, h.block⟩

theorem Turns.setCell (h : Turns F a w) {p : Addr} (hp : F p.block ∨ a.heap.size ≤ p.block) (u : Value) : Turns F a (w.setCell p u) :=
  ⟨h.os, h.tape, h.output, by simpa [World.setCell] using h.size, fun k hk hF => (Below.heap_setCell _ _ _ _ (fun e => by subst e; rcases hp with hp | hp; exact hF hp; omega)).trans (h.block k hk hF)⟩

theorem Turns.alloc (h : Turns F a w) (o : Obj) : Turns F a (w.alloc o) :=
  ⟨h.os, h.tape, h.output, by have := h.size; simp; omega, fun k hk hF => (Below.heap_alloc _ _ _ (Nat.lt_of_lt_of_le hk h.size)).trans (h.block k hk hF)⟩

theorem Turns.grown {w' : World} {row : Option Nat} (h : Turns F a w) (hg : w.grownBy w' row) (hr : ∀ k, row = some k → F k ∨ a.heap.size ≤ k) : Turns F a w' :=
  ⟨hg.os.trans h.os, hg.tape.trans h.tape, hg.output.trans h.output, Nat.le_trans h.size hg.size, fun k hk hF => (hg.block k (Nat.lt_of_lt_of_le hk h.size) (fun e => by rcases hr k e.symm with h1 | h1; exact hF h1; omega)).trans (h.block k hk hF)⟩

theorem Turns.weak {G : Nat → Prop} (h : Turns F a b) (hG : ∀ k, F k → G k) : Turns G a b := ⟨h.os, h.tape, h.output, h.size, fun k hk hg => h.block k hk (fun e => hg (hG k e))⟩

theorem Turns.below {B : Nat} (h : Turns F a b) (hF : ∀ k, F k → B ≤ k) (hB : B ≤ a.heap.size) : Below B a b :=
  ⟨h.os, h.tape, h.output, h.size, fun k hk => h.block k (by omega) (fun e => by have := hF k e; omega)⟩

theorem Turns.blk {g n : Nat} {t : TypeId} {v : Nat → Value} (h : Turns F a b) (k : Blk a g t n v) (hg : ¬ F g) : Blk b g t n v := k.of_heap (h.block g k.lt hg)

theorem Turns.row {x : Option Addr} {n : Nat} {f : Nat → Nat} (h : Turns F a b) (k : RowAt a x n f) (hx : ∀ ad, x = some ad → ¬ F ad.block) : RowAt b x n f := by
  rcases k with k | ⟨g, o, rfl, hg, hc⟩
  · exact .inl k
  · exact .inr ⟨g, o, rfl, Nat.lt_of_lt_of_le hg h.size, fun i hi => (World.cell?_of_block (a := ⟨g, o + i, none⟩) (h.block g hg (hx _ rfl))).trans (hc i hi)⟩

theorem ownsRow_same {w w' : World} {base : Nat} {e : TypeId} {size : Nat} {R : Value} {n : Nat} {xs : List Value} (h : w.ownsRow base e size R n xs) (hb : ∀ g, R.ownBlock = some g → w'.heap[g]? = w.heap[g]?) : w'.ownsRow base e size R n xs := by
  refine ⟨h.1, ?_⟩
  rcases h.2 with h0 | ⟨g, cap, cur, rfl, h1, h2, h3⟩
  · exact .inl h0
  · exact .inr ⟨g, cap, cur, rfl, h1, (hb g rfl).trans h2, h3⟩

theorem ownsRow_ne {w : World} {base g n' : Nat} {e t' : TypeId} {size : Nat} {R : Value} {n : Nat} {xs : List Value} {v : Nat → Value} (h : w.ownsRow base e size R n xs) (k : Blk w g t' n' v) (ht : e ≠ t') : R.ownBlock ≠ some g := fun hg => by
  rcases h.2 with ⟨rfl, _⟩ | ⟨g0, cap, cur, rfl, h1, h2, h3⟩
  · cases hg
  · simp [Value.ownBlock] at hg
    subst hg
    have := Option.some.inj (h2.symm.trans k)
    injection this with _ h4 _
    exact ht h4

theorem ownsRow_form {w : World} {base : Nat} {e : TypeId} {R : Value} {n : Nat} {xs : List Value} (h : w.ownsRow base e 1 R n xs) :
    ∃ x c, R = .slice x n c ∧ n ≤ c ∧ (x = none → n = 0 ∧ c = 0) ∧ (n = 0 ∨ ∃ g, x = some ⟨g, 0, none⟩ ∧ ∀ i u, xs[i]? = some u → w.cell? ⟨g, 0 + i, none⟩ = some u) := by
  rcases h.2 with ⟨rfl, h0⟩ | ⟨g, cap, cur, hv, h1, h2, h3, h4⟩
  · subst h0
    exact ⟨none, 0, rfl, Nat.le_refl _, fun _ => ⟨rfl, rfl⟩, .inl rfl⟩
  · subst hv
    refine ⟨_, cap, rfl, h3, (fun e => by cases e), .inr ⟨g, rfl, fun i u hi => ?_⟩⟩
    have := h.cells (g := g) rfl i u hi
    rw [add_at] at this
    exact this

/- One row of one's own, and more behind it: where it lies then. -/
theorem push_gen (w : World) (t e : TypeId) (i : TypeInfo) (z : Value) (size bytes : Nat) (ht : Try.prog.underlying t = some (.slice e)) (hi : Try.prog.info? e = some i) (hz : i.zero = some z)
    (hsize : i.size = size) (hby : i.bytes = bytes) (hzs : z.cells.size = size) (hsz : 0 < size) (R : Value) (n : Nat) (xs : List Value) (hown : w.ownsRow 0 e size R n xs)
    (ad : Addr) (m c : Nat) (news : List Value) (hl : news.length = m * size) (hnews : ∀ j u, news[j]? = some u → w.cell? (ad.add j) = some u) (h1 : ∀ u ∈ news, u.oneCell' = true)
    (hm : 0 < m) (h63 : n + m ≤ maxLen) (hbytes : (n + m) * bytes ≤ 140737488355328) :
    ∃ R' w', (Builtin.append_ #[t, t] t #[R, .slice (some ad) m c]).run Try.prog w = .ok R' w' ∧ w'.ownsRow 0 e size R' (n + m) (xs ++ news) ∧ w.grownBy w' R.ownBlock ∧ (∀ g, R'.ownBlock = some g → R.ownBlock = some g ∨ w.heap.size ≤ g) := by
  obtain ⟨v', w'', hr2, h2, h3, h4⟩ := run_append_own (P := Try.prog) w 0 t t e i z size bytes ht hi hz hsize hby hzs hsz R n xs hown ad m c news hl hnews h1 h63 hbytes (Nat.zero_le _)
  refine ⟨v', w'', hr2, h2, h3, fun g hg => ?_⟩
  subst hsize
  subst hby
  have hsmall : n + m ≤ 9223372036854775807 := by simp only [maxLen] at h63; omega
  rcases hown.2 with ⟨rfl, hn0⟩ | ⟨g0, cap, cur, rfl, hbg, hgc, hnc, hcm, hcs, htake⟩
  · right
    subst hn0
    have hr3 := run_append_nil (P := Try.prog) w t t e i z ht hi hz ad m c news hl hnews hm (by omega) (by have := hbytes; simp only [Nat.zero_add] at this; omega)
    rw [hr2] at hr3
    injection hr3 with e1 _
    rw [e1] at hg
    simp [Value.ownBlock] at hg
    omega
  · by_cases hroom : n + m ≤ cap
    · left
      have hfit : n * i.size + news.length ≤ cur.size := by rw [hl, hcs, ← Nat.add_mul]; exact Nat.mul_le_mul_right _ hroom
      have hr3 := run_append_room (P := Try.prog) w t t e i ht hi g0 n cap cur hgc ad m c news hl hnews h1 hroom hfit
      rw [hr2] at hr3
      injection hr3 with e1 _
      rw [e1] at hg
      simp [Value.ownBlock] at hg
      simp [Value.ownBlock, hg]
    · right
      have holds : ∀ j u, xs[j]? = some u → w.cell? ((⟨g0, 0, none⟩ : Addr).add j) = some u := hown.cells (g := g0) rfl
      have hr3 := run_append_grow (P := Try.prog) w t t e i z ht hi hz ⟨g0, 0, none⟩ n cap xs hown.1 holds ad m c news hl hnews (by omega) (by omega) (growslice_fits (by omega) hbytes)
      rw [hr2] at hr3
      injection hr3 with e1 _
      rw [e1] at hg
      simp [Value.ownBlock] at hg
      omega

end

/- The program's disk. -/
def obj3 (a b c : Value) : Nat → Value := fun i => if i = 0 then a else if i = 1 then b else c
def wrV (a : Nat) (d : Nat → Nat) : Nat → Value := fun i => if i = 0 then .int .i64 (a : Int) else .int .u8 (d (i - 1) : Int)
def nearV (q A : Nat → Nat) (m : Nat) : Nat → Value := fun k => if last A k m = 0 then .pointer none else .pointer (some ⟨q (last A k m - 1), 0, none⟩)

structure PDk (w : World) (F : Nat → Prop) (p gs gn : Nat) (R : Value) (n s m : Nat) (f A : Nat → Nat) (D : Nat → Nat → Nat) (q : Nat → Nat) : Prop where
  obj : Blk w p 55 3 (obj3 (.slice (some ⟨gs, 0, none⟩) s s) R (.slice (some ⟨gn, 0, none⟩) n n))
  safe : Blk w gs 5 s (fun i => .int .u8 (f i : Int))
  near : Blk w gn 64 n (nearV q A m)
  own : w.ownsRow 0 64 1 R m (rowOf (fun i => .pointer (some ⟨q i, 0, none⟩)) m)
  wr : ∀ i, i < m → Blk w (q i) 84 65 (wrV (A i) (D i))
  at_ : ∀ i, i < m → A i < n
  len : s = 64 * n
  rn : R.ownBlock ≠ some gn
  fp : F p
  fs : F gs
  fn : F gn
  fq : ∀ i, i < m → F (q i)
  fR : ∀ g, R.ownBlock = some g → F g
  lt : ∀ i, f i < 256
  ltD : ∀ i j, D i j < 256
  flt : ∀ k, F k → k < w.heap.size
  n1 : 1 ≤ n
  n2 : n ≤ 4096
  m2 : m ≤ 1000

section
variable {w : World} {F : Nat → Prop} {p gs gn : Nat} {R : Value} {n s m : Nat} {f A : Nat → Nat} {D : Nat → Nat → Nat} {q : Nat → Nat}

theorem PDk.c0 (h : PDk w F p gs gn R n s m f A D q) : w.cell? ⟨p, 0, none⟩ = some (.slice (some ⟨gs, 0, none⟩) s s) := h.obj.cell (k := 0) (by omega)
theorem PDk.c1 (h : PDk w F p gs gn R n s m f A D q) : w.cell? ⟨p, 1, none⟩ = some R := h.obj.cell (k := 1) (by omega)
theorem PDk.c2 (h : PDk w F p gs gn R n s m f A D q) : w.cell? ⟨p, 2, none⟩ = some (.slice (some ⟨gn, 0, none⟩) n n) := h.obj.cell (k := 2) (by omega)

theorem PDk.heap {w' : World} (h : PDk w F p gs gn R n s m f A D q) (e : ∀ k, F k → w'.heap[k]? = w.heap[k]?) (hs : w.heap.size ≤ w'.heap.size) : PDk w' F p gs gn R n s m f A D q :=
  ⟨h.obj.of_heap (e _ h.fp), h.safe.of_heap (e _ h.fs), h.near.of_heap (e _ h.fn), ownsRow_same h.own (fun g hg => e g (h.fR g hg)), fun i hi => (h.wr i hi).of_heap (e _ (h.fq i hi)), h.at_, h.len, h.rn, h.fp, h.fs, h.fn, h.fq, h.fR, h.lt, h.ltD,
    fun k hk => Nat.lt_of_lt_of_le (h.flt k hk) hs, h.n1, h.n2, h.m2⟩

theorem PDk.turns {w' : World} {G : Nat → Prop} (h : PDk w F p gs gn R n s m f A D q) (t : Turns G w w') (hd : ∀ k, F k → ¬ G k) : PDk w' F p gs gn R n s m f A D q :=
  h.heap (fun k hk => t.block k (h.flt k hk) (hd k hk)) t.size

theorem PDk.below {w' : World} (h : PDk w F p gs gn R n s m f A D q) (t : Below w.heap.size w w') : PDk w' F p gs gn R n s m f A D q :=
  h.heap (fun k hk => t.block k (h.flt k hk)) t.size

theorem PDk.drewN (h : PDk w F p gs gn R n s m f A D q) (k : Nat) : PDk (w.drewN k) F p gs gn R n s m f A D q := h.heap (fun _ _ => rfl) (Nat.le_refl _)
theorem PDk.drew (h : PDk w F p gs gn R n s m f A D q) : PDk w.drew F p gs gn R n s m f A D q := h.heap (fun _ _ => rfl) (Nat.le_refl _)

end

def Pd (w : World) (F : Nat → Prop) (p n m : Nat) (f A : Nat → Nat) (D : Nat → Nat → Nat) : Prop := ∃ gs gn R s q, PDk w F p gs gn R n s m f A D q

theorem Pd.turns {w w' : World} {F G : Nat → Prop} {p n m : Nat} {f A : Nat → Nat} {D : Nat → Nat → Nat} (h : Pd w F p n m f A D) (t : Turns G w w') (hd : ∀ k, F k → ¬ G k) : Pd w' F p n m f A D := by
  obtain ⟨gs, gn, R, s, q, h⟩ := h
  exact ⟨gs, gn, R, s, q, h.turns t hd⟩

theorem Pd.below {w w' : World} {F : Nat → Prop} {p n m : Nat} {f A : Nat → Nat} {D : Nat → Nat → Nat} (h : Pd w F p n m f A D) (t : Below w.heap.size w w') : Pd w' F p n m f A D := by
  obtain ⟨gs, gn, R, s, q, h⟩ := h
  exact ⟨gs, gn, R, s, q, h.below t⟩

theorem Pd.drewN {w : World} {F : Nat → Prop} {p n m : Nat} {f A : Nat → Nat} {D : Nat → Nat → Nat} (h : Pd w F p n m f A D) (k : Nat) : Pd (w.drewN k) F p n m f A D := by
  obtain ⟨gs, gn, R, s, q, h⟩ := h
  exact ⟨gs, gn, R, s, q, h.drewN k⟩

end Go.Proofs.Ythfpljfndnjcnaa
