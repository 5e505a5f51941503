/-
  4 texts of this proof, one behind the other: WiPlain, WiMem, WiWrite, WiPut.
-/
import Derived.WalkKit
import Derived.Test.YtfgfjfemaniaiaaJ01
import Derived.ArgAppend
import Derived.Laws.BitsAllLaws
/-
  Numbers and bytes in their one form, and what a reader finds in bytes: plain numbers and lists.
  Conditions: none. Nothing here names the program.
-/
namespace Go.Proofs.Ytfgfjfemaniaiaa.Wi

/- A number without sign. -/
def uvF : Nat → Nat → List Nat
  | 0, n => [n]
  | k + 1, n => if n < 128 then [n] else (n % 128 + 128) :: uvF k (n / 128)

theorem uvF_enough : ∀ k m n, n ≤ k → n ≤ m → uvF k n = uvF m n
  | 0, 0, _, _, _ => rfl
  | 0, m + 1, n, h, _ => by
    obtain rfl : n = 0 := by omega
    rfl
  | k + 1, 0, n, _, h => by
    obtain rfl : n = 0 := by omega
    rfl
  | k + 1, m + 1, n, h1, h2 => by
    unfold uvF
    by_cases h : n < 128
    · rw [if_pos h, if_pos h]
    · rw [if_neg h, if_neg h, uvF_enough k m (n / 128) (by omega) (by omega)]

def uv (n : Nat) : List Nat := uvF n n

theorem uv_small {n : Nat} (h : n < 128) : uv n = [n] := by
  unfold uv
  cases n with
  | zero => rfl
  | succ n => unfold uvF; rw [if_pos h]

theorem uv_big {n : Nat} (h : 128 ≤ n) : uv n = (n % 128 + 128) :: uv (n / 128) := by
  unfold uv
  cases n with
  | zero => omega
  | succ n =>
    conv => lhs; unfold uvF
    rw [if_neg (by omega), uvF_enough n ((n + 1) / 128) ((n + 1) / 128) (by omega) (Nat.le_refl _)]

theorem uv_pos (n : Nat) : 0 < (uv n).length := by
  by_cases h : n < 128
  · rw [uv_small h]; simp
  · rw [uv_big (by omega)]; simp

theorem uv_len : ∀ k n, n < 128 ^ (k + 1) → (uv n).length ≤ k + 1
  | 0, n, h => by rw [uv_small (by omega)]; simp
  | k + 1, n, h => by
    by_cases h1 : n < 128
    · rw [uv_small h1]; simp
    · rw [uv_big (by omega)]
      have := uv_len k (n / 128) (by rw [Nat.div_lt_iff_lt_mul (by omega)]; rw [Nat.pow_succ] at h; exact h)
      simp only [List.length_cons]
      omega

theorem uv_ten {n : Nat} (h : n < 18446744073709551616) : (uv n).length ≤ 10 := uv_len 9 n (by omega)

theorem uv_lt (n : Nat) : ∀ v ∈ uv n, v < 256 := by
  induction n using Nat.strongRecOn with
  | ind n ih =>
    intro v hv
    by_cases h : n < 128
    · rw [uv_small h] at hv
      simp at hv
      omega
    · rw [uv_big (by omega)] at hv
      rcases List.mem_cons.1 hv with hv | hv
      · omega
      · exact ih (n / 128) (by omega) v hv

/- Bytes of a number, the lowest first. -/
def fx (n k : Nat) : List Nat := (List.range k).map fun i => n / 256 ^ i % 256

theorem fx_len (n k : Nat) : (fx n k).length = k := by simp [fx]

theorem fx_lt (n k : Nat) : ∀ v ∈ fx n k, v < 256 := by
  intro v hv
  simp only [fx, List.mem_map] at hv
  obtain ⟨i, _, rfl⟩ := hv
  exact Nat.mod_lt _ (by omega)

theorem fx_succ (n k : Nat) : fx n (k + 1) = fx n k ++ [n / 256 ^ k % 256] := by simp [fx, List.range_succ]

theorem fx_four (n : Nat) : fx n 4 = [n % 256, n / 256 % 256, n / 65536 % 256, n / 16777216 % 256] := by
  simp [fx, List.range_succ]

theorem fx_eight (n : Nat) : fx (n % 4294967296) 4 ++ fx (n / 4294967296) 4 = fx n 8 := by
  rw [fx_four, fx_four]
  simp only [fx, List.range_succ, List.range_zero]
  simp
  omega

theorem fx_low (n : Nat) : fx (n % 4294967296) 4 = fx n 4 := by
  rw [fx_four, fx_four]
  simp
  omega

def le : List Nat → Nat
  | [] => 0
  | v :: l => v + 256 * le l

theorem le_fx : ∀ k n, n < 256 ^ k → le (fx n k) = n
  | 0, n, h => by simp [fx, le]; omega
  | k + 1, n, h => by
    have e : fx n (k + 1) = (n % 256) :: fx (n / 256) k := by
      unfold fx
      rw [List.range_succ_eq_map, List.map_cons, List.map_map]
      congr 1
      · simp
      · refine List.map_congr_left fun i _ => ?_
        simp only [Function.comp]
        rw [Nat.pow_succ', Nat.div_div_eq_div_mul]
    rw [e, le, le_fx k (n / 256) (by rw [Nat.div_lt_iff_lt_mul (by omega)]; rw [Nat.pow_succ] at h; exact h)]
    omega

theorem le_lt : ∀ l : List Nat, (∀ v ∈ l, v < 256) → le l < 256 ^ l.length
  | [], _ => by simp [le]
  | v :: l, h => by
    have h1 := le_lt l (fun x hx => h x (List.mem_cons_of_mem _ hx))
    have h2 := h v List.mem_cons_self
    simp only [le, List.length_cons, Nat.pow_succ]
    omega

theorem le_snoc : ∀ (l : List Nat) (v : Nat), le (l ++ [v]) = le l + v * 256 ^ l.length
  | [], v => by simp [le]
  | x :: l, v => by
    simp only [List.cons_append, le, le_snoc l v, List.length_cons, Nat.pow_succ]
    have : 256 * (v * 256 ^ l.length) = v * (256 ^ l.length * 256) := by
      rw [← Nat.mul_assoc, Nat.mul_comm 256 v, Nat.mul_assoc, Nat.mul_comm 256 (256 ^ _)]
    omega

theorem le_take_succ (l : List Nat) (k : Nat) (h : k < l.length) : le (l.take (k + 1)) = le (l.take k) + l.getD k 0 * 256 ^ k := by
  rw [List.take_add_one, List.getElem?_eq_getElem h]
  simp only [Option.toList_some]
  rw [le_snoc, List.length_take, Nat.min_eq_left (by omega)]
  simp [List.getD, h]

/- Numbers with sign. -/
def zz (n : Int) : Nat := if n < 0 then (-(2 * n) - 1).toNat else (2 * n).toNat
def unzz (n : Nat) : Int := if n % 2 = 1 then -((n / 2 : Nat) : Int) - 1 else ((n / 2 : Nat) : Int)

theorem unzz_zz (n : Int) : unzz (zz n) = n := by
  unfold zz unzz
  split <;> split <;> omega

theorem zz_unzz (n : Nat) : zz (unzz n) = n := by
  unfold zz unzz
  split <;> split <;> omega

theorem zz_lt {n : Int} (h1 : -9223372036854775808 ≤ n) (h2 : n ≤ 9223372036854775807) : zz n < 18446744073709551616 := by
  unfold zz
  split <;> omega

/- The number that bytes begin with, and how many of them it has. -/
def leadF : List Nat → Nat → Nat → Option (Nat × Nat)
  | [], _, _ => none
  | v :: l, i, n => if 10 ≤ i then none else if 128 ≤ v then leadF l (i + 1) (n + (v - 128) * 128 ^ i) else if (0 < i ∧ v = 0) ∨ (i = 9 ∧ 1 < v) then none else some (n + v * 128 ^ i, i + 1)

def lead (l : List Nat) : Option (Nat × Nat) := leadF l 0 0

theorem leadF_ten (l : List Nat) (i n : Nat) (h : 10 ≤ i) : leadF l i n = none := by
  cases l with
  | nil => rfl
  | cons v l => rw [leadF, if_pos h]

theorem leadF_uv (r : List Nat) (N : Nat) : ∀ i acc, acc + N * 128 ^ i < 18446744073709551616 → i ≤ 9 → (i = 0 ∨ N ≠ 0) → leadF (uv N ++ r) i acc = some (acc + N * 128 ^ i, i + (uv N).length) := by
  induction N using Nat.strongRecOn with
  | ind N ih =>
    intro i acc h hi h0
    by_cases hN : N < 128
    · rw [uv_small hN]
      simp only [List.cons_append, List.nil_append, List.length_cons, List.length_nil]
      rw [leadF, if_neg (by omega), if_neg (by omega), if_neg]
      rintro (⟨h1, h2⟩ | ⟨h1, h2⟩)
      · omega
      · subst h1
        omega
    · rw [uv_big (by omega)]
      simp only [List.cons_append, List.length_cons]
      have hp : 128 * 128 ^ i ≤ N * 128 ^ i := Nat.mul_le_mul_right _ (by omega)
      have hi9 : i + 1 ≤ 9 := by
        by_cases e : i = 9
        · subst e; omega
        · omega
      have e : N * 128 ^ i = N % 128 * 128 ^ i + N / 128 * 128 ^ (i + 1) := by
        rw [Nat.pow_succ, Nat.mul_comm (128 ^ i) 128, ← Nat.mul_assoc, ← Nat.add_mul]
        congr 1
        omega
      rw [leadF, if_neg (by omega), if_pos (by omega), Nat.add_sub_cancel, ih (N / 128) (by omega) (i + 1) _ (by omega) hi9 (by omega)]
      congr 2 <;> omega

theorem lead_uv {n : Nat} (h : n < 18446744073709551616) (r : List Nat) : lead (uv n ++ r) = some (n, (uv n).length) := by
  have := leadF_uv r n 0 0 (by omega) (by omega) (.inl rfl)
  unfold lead
  simpa using this

theorem leadF_canon : ∀ (l : List Nat) (i acc n k : Nat), (∀ v ∈ l, v < 256) → acc < 128 ^ i → leadF l i acc = some (n, k) →
    ∃ N, n = acc + N * 128 ^ i ∧ k = i + (uv N).length ∧ l.take (uv N).length = uv N ∧ (uv N).length ≤ l.length ∧ n < 18446744073709551616 ∧ (0 < i → N ≠ 0)
  | [], _, _, _, _, _, _, h => by cases h
  | v :: l, i, acc, n, k, hl, ha, h => by
    have hv := hl v List.mem_cons_self
    rw [leadF] at h
    by_cases h10 : 10 ≤ i
    · rw [if_pos h10] at h; cases h
    · rw [if_neg h10] at h
      by_cases h128 : 128 ≤ v
      · rw [if_pos h128] at h
        have hacc : acc + (v - 128) * 128 ^ i < 128 ^ (i + 1) := by
          have : (v - 128) * 128 ^ i ≤ 127 * 128 ^ i := Nat.mul_le_mul_right _ (by omega)
          rw [Nat.pow_succ]
          omega
        obtain ⟨N, h1, h2, h3, h4, h5, h6⟩ := leadF_canon l (i + 1) _ n k (fun x hx => hl x (List.mem_cons_of_mem _ hx)) hacc h
        have hN : N ≠ 0 := h6 (by omega)
        have e : uv (N * 128 + (v - 128)) = v :: uv N := by
          rw [uv_big (by omega)]
          congr 1
          · omega
          · congr 1; omega
        refine ⟨N * 128 + (v - 128), ?_, by rw [e, h2]; simp; omega, by rw [e]; simp [h3], by rw [e]; simp; omega, h5, fun _ => by omega⟩
        rw [h1, Nat.add_mul, Nat.mul_assoc, ← Nat.pow_succ', Nat.add_comm (N * _), ← Nat.add_assoc]
      · rw [if_neg h128] at h
        by_cases hc : (0 < i ∧ v = 0) ∨ (i = 9 ∧ 1 < v)
        · rw [if_pos hc] at h; cases h
        · rw [if_neg hc] at h
          injection h with h
          injection h with h1 h2
          have e : uv v = [v] := uv_small (by omega)
          refine ⟨v, h1.symm, by rw [e, ← h2]; simp, by rw [e]; simp, by rw [e]; simp, ?_, fun h0 hv0 => hc (.inl ⟨h0, hv0⟩)⟩
          rw [← h1]
          by_cases h9 : i = 9
          · subst h9
            have : v ≤ 1 := by omega
            omega
          · have hp : 128 ^ i ≤ 128 ^ 8 := Nat.pow_le_pow_right (by omega) (by omega)
            have : v * 128 ^ i ≤ 127 * 128 ^ i := Nat.mul_le_mul_right _ (by omega)
            omega

theorem lead_canon {l : List Nat} {n k : Nat} (hl : ∀ v ∈ l, v < 256) (h : lead l = some (n, k)) : l.take k = uv n ∧ k = (uv n).length ∧ k ≤ l.length ∧ n < 18446744073709551616 := by
  obtain ⟨N, h1, h2, h3, h4, h5, _⟩ := leadF_canon l 0 0 n k hl (by omega) h
  have e : n = N := by simpa using h1
  subst e
  rw [Nat.zero_add] at h2
  exact ⟨by rw [h2]; exact h3, h2, by omega, h5⟩

theorem lead_pos {l : List Nat} {n k : Nat} (hl : ∀ v ∈ l, v < 256) (h : lead l = some (n, k)) : 0 < k := by
  have := (lead_canon hl h).2.1
  have h2 := uv_pos n
  omega

/- A reader: what is behind the place, and what was wrong first. What it tells, what is then behind the place, what was wrong. -/
def rUv (l : List Nat) (e : Nat) : Nat × List Nat × Nat :=
  if e ≠ 0 then (0, l, e) else match lead l with | none => (0, l, 5) | some (n, k) => (n, l.drop k, 0)

def rFx (s : Nat) (l : List Nat) (e : Nat) : Nat × List Nat × Nat :=
  if e ≠ 0 then (0, l, e) else if l.length < s then (0, l, 5) else (le (l.take s), l.drop s, 0)

def rNum (most : Int) (l : List Nat) (e : Nat) : Nat × List Nat × Nat :=
  if e ≠ 0 then (0, l, e) else if (rUv l e).2.2 ≠ 0 then (0, (rUv l e).2.1, (rUv l e).2.2) else if most < 0 ∨ most < ((rUv l e).1 : Int) then (0, l, 3) else rUv l e

def rBy (most : Int) (l : List Nat) (e : Nat) : List Nat × List Nat × Nat :=
  if e ≠ 0 then ([], l, e) else if (rNum most l e).2.2 ≠ 0 then ([], (rNum most l e).2.1, (rNum most l e).2.2)
  else if (rNum most l e).2.1.length < (rNum most l e).1 then ([], l, 5) else ((rNum most l e).2.1.take (rNum most l e).1, (rNum most l e).2.1.drop (rNum most l e).1, 0)

def rDone (l : List Nat) (e : Nat) : Nat := if e ≠ 0 then e else if 0 < l.length then 5 else 0

theorem rUv_bad {l : List Nat} {e : Nat} (h : e ≠ 0) : rUv l e = (0, l, e) := by unfold rUv; rw [if_pos h]
theorem rUv_no {l : List Nat} (h : lead l = none) : rUv l 0 = (0, l, 5) := by unfold rUv; rw [if_neg (by omega), h]
theorem rUv_yes {l : List Nat} {n k : Nat} (h : lead l = some (n, k)) : rUv l 0 = (n, l.drop k, 0) := by unfold rUv; rw [if_neg (by omega), h]

theorem rUv_lt (l : List Nat) (e : Nat) (hl : ∀ v ∈ l, v < 256) : (rUv l e).1 < 18446744073709551616 := by
  by_cases h : e = 0
  · subst h
    cases h2 : lead l with
    | none => rw [rUv_no h2]; show 0 < _; omega
    | some q => obtain ⟨n, k⟩ := q; rw [rUv_yes h2]; exact (lead_canon hl h2).2.2.2
  · rw [rUv_bad h]; show 0 < _; omega

/- Where the place is: what is left is what was left, but for some at its beginning. -/
theorem rUv_drop (l : List Nat) (e : Nat) : ∃ k, (rUv l e).2.1 = l.drop k := by
  by_cases h : e = 0
  · subst h
    cases h2 : lead l with
    | none => rw [rUv_no h2]; exact ⟨0, rfl⟩
    | some q => obtain ⟨n, k⟩ := q; rw [rUv_yes h2]; exact ⟨k, rfl⟩
  · rw [rUv_bad h]; exact ⟨0, rfl⟩

end Go.Proofs.Ytfgfjfemaniaiaa.Wi

/-
  Lists of bytes, and readers, as they lie in memory, and what stores, new blocks and draws make of them.
  Conditions: none.
-/
namespace Go.Proofs.Ytfgfjfemaniaiaa
open Go.RowKit Wi By
set_option linter.unusedVariables false
set_option linter.unusedSimpArgs false
set_option maxRecDepth 100000

def gl (l : List Nat) (i : Nat) : Nat := l.getD i 0

theorem gl_lt {l : List Nat} (h : ∀ v ∈ l, v < 256) (i : Nat) : gl l i < 256 := by
  unfold gl
  by_cases hi : i < l.length
  · have := h l[i] (List.getElem_mem hi)
    simpa [hi] using this
  · simp [Nat.le_of_not_lt hi]

theorem gl_append (l k : List Nat) (i : Nat) : gl (l ++ k) i = if i < l.length then gl l i else gl k (i - l.length) := by
  unfold gl
  split
  · rename_i h; simp [List.getD, List.getElem?_append_left h]
  · rename_i h; simp [List.getD, List.getElem?_append_right (Nat.le_of_not_lt h)]

theorem gl_drop (l : List Nat) (k i : Nat) : gl (l.drop k) i = gl l (k + i) := by simp [gl, List.getD, List.getElem?_drop]

theorem gl_take (l : List Nat) {k i : Nat} (h : i < k) : gl (l.take k) i = gl l i := by simp [gl, List.getD, List.getElem?_take, h]

def cellsL (l : List Nat) : List Value := l.map fun (n : Nat) => Value.int .u8 (n : Int)

theorem bytesOf_gl (l : List Nat) : bytesOf (gl l) l.length = cellsL l := by
  apply List.ext_getElem?
  intro i
  by_cases hi : i < l.length
  · simp [bytesOf, cellsL, gl, hi]
  · simp [bytesOf, cellsL, hi]

structure Sl (w : World) (x : Option Addr) (n c : Nat) (l : List Nat) : Prop where
  len : l.length = n
  le : n ≤ c
  nil : x = none → c = 0
  row : RowAt w x n (gl l)
  lt : ∀ v ∈ l, v < 256

theorem Sl.below {w w' : World} {x : Option Addr} {n c : Nat} {l : List Nat} (h : Sl w x n c l) (hb : Below w.heap.size w w') : Sl w' x n c l := ⟨h.len, h.le, h.nil, h.row.below hb, h.lt⟩

theorem wrow_heap {w v : World} {x : Option Addr} {n : Nat} {f : Nat → Nat} (h : RowAt w x n f) (e : v.heap = w.heap) : RowAt v x n f := by
  rcases h with h | ⟨b, o, h1, h2, h3⟩
  · exact .inl h
  · refine .inr ⟨b, o, h1, by rw [e]; exact h2, fun i hi => ?_⟩
    rw [← h3 i hi]
    exact World.cell?_of_block (by rw [e])

theorem Sl.empty (w : World) : Sl w none 0 0 [] := ⟨rfl, Nat.le_refl _, fun _ => rfl, .inl rfl, fun v hv => by cases hv⟩

theorem Sl.heap {w v : World} {x : Option Addr} {n c : Nat} {l : List Nat} (h : Sl w x n c l) (e : v.heap = w.heap) : Sl v x n c l := ⟨h.len, h.le, h.nil, wrow_heap h.row e, h.lt⟩

theorem Sl.nil' {w : World} {x : Option Addr} {n c : Nat} {l : List Nat} (h : Sl w x n c l) : x = Option.none → n = 0 ∧ c = 0 := fun e => by
  have := h.nil e
  have := h.le
  omega

theorem Sl.of_in {w : World} {x : Option Addr} {n c : Nat} {f : Nat → Nat} (h : BytesIn w x n c f) : Sl w x n c ((List.range n).map f) := by
  refine ⟨by simp, h.le, fun e => (h.nil e).2, h.row.congr fun i hi => by simp [gl, hi], fun v hv => ?_⟩
  simp only [List.mem_map] at hv
  obtain ⟨i, _, rfl⟩ := hv
  exact h.lt i

theorem wcell_of_heap {w : World} {g i : Nat} {L : List Value} {t : TypeId} {p : Nat × Nat} (h : w.heap[g]? = some (.cells L.toArray t p)) : w.cell? ⟨g, i, none⟩ = L[i]? := by
  simp [World.cell?, h]

theorem frozen_new (w : World) (cs : Array Value) (t : TypeId) (j : Nat) : (w.alloc (.cells cs t)).frozen? ⟨w.heap.size, j, none⟩ = false := by
  unfold World.frozen?
  rw [heap_alloc_new]
  simp

/- A row of one's own. -/
def OwnL (w : World) (base : Nat) (v : Value) (l : List Nat) : Prop := w.ownsRow base 5 1 v l.length (cellsL l)

theorem OwnL.start (w : World) (base : Nat) : OwnL w base (.slice none 0 0) [] := ⟨rfl, .inl ⟨rfl, rfl⟩⟩

theorem OwnL.sl {w : World} {base : Nat} {v : Value} {l : List Nat} (h : OwnL w base v l) (hl : ∀ u ∈ l, u < 256) :
    ∃ x c, v = .slice x l.length c ∧ Sl w x l.length c l ∧ ∀ a, x = some a → base ≤ a.block ∧ a.block < w.heap.size := by
  by_cases hv : v = .slice none 0 0
  · subst hv
    rcases h.2 with ⟨_, h0⟩ | ⟨g, c, cur, h1, _⟩
    · have : l = [] := List.eq_nil_of_length_eq_zero h0
      subst this
      exact ⟨none, 0, rfl, Sl.empty w, fun a ha => by cases ha⟩
    · cases h1
  · have h' := h
    unfold OwnL at h'
    rw [← bytesOf_gl] at h'
    obtain ⟨g, c, rfl, h1, h2, h3, _, h4⟩ := own_rowAt h' hv
    refine ⟨some ⟨g, 0, none⟩, c, rfl, ⟨rfl, h3, (fun e => by cases e), h4, hl⟩, fun a ha => ?_⟩
    cases ha
    exact ⟨h1, h2⟩

theorem OwnL.mono {w : World} {B base : Nat} {v : Value} {l : List Nat} (h : OwnL w base v l) (hB : B ≤ base) : OwnL w B v l := by
  refine ⟨h.1, ?_⟩
  rcases h.2 with h0 | ⟨g, c, cur, h1, h2, h3⟩
  · exact .inl h0
  · exact .inr ⟨g, c, cur, h1, Nat.le_trans hB h2, h3⟩

theorem OwnL.alloc {w : World} {base : Nat} {v : Value} {l : List Nat} (h : OwnL w base v l) (ob : Obj) : OwnL (w.alloc ob) base v l := World.ownsRow.alloc h ob

theorem OwnL.below {w w' : World} {base : Nat} {v : Value} {l : List Nat} (h : OwnL w base v l) (hb : Below w.heap.size w w') : OwnL w' base v l :=
  World.ownsRow.kept (row := none) h ⟨hb.os, hb.tape, hb.output, hb.size, fun i hi _ => hb.block i hi⟩ (by
    cases hv : v.ownBlock with
    | none => exact .inl rfl
    | some x => exact .inr (by simp))

theorem push_list (w w0 : World) (base : Nat) (R : Value) (l : List Nat) (hown : OwnL w base R l) (hb : base ≤ w.heap.size) (h0 : Below base w0 w)
    (x : Option Addr) (m c : Nat) (k : List Nat) (hk : Sl w x m c k) (hs : l.length + m ≤ 140737488355328) :
    ∃ R' w', (Builtin.append_ #[35, 35] 35 #[R, .slice x m c]).run Try.prog w = .ok R' w' ∧ OwnL w' base R' (l ++ k) ∧ Below base w0 w' := by
  have hown' : w.ownsRow base 5 1 R l.length (bytesOf (gl l) l.length) := by rw [bytesOf_gl]; exact hown
  obtain ⟨R', w', h1, h2, h3, _⟩ := push_row w w0 base R l.length (gl l) hown' hb h0 x m c (gl k) hk.nil' hk.row hs
  refine ⟨R', w', h1, ?_, h3⟩
  have e : bytesOf (fun i => if i < l.length then gl l i else gl k (i - l.length)) (l.length + m) = cellsL (l ++ k) := by
    rw [← bytesOf_gl, List.length_append, hk.len]
    exact List.map_congr_left fun i _ => by rw [gl_append]
  rw [e] at h2
  unfold OwnL
  rw [List.length_append, hk.len]
  exact h2

/- One byte more. -/
theorem push_one (w w0 : World) (base : Nat) (R : Value) (l : List Nat) (v : Nat) (hv : v < 256) (hown : OwnL w base R l) (hb : base ≤ w.heap.size) (h0 : Below base w0 w) (hs : l.length ≤ 1000) :
    ∃ R' w', (Builtin.append_ #[35, 35] 35 #[R, .slice (some ⟨w.heap.size, 0, none⟩) 1 1]).run Try.prog (w.alloc (.cells #[.int .u8 (v : Int)] 5)) = .ok R' w' ∧ OwnL w' base R' (l ++ [v]) ∧ Below base w0 w' := by
  refine push_list _ w0 base R l (hown.alloc _) (by simp; omega) (h0.alloc hb _) _ 1 1 [v] ⟨rfl, Nat.le_refl _, (fun e => by cases e), ?_, fun u hu => by simp at hu; omega⟩ (by omega)
  refine .inr ⟨w.heap.size, 0, rfl, by simp, fun i hi => ?_⟩
  obtain rfl : i = 0 := by omega
  simp [gl]

/- Behind a list that is cut off at its end there is no room. -/
theorem push_cut (w : World) (x : Option Addr) (n : Nat) (l : List Nat) (c : Nat) (hl : Sl w x n c l) (y : Option Addr) (m d : Nat) (k : List Nat) (hk : Sl w y m d k) (hm : 0 < m) (hs : n + m ≤ 140737488355328) :
    ∃ R' w', (Builtin.append_ #[35, 35] 35 #[.slice x n n, .slice y m d]).run Try.prog w = .ok R' w' ∧ OwnL w' w.heap.size R' (l ++ k) ∧ Below w.heap.size w w' := by
  cases x with
  | none =>
    have h0 := hl.nil' rfl
    have hn := h0.1
    subst hn
    have hl0 : l = [] := List.eq_nil_of_length_eq_zero hl.len
    subst hl0
    exact push_list w w w.heap.size (.slice none 0 0) [] (OwnL.start w _) (Nat.le_refl _) (Below.refl _ _) y m d k hk (by simp; omega)
  | some a =>
    obtain ⟨i0, hi, hz0, hz1, hz2⟩ := info_parts info_byte
    rcases hk.row with hk0 | ⟨b, o, rfl, _, hkc⟩
    · omega
    obtain ⟨R', w', h1, h2, h3⟩ := run_append_arg_grows (P := Try.prog) w 35 35 5 i0 (.int .u8 0) 1 1 Try.underlying35 hi hz0 hz1 hz2 rfl (by decide) a n n (cellsL l) (by simp [cellsL, hl.len])
      (fun j u hj => by
        have hjn : j < n := by
          have := (List.getElem?_eq_some_iff.1 hj).1
          simpa [cellsL, hl.len] using this
        have e : u = .int .u8 (gl l j : Int) := by simp [cellsL] at hj; obtain ⟨q, hq, rfl⟩ := hj; simp [gl, hq]
        rcases hl.row with h0 | ⟨b', o', ha, _, hc⟩
        · omega
        · injection ha with ha
          subst ha
          rw [e, add_at]
          exact hc j hjn)
      ⟨b, o, none⟩ m d (cellsL k) (by simp [cellsL, hk.len])
      (fun j u hj => by
        have hjn : j < m := by
          have := (List.getElem?_eq_some_iff.1 hj).1
          simpa [cellsL, hk.len] using this
        have e : u = .int .u8 (gl k j : Int) := by simp [cellsL] at hj; obtain ⟨q, hq, rfl⟩ := hj; simp [gl, hq]
        rw [e, add_at]
        exact hkc j hjn) (by omega) (by unfold maxLen; omega) (by omega)
    refine ⟨R', w', h1, ?_, ⟨h3.os, h3.tape, h3.output, h3.size, fun q hq => h3.block q hq (by simp)⟩⟩
    unfold OwnL
    rw [List.length_append, hl.len, hk.len]
    simpa [cellsL] using h2

/- Cut lists. -/
theorem welem_row : Try.prog.underlying 35 = some (.slice (Try.prog.elem 35)) := by kernel_rfl
theorem welem_is : Try.prog.elem 35 = 5 := by kernel_rfl
theorem wsize_byte (w : World) : (sizeOf 5).run Try.prog w = .ok 1 w := by kernel_rfl

theorem cut_end (x : Option Addr) (n c : Nat) (w : World) (h : n ≤ c) :
    (Instr.slice 35 (.slice x n c) none (some (.int .i64 (n : Int))) (some (.int .i64 (n : Int)))).run Try.prog w = .ok (.slice x n n) w := by
  rw [run_slice_hm w 35 _ _ _ welem_row .i64 .i64 (n : Int) (n : Int) (by omega) (by omega) (by omega), welem_is, wsize_byte]
  simp only [Result.andThen, sliced, Int.toNat_natCast, Nat.zero_mul, Nat.sub_zero]
  have : (if n = 0 then x else x.map (·.add 0)) = x := by
    split
    · rfl
    · cases x with
      | none => rfl
      | some a => simp [Addr.add]
  rw [this]

theorem cut_head (x : Option Addr) (n c m : Nat) (w : World) (h : m ≤ c) :
    (Instr.slice 35 (.slice x n c) none (some (.int .i64 (m : Int))) none).run Try.prog w = .ok (.slice x m c) w := by
  rw [run_slice_h w 35 _ _ _ welem_row .i64 (m : Int) (by omega) (by omega), welem_is, wsize_byte]
  simp only [Result.andThen, sliced, Int.toNat_natCast, Nat.zero_mul, Nat.sub_zero]
  have : (if c = 0 then x else x.map (·.add 0)) = x := by
    split
    · rfl
    · cases x with
      | none => rfl
      | some a => simp [Addr.add]
  rw [this]

theorem Sl.head {w : World} {x : Option Addr} {n c : Nat} {l : List Nat} (h : Sl w x n c l) (m : Nat) (hm : m ≤ n) : Sl w x m c (l.take m) :=
  ⟨by rw [List.length_take, h.len]; omega, Nat.le_trans hm h.le, h.nil, (h.row.take hm).congr fun i hi => (gl_take l hi).symm, fun v hv => h.lt v (List.mem_of_mem_take hv)⟩

def cutTo (x : Option Addr) (c k : Nat) : Option Addr := if c = k then x else x.map (·.add k)

theorem wcut_from (x : Option Addr) (n c k : Nat) (w : World) (h : k ≤ n) :
    (Instr.slice 35 (.slice x n c) (some (.int .i64 (k : Int))) none none).run Try.prog w = .ok (.slice (cutTo x c k) (n - k) (c - k)) w := by
  rw [run_slice_l w 35 _ _ _ welem_row .i64 (k : Int) (by omega) (by omega), welem_is, wsize_byte]
  simp only [Result.andThen, sliced, Int.toNat_natCast, Nat.mul_one]
  rfl

theorem cutTo_block {x : Option Addr} {c k : Nat} {a : Addr} (h : cutTo x c k = some a) : ∃ a', x = some a' ∧ a'.block = a.block := by
  unfold cutTo at h
  split at h
  · exact ⟨a, h, rfl⟩
  · cases x with
    | none => cases h
    | some a' =>
      simp at h
      refine ⟨a', rfl, ?_⟩
      rw [← h]
      unfold Addr.add
      split <;> rfl

theorem Sl.from {w : World} {x : Option Addr} {n c : Nat} {l : List Nat} (h : Sl w x n c l) (k : Nat) (hk : k ≤ n) : Sl w (cutTo x c k) (n - k) (c - k) (l.drop k) := by
  have hle := h.le
  refine ⟨by rw [List.length_drop, h.len], by omega, fun e => ?_, ?_, fun v hv => h.lt v (List.mem_of_mem_drop hv)⟩
  · unfold cutTo at e
    split at e
    · omega
    · cases x with
      | none => have := h.nil rfl; omega
      | some a => cases e
  · by_cases h0 : n - k = 0
    · exact .inl h0
    · rcases h.row with hr | ⟨b, o, rfl, hb, hc⟩
      · omega
      · refine .inr ⟨b, o + k, ?_, hb, fun i hi => ?_⟩
        · unfold cutTo
          rw [if_neg (by omega)]
          simp [add_at]
        · rw [gl_drop, Nat.add_assoc]
          exact hc (k + i) (by omega)

/- One block alone is written. -/
structure Turn (g : Nat) (w w' : World) : Prop where
  os : w'.os = w.os
  tape : w'.tape = w.tape
  output : w'.output = w.output
  size : w.heap.size ≤ w'.heap.size
  block : ∀ k, k < w.heap.size → k ≠ g → w'.heap[k]? = w.heap[k]?

theorem Turn.refl (g : Nat) (w : World) : Turn g w w := ⟨rfl, rfl, rfl, Nat.le_refl _, fun _ _ _ => rfl⟩

theorem Turn.trans {g : Nat} {a b c : World} (h : Turn g a b) (k : Turn g b c) : Turn g a c :=
  ⟨k.os.trans h.os, k.tape.trans h.tape, k.output.trans h.output, Nat.le_trans h.size k.size, fun i hi hg => (k.block i (Nat.lt_of_lt_of_le hi h.size) hg).trans (h.block i hi hg)⟩

theorem Turn.of_below {g : Nat} {w w' : World} (h : Below w.heap.size w w') : Turn g w w' := ⟨h.os, h.tape, h.output, h.size, fun k hk _ => h.block k hk⟩

theorem Turn.drewN {g : Nat} {a w : World} (h : Turn g a w) (n : Nat) : Turn g a (w.drewN n) := ⟨h.os, h.tape, h.output, h.size, h.block⟩
theorem Turn.drew {g : Nat} {a w : World} (h : Turn g a w) : Turn g a w.drew := ⟨h.os, h.tape, h.output, h.size, h.block⟩

theorem Turn.setCell {g : Nat} {a w : World} (h : Turn g a w) {p : Addr} (hp : p.block = g) (u : Value) : Turn g a (w.setCell p u) :=
  h.trans ⟨rfl, rfl, rfl, by simp [World.setCell], fun k _ hk => Below.heap_setCell _ _ _ _ (by rw [hp]; exact hk)⟩

theorem Turn.below {g base : Nat} {w w' : World} (h : Turn g w w') (hg : base ≤ g) (hs : base ≤ w.heap.size) : Below base w w' :=
  ⟨h.os, h.tape, h.output, h.size, fun k hk => h.block k (by omega) (by omega)⟩

theorem Turn.cell {g : Nat} {w w' : World} (h : Turn g w w') {p : Addr} (hp : p.block ≠ g) (hs : p.block < w.heap.size) : w'.cell? p = w.cell? p := World.cell?_of_block (w := w) (h.block p.block hs hp)

theorem Turn.frozen {g : Nat} {w w' : World} (h : Turn g w w') {p : Addr} (hp : p.block ≠ g) (hs : p.block < w.heap.size) : w'.frozen? p = w.frozen? p := World.frozen?_of_block (w := w) (h.block p.block hs hp)

theorem Sl.turn {w w' : World} {x : Option Addr} {n c : Nat} {l : List Nat} {g : Nat} (h : Sl w x n c l) (t : Turn g w w') (ha : ∀ a, x = some a → a.block ≠ g) : Sl w' x n c l := by
  refine ⟨h.len, h.le, h.nil, ?_, h.lt⟩
  rcases h.row with h0 | ⟨b, o, hx, hb, hc⟩
  · exact .inl h0
  · exact .inr ⟨b, o, hx, Nat.lt_of_lt_of_le hb t.size, fun i hi => (t.cell (p := ⟨b, o + i, none⟩) (ha ⟨b, o, none⟩ hx) hb).trans (hc i hi)⟩

theorem Sl.turn0 {w w' : World} {x : Option Addr} {n c : Nat} {l : List Nat} {g : Nat} (h : Sl w x n c l) (t : Turn g w w') (ha : n ≠ 0 → ∀ a, x = some a → a.block ≠ g) : Sl w' x n c l := by
  by_cases h0 : n = 0
  · exact ⟨h.len, h.le, h.nil, .inl h0, h.lt⟩
  · exact h.turn t (ha h0)

/- The program's reader at block p: what is behind the place, what was wrong. -/
structure PRd (w : World) (p : Nat) (x : Option Addr) (n c : Nat) (l : List Nat) (e : Nat) : Prop where
  rest : w.cell? ⟨p, 0, none⟩ = some (.slice x n c)
  wrong : w.cell? ⟨p, 1, none⟩ = some (.int .i64 (e : Int))
  fr : ∀ j, w.frozen? ⟨p, j, none⟩ = false
  sl : Sl w x n c l
  ap : ∀ a, x = some a → a.block ≠ p
  small : n ≤ 140737488355328

theorem PRd.lt {w : World} {p : Nat} {x : Option Addr} {n c : Nat} {l : List Nat} {e : Nat} (h : PRd w p x n c l e) : p < w.heap.size := cell_lt' h.rest

theorem PRd.setRest {w : World} {p : Nat} {x : Option Addr} {n c : Nat} {l : List Nat} {e : Nat} (h : PRd w p x n c l e) {x' : Option Addr} {n' c' : Nat} {l' : List Nat} (hs : Sl w x' n' c' l') (ha : ∀ a, x' = some a → a.block ≠ p) (hc : n' ≤ 140737488355328) :
    PRd (w.setCell ⟨p, 0, none⟩ (.slice x' n' c')) p x' n' c' l' e :=
  ⟨World.cell?_setCell_same _ _ _ h.rest, (World.cell?_setCell_other _ _ _ _ (fun h => by injection h with _ h2 _; cases h2)).trans h.wrong, fun j => by simpa using h.fr j,
    hs.turn ((Turn.refl p w).setCell rfl _) ha, ha, hc⟩

theorem PRd.setWrong {w : World} {p : Nat} {x : Option Addr} {n c : Nat} {l : List Nat} {e : Nat} (h : PRd w p x n c l e) (e' : Nat) :
    PRd (w.setCell ⟨p, 1, none⟩ (.int .i64 (e' : Int))) p x n c l e' :=
  ⟨(World.cell?_setCell_other _ _ _ _ (fun h => by injection h with _ h2 _; cases h2)).trans h.rest, World.cell?_setCell_same _ _ _ h.wrong, fun j => by simpa using h.fr j,
    h.sl.turn ((Turn.refl p w).setCell rfl _) h.ap, h.ap, h.small⟩

theorem PRd.turn {w w' : World} {p q : Nat} {x : Option Addr} {n c : Nat} {l : List Nat} {e : Nat} (h : PRd w p x n c l e) (t : Turn q w w') (hp : p ≠ q) (ha : ∀ a, x = some a → a.block ≠ q) : PRd w' p x n c l e :=
  ⟨(t.cell hp h.lt).trans h.rest, (t.cell hp h.lt).trans h.wrong, fun j => (t.frozen hp h.lt).trans (h.fr j), h.sl.turn t ha, h.ap, h.small⟩

theorem PRd.below {w w' : World} {p : Nat} {x : Option Addr} {n c : Nat} {l : List Nat} {e : Nat} (h : PRd w p x n c l e) (b : Below w.heap.size w w') : PRd w' p x n c l e :=
  ⟨(b.cell h.lt).trans h.rest, (b.cell h.lt).trans h.wrong, fun j => (World.frozen?_of_block (w := w) (b.block p h.lt)).trans (h.fr j), h.sl.below b, h.ap, h.small⟩

/- The document's reader at block q: the bytes, the place, what was wrong. -/
structure RRd (w : World) (q : Nat) (x : Option Addr) (n c : Nat) (L : List Nat) (t : Nat) (e : Nat) : Prop where
  bytes : w.cell? ⟨q, 0, none⟩ = some (.slice x n c)
  place : w.cell? ⟨q, 1, none⟩ = some (.int .i64 (t : Int))
  bad : w.cell? ⟨q, 2, none⟩ = some (.int .i64 (e : Int))
  fr : ∀ j, w.frozen? ⟨q, j, none⟩ = false
  sl : Sl w x n c L
  ap : n ≠ 0 → ∀ a, x = some a → a.block ≠ q
  le : t ≤ n
  small : n ≤ 140737488355328

theorem RRd.lt {w : World} {q : Nat} {x : Option Addr} {n c : Nat} {L : List Nat} {t e : Nat} (h : RRd w q x n c L t e) : q < w.heap.size := cell_lt' h.bytes

theorem RRd.setPlace {w : World} {q : Nat} {x : Option Addr} {n c : Nat} {L : List Nat} {t e : Nat} (h : RRd w q x n c L t e) (t' : Nat) (ht : t' ≤ n) :
    RRd (w.setCell ⟨q, 1, none⟩ (.int .i64 (t' : Int))) q x n c L t' e :=
  ⟨(World.cell?_setCell_other _ _ _ _ (fun h => by injection h with _ h2 _; cases h2)).trans h.bytes, World.cell?_setCell_same _ _ _ h.place, (World.cell?_setCell_other _ _ _ _ (fun h => by injection h with _ h2 _; cases h2)).trans h.bad, fun j => by simpa using h.fr j,
    h.sl.turn0 ((Turn.refl q w).setCell rfl _) h.ap, h.ap, ht, h.small⟩

theorem RRd.setBad {w : World} {q : Nat} {x : Option Addr} {n c : Nat} {L : List Nat} {t e : Nat} (h : RRd w q x n c L t e) (e' : Nat) :
    RRd (w.setCell ⟨q, 2, none⟩ (.int .i64 (e' : Int))) q x n c L t e' :=
  ⟨(World.cell?_setCell_other _ _ _ _ (fun h => by injection h with _ h2 _; cases h2)).trans h.bytes, (World.cell?_setCell_other _ _ _ _ (fun h => by injection h with _ h2 _; cases h2)).trans h.place, World.cell?_setCell_same _ _ _ h.bad, fun j => by simpa using h.fr j,
    h.sl.turn0 ((Turn.refl q w).setCell rfl _) h.ap, h.ap, h.le, h.small⟩

theorem RRd.turn {w w' : World} {p q : Nat} {x : Option Addr} {n c : Nat} {L : List Nat} {t e : Nat} (h : RRd w q x n c L t e) (k : Turn p w w') (hp : q ≠ p) (ha : ∀ a, x = some a → a.block ≠ p) : RRd w' q x n c L t e :=
  ⟨(k.cell hp h.lt).trans h.bytes, (k.cell hp h.lt).trans h.place, (k.cell hp h.lt).trans h.bad, fun j => (k.frozen hp h.lt).trans (h.fr j), h.sl.turn k ha, h.ap, h.le, h.small⟩

theorem RRd.turn0 {w w' : World} {p q : Nat} {x : Option Addr} {n c : Nat} {L : List Nat} {t e : Nat} (h : RRd w q x n c L t e) (k : Turn p w w') (hp : q ≠ p) (ha : n ≠ 0 → ∀ a, x = some a → a.block ≠ p) : RRd w' q x n c L t e :=
  ⟨(k.cell hp h.lt).trans h.bytes, (k.cell hp h.lt).trans h.place, (k.cell hp h.lt).trans h.bad, fun j => (k.frozen hp h.lt).trans (h.fr j), h.sl.turn0 k ha, h.ap, h.le, h.small⟩

theorem RRd.below {w w' : World} {q : Nat} {x : Option Addr} {n c : Nat} {L : List Nat} {t e : Nat} (h : RRd w q x n c L t e) (b : Below w.heap.size w w') : RRd w' q x n c L t e :=
  ⟨(b.cell h.lt).trans h.bytes, (b.cell h.lt).trans h.place, (b.cell h.lt).trans h.bad, fun j => (World.frozen?_of_block (w := w) (b.block q h.lt)).trans (h.fr j), h.sl.below b, h.ap, h.le, h.small⟩

end Go.Proofs.Ytfgfjfemaniaiaa

/-
  What behind and Uvarint of package wire, and the document's Uvarint, do: contracts over plain lists ('WiPlain').
  Conditions: bytes that are looked at lie in memory.
-/
namespace Go.Proofs.Ytfgfjfemaniaiaa
open Go.RowKit Wi By
set_option linter.unusedVariables false
set_option linter.unusedSimpArgs false
set_option maxRecDepth 100000

/- behind(b, more). -/
theorem behind_any (x : Option Addr) (n c : Nat) (l : List Nat) (y : Option Addr) (m d : Nat) (k : List Nat) (w : World) (hl : Sl w x n c l) (hk : Sl w y m d k) (hm : 0 < m) (hs : n + m ≤ 140737488355328) :
    Calls Try.prog 96 #[.slice x n c, .slice y m d] w fun e w' => ∃ R, e = .returned R ∧ OwnL w' w.heap.size R (l ++ k) ∧ Below w.heap.size w w' := by
  obtain ⟨R, w', hr, h1, h2⟩ := push_cut w x n l c hl y m d k hk hm hs
  have hcut := fun v => cut_end x n c v hl.le
  have H : Hid (OwnL w' w.heap.size R (l ++ k) ∧ Below w.heap.size w w') := ⟨h1, h2⟩
  clear h1 h2 hl hk hm hs
  go_enter Try.func96, Try.ntmps96
  go_wp2_with (at_builtin; refine wpList_append_run rfl _ _ 35 rfl _ _ rfl rfl hr ?_; clear hr)
  go_ret
  exact ⟨R, rfl, H.out.1, H.out.2⟩

theorem or_high : ∀ a, a < 256 → a ||| 128 = a % 128 + 128 := by decide +kernel

structure Digs (g : Nat) (w0 wr : World) (d : List Nat) (k M N : Nat) : Prop where
  turn : Turn g w0 wr
  len : d.length = k
  eq : d ++ uv M = uv N
  cell : ∀ j, j < 10 → wr.cell? ⟨g, j, none⟩ = some (.int .u8 (gl d j : Int))
  fr : ∀ j, wr.frozen? ⟨g, j, none⟩ = false
  bound : M * 128 ^ k ≤ N
  lt : ∀ v ∈ d, v < 256

theorem gl_end (d : List Nat) : gl d d.length = 0 := by simp [gl]

theorem digs_set {g : Nat} {w0 wr : World} {d : List Nat} {k M N : Nat} (h : Digs g w0 wr d k M N) (v : Nat) (hk : k < 10) :
    ∀ j, j < 10 → (wr.setCell ⟨g, k, none⟩ (.int .u8 (v : Int))).cell? ⟨g, j, none⟩ = some (.int .u8 (gl (d ++ [v]) j : Int)) := by
  intro j hj
  by_cases e : j = k
  · subst e
    rw [World.cell?_setCell_same _ _ _ (h.cell j hj)]
    have hlen := h.len
    rw [gl_append, if_neg (by omega), hlen, Nat.sub_self]
    rfl
  · rw [World.cell?_setCell_other _ _ _ _ (fun q => e (by injection q with _ q2 _; exact q2.symm)), h.cell j hj]
    have hlen := h.len
    rw [gl_append]
    by_cases hlt : j < d.length
    · rw [if_pos hlt]
    · rw [if_neg hlt]
      have e1 : gl d j = 0 := by simp [gl, Nat.le_of_not_lt hlt]
      have e2 : gl [v] (j - d.length) = 0 := by
        obtain ⟨q, hq⟩ : ∃ q, j - d.length = q + 1 := ⟨j - d.length - 1, by omega⟩
        rw [hq]
        simp [gl]
      rw [e1, e2]

theorem digs_step {g : Nat} {w0 wr : World} {d : List Nat} {k M N : Nat} (h : Digs g w0 wr d k M N) (hM : 128 ≤ M) (hk : k < 10) :
    Digs g w0 (wr.setCell ⟨g, k, none⟩ (.int .u8 ((M % 128 + 128 : Nat) : Int))) (d ++ [M % 128 + 128]) (k + 1) (M / 128) N := by
  refine ⟨h.turn.setCell rfl _, by simp [h.len], ?_, digs_set h _ hk, fun j => by simpa using h.fr j, ?_, fun v hv => ?_⟩
  · rw [← h.eq, uv_big hM]
    simp
  · refine Nat.le_trans ?_ h.bound
    rw [Nat.pow_succ, Nat.mul_comm (128 ^ k), ← Nat.mul_assoc]
    exact Nat.mul_le_mul_right _ (Nat.div_mul_le_self _ _)
  · rcases List.mem_append.1 hv with hv | hv
    · exact h.lt v hv
    · simp at hv
      omega

theorem digs_start (w : World) (N : Nat) : Digs w.heap.size (w.alloc (.cells #[.int .u8 0, .int .u8 0, .int .u8 0, .int .u8 0, .int .u8 0, .int .u8 0, .int .u8 0, .int .u8 0, .int .u8 0, .int .u8 0] 142)) (w.alloc (.cells #[.int .u8 0, .int .u8 0, .int .u8 0, .int .u8 0, .int .u8 0, .int .u8 0, .int .u8 0, .int .u8 0, .int .u8 0, .int .u8 0] 142)) [] 0 N N := by
  refine ⟨Turn.refl _ _, rfl, rfl, fun j hj => ?_, fun j => frozen_new _ _ _ j, by omega, fun v hv => by cases hv⟩
  have h := wcell_of_heap (i := j) (heap_alloc_new w (.cells (List.replicate 10 (Value.int .u8 0)).toArray 142))
  rw [List.getElem?_replicate, if_pos hj] at h
  exact h

theorem ten_is : Try.prog.arrayLen 142 = 10 := by kernel_rfl
theorem ten_row : Try.prog.underlying 142 = some (.array (Try.prog.arrayLen 142) (Try.prog.elem 142)) := by kernel_rfl
theorem ten_elem : Try.prog.elem 142 = 5 := by kernel_rfl

theorem cut_ten (g m : Nat) (w : World) (h : m ≤ 10) :
    (Instr.sliceAt 142 (.pointer (some ⟨g, 0, none⟩)) none (some (.int .i64 (m : Int))) none).run Try.prog w = .ok (.slice (some ⟨g, 0, none⟩) m 10) w := by
  rw [run_sliceAt_array_h w 142 _ ten_row .i64 (m : Int) (by omega) (by rw [ten_is]; omega), ten_elem, wsize_byte, ten_is]
  simp [Result.andThen, slicedAt, Addr.add]

/- Uvarint(b, n). -/
set_option maxHeartbeats 1000000 in
set_option maxRecDepth 100000 in
theorem uvarint_any (x : Option Addr) (n c : Nat) (l : List Nat) (N : Nat) (w : World) (hl : Sl w x n c l) (hN : N < 18446744073709551616) (hs : n ≤ 140737488350000) :
    Calls Try.prog 85 #[.slice x n c, .int .u64 N] w fun e w' => ∃ R, e = .returned R ∧ OwnL w' w.heap.size R (l ++ uv N) ∧ Below w.heap.size w w' := by
  have Hl : Hid (Sl w x n c l) := hl
  clear hl
  go_enter Try.func85, Try.ntmps85
  go_wp2_with fail
  have hst := digs_start w N
  go_loopw [1, 6] (fun v i wr => ∃ k M : Nat, k ≤ 9 ∧ M < 18446744073709551616 ∧ v = .int .u64 M ∧ i = .int .i64 k ∧ Hid (∃ d, Digs w.heap.size (w.alloc (.cells #[.int .u8 0, .int .u8 0, .int .u8 0, .int .u8 0, .int .u8 0, .int .u8 0, .int .u8 0, .int .u8 0, .int .u8 0, .int .u8 0] 142)) wr d k M N)) (fun v _ _ => (intOf v).toNat)
  case atStart => exact ⟨0, N, by omega, hN, rfl, rfl, ⟨_, hst⟩⟩
  case round =>
    obtain ⟨k, M, hk, hM, rfl, rfl, HR⟩ := hrel
    clear hst
    obtain ⟨d, hd⟩ := HR.out
    have h1 := hd.cell k (by omega)
    have h2 := hd.fr k
    by_cases hlt : 128 ≤ M
    · have hk8 : k ≤ 8 := by
        by_cases e : k ≤ 8
        · exact e
        · have e9 : k = 9 := by omega
          have := hd.bound
          rw [e9] at this
          omega
      have hor : bits .or .u8 ((M : Int) % 256) 128 = ((M % 128 + 128 : Nat) : Int) := by
        have := u8_or_nat (M % 256) 128 (by omega) (by omega)
        rw [or_high _ (by omega), show M % 256 % 128 = M % 128 by omega] at this
        exact this
      have HS : Hid (∃ d, Digs w.heap.size (w.alloc (.cells #[.int .u8 0, .int .u8 0, .int .u8 0, .int .u8 0, .int .u8 0, .int .u8 0, .int .u8 0, .int .u8 0, .int .u8 0, .int .u8 0] 142)) (wr.setCell ⟨w.heap.size, k, none⟩ (.int .u8 ((M % 128 + 128 : Nat) : Int))) d (k + 1) (M / 128) N) := ⟨_, digs_step hd hlt (by omega)⟩
      clear hd HR
      generalize M % 128 + 128 = V at hor HS
      go_wp2_with fail
      go_roundw
      case rel => exact ⟨k + 1, M / 128, by omega, by omega, by go_num, by go_num, HS⟩
      case measure => simp [intOf]; omega
    · obtain ⟨m, hm⟩ : ∃ m, m = k + 1 := ⟨_, rfl⟩
      have hm1 : (k : Int) + 1 = (m : Int) := by omega
      have hmod : (M : Int) % 256 = (M : Int) := by omega
      have hm10 : m ≤ 10 := by omega
      have ht := (hd.turn.setCell (p := ⟨w.heap.size, k, none⟩) rfl (.int .u8 (M : Int)))
      have hb0 : Below w.heap.size w (w.alloc (.cells #[.int .u8 0, .int .u8 0, .int .u8 0, .int .u8 0, .int .u8 0, .int .u8 0, .int .u8 0, .int .u8 0, .int .u8 0, .int .u8 0] 142)) := (Below.refl _ _).alloc (Nat.le_refl _) _
      have hb1 : Below w.heap.size w (wr.setCell ⟨w.heap.size, k, none⟩ (.int .u8 (M : Int))) := hb0.trans (ht.below (Nat.le_refl _) (by simp))
      have hk2 : Sl (wr.setCell ⟨w.heap.size, k, none⟩ (.int .u8 (M : Int))) (some ⟨w.heap.size, 0, none⟩) m 10 (uv N) := by
        have hlen : (d ++ [M]).length = m := by simp [hd.len, hm]
        rw [← hd.eq, uv_small (by omega)]
        refine ⟨hlen, hm10, (fun e => by cases e), .inr ⟨w.heap.size, 0, rfl, ?_, fun i hi => ?_⟩, fun v hv => ?_⟩
        · have := ht.size
          simp at this
          simp [World.setCell] at *
          omega
        · rw [Nat.zero_add]
          exact digs_set hd M (by omega) i (by omega)
        · rcases List.mem_append.1 hv with hv | hv
          · exact hd.lt v hv
          · simp at hv
            omega
      have hsl : ∀ v : World, (Instr.sliceAt 142 (.pointer (some ⟨w.heap.size, 0, none⟩)) none (some (.int .i64 (m : Int))) none).run Try.prog v = .ok (.slice (some ⟨w.heap.size, 0, none⟩) m 10) v := fun v => cut_ten w.heap.size m v hm10
      have hbe := behind_any x n c l _ m 10 (uv N) _ (Hl.out.below hb1) hk2 (by omega) (by omega)
      have HB1 : Hid (Below w.heap.size w (wr.setCell ⟨w.heap.size, k, none⟩ (.int .u8 (M : Int)))) := hb1
      clear hd HR ht hb0 hb1 hk2 hm
      go_wp2_with (go_at_call 96; refine hbe.mono ?_; rintro e w2 ⟨R, rfl, ho2, hb2⟩; clear hbe)
      go_ret
      exact ⟨R, rfl, ho2.mono HB1.out.size, HB1.out.trans (hb2.mono HB1.out.size)⟩

end Go.Proofs.Ytfgfjfemaniaiaa

/-
  What Varint, Fixed4, Fixed8 and Bytes of package wire (the functions), and the document's, do: contracts over plain lists ('WiPlain').
  Conditions: bytes that are looked at lie in memory.
-/
namespace Go.Proofs.Ytfgfjfemaniaiaa
open Go.RowKit Wi By
set_option linter.unusedVariables false
set_option linter.unusedSimpArgs false
set_option maxRecDepth 100000

theorem i64_not_int (n : Int) (h1 : -9223372036854775808 ≤ n) (h2 : n ≤ 9223372036854775807) : bits .xor .i64 (-1) n = -1 - n := by
  show IntKind.i64.wrap ((BitVec.ofInt 64 (-1) ^^^ BitVec.ofInt 64 n).toNat : Int) = _
  have h3 : BitVec.ofInt 64 (-1) = BitVec.allOnes 64 := by decide
  rw [h3, BitVec.allOnes_xor, BitVec.toNat_not, BitVec.toNat_ofInt]
  simp [IntKind.wrap, IntKind.bits, IntKind.signed]
  omega

theorem or_low (q : Nat) : 2 * q ||| 1 = 2 * q + 1 := by
  have := Nat.two_pow_add_eq_or_of_lt (i := 1) (b := 1) (by omega) q
  simpa using this.symm

/- Fixed4(b, n). -/
theorem four_new (w : World) (N : Nat) (hN : N < 4294967296) :
    Sl (w.alloc (.cells #[.int .u8 ((N : Int) % 256), .int .u8 ((N : Int) / 256 % 256), .int .u8 ((N : Int) / 65536 % 256), .int .u8 ((N : Int) / 16777216)] 5)) (some ⟨w.heap.size, 0, none⟩) 4 4 (fx N 4) := by
  have e : (#[.int .u8 ((N : Int) % 256), .int .u8 ((N : Int) / 256 % 256), .int .u8 ((N : Int) / 65536 % 256), .int .u8 ((N : Int) / 16777216)] : Array Value) = (cellsL (fx N 4)).toArray := by
    rw [fx_four]
    have : (N : Int) / 16777216 = (N : Int) / 16777216 % 256 := by omega
    rw [this]
    simp [cellsL]
  rw [e]
  refine ⟨fx_len N 4, Nat.le_refl _, (fun h => by cases h), .inr ⟨w.heap.size, 0, rfl, by simp, fun i hi => ?_⟩, fx_lt N 4⟩
  rw [Nat.zero_add, wcell_of_heap (heap_alloc_new _ _)]
  have hl : i < (fx N 4).length := by rw [fx_len]; exact hi
  simp [cellsL, gl, hl]

theorem fixed4_any (x : Option Addr) (n c : Nat) (l : List Nat) (N : Nat) (w : World) (hl : Sl w x n c l) (hN : N < 4294967296) (hs : n ≤ 140737488354000) :
    Calls Try.prog 94 #[.slice x n c, .int .u32 N] w fun e w' => ∃ R, e = .returned R ∧ OwnL w' w.heap.size R (l ++ fx N 4) ∧ Below w.heap.size w w' := by
  have hb0 : Below w.heap.size w (w.alloc (.cells #[.int .u8 ((N : Int) % 256), .int .u8 ((N : Int) / 256 % 256), .int .u8 ((N : Int) / 65536 % 256), .int .u8 ((N : Int) / 16777216)] 5)) := (Below.refl _ _).alloc (Nat.le_refl _) _
  have hbe := behind_any x n c l _ 4 4 (fx N 4) _ (hl.below hb0) (four_new w N hN) (by omega) (by omega)
  have HB : Hid (Below w.heap.size w (w.alloc (.cells #[.int .u8 ((N : Int) % 256), .int .u8 ((N : Int) / 256 % 256), .int .u8 ((N : Int) / 65536 % 256), .int .u8 ((N : Int) / 16777216)] 5))) := hb0
  clear hl hb0
  go_enter Try.func94, Try.ntmps94
  go_wp2_with (go_at_call 96; refine hbe.mono ?_; rintro e w2 ⟨R, rfl, ho2, hb2⟩; clear hbe)
  go_ret
  exact ⟨R, rfl, ho2.mono HB.out.size, HB.out.trans (hb2.mono HB.out.size)⟩

/- Fixed8(b, n). -/
theorem fixed8_any (x : Option Addr) (n c : Nat) (l : List Nat) (N : Nat) (w : World) (hl : Sl w x n c l) (hN : N < 18446744073709551616) (hs : n ≤ 140737488353000) :
    Calls Try.prog 78 #[.slice x n c, .int .u64 N] w fun e w' => ∃ R, e = .returned R ∧ OwnL w' w.heap.size R (l ++ fx N 8) ∧ Below w.heap.size w w' := by
  have h4 := fixed4_any x n c l (N % 4294967296) w hl (by omega) (by omega)
  have hlt := hl.lt
  have hlen := hl.len
  have h5 : ∀ v y m d, Sl v y m d (l ++ fx (N % 4294967296) 4) → m ≤ 140737488354000 → Calls Try.prog 94 #[.slice y m d, .int .u32 ((N / 4294967296 : Nat) : Int)] v fun e w' => ∃ R, e = .returned R ∧ OwnL w' v.heap.size R (l ++ fx N 8) ∧ Below v.heap.size v w' := fun v y m d hy hm => by
    have := fixed4_any y m d _ (N / 4294967296) v hy (by omega) hm
    rw [List.append_assoc, fx_eight] at this
    exact this
  have hl4 : ∀ u ∈ l ++ fx (N % 4294967296) 4, u < 256 := fun u hu => by
    rcases List.mem_append.1 hu with hu | hu
    · exact hlt u hu
    · exact fx_lt _ _ u hu
  have hm4 : (l ++ fx (N % 4294967296) 4).length ≤ 140737488354000 := by rw [List.length_append, fx_len]; omega
  have ha : ((N % 4294967296 : Nat) : Int) = (N : Int) % 4294967296 := by omega
  have hb : ((N / 4294967296 : Nat) : Int) = (N : Int) / 4294967296 := by omega
  rw [ha] at h4
  simp only [hb] at h5
  generalize l ++ fx (N % 4294967296) 4 = l4 at *
  generalize l ++ fx N 8 = l8 at *
  clear hl hlt hlen ha hb
  go_enter Try.func78, Try.ntmps78
  go_wp2_with (first
    | (go_at_call 94; refine h4.mono ?_; rintro e w2 ⟨R, rfl, ho2, hb2⟩; obtain ⟨y, d, rfl, hy, _⟩ := ho2.sl hl4; clear h4 ho2)
    | (go_at_call 94; refine (h5 _ _ _ _ hy hm4).mono ?_; rintro e w3 ⟨R, rfl, ho3, hb3⟩; clear h5))
  go_ret
  exact ⟨R, rfl, ho3.mono hb2.size, hb2.trans (hb3.mono hb2.size)⟩

/- Bytes(b, s). -/
theorem bytes_any (x : Option Addr) (n c : Nat) (l : List Nat) (y : Option Addr) (m d : Nat) (k : List Nat) (w : World) (hl : Sl w x n c l) (hk : Sl w y m d k) (hs : n + m ≤ 140737488350000) :
    Calls Try.prog 88 #[.slice x n c, .slice y m d] w fun e w' => ∃ R, e = .returned R ∧ OwnL w' w.heap.size R (l ++ (uv m ++ k)) ∧ Below w.heap.size w w' := by
  have hu := uvarint_any x n c l m w hl (by omega) (by omega)
  have h10 := uv_ten (n := m) (by omega)
  have hp : ∀ v R, OwnL v w.heap.size R (l ++ uv m) → Below w.heap.size w v → ∃ R' w', (Builtin.append_ #[35, 35] 35 #[R, .slice y m d]).run Try.prog v = .ok R' w' ∧ OwnL w' w.heap.size R' (l ++ (uv m ++ k)) ∧ Below w.heap.size w w' := fun v R ho hb => by
    have := push_list v w w.heap.size R (l ++ uv m) ho hb.size hb y m d k (hk.below hb) (by rw [List.length_append, hl.len]; omega)
    rw [List.append_assoc] at this
    exact this
  clear hl hk h10
  generalize l ++ uv m = l1 at *
  generalize l ++ (uv m ++ k) = l2 at *
  have hconv : ((m : Nat) : Int) % 18446744073709551616 = (m : Int) := by omega
  go_enter Try.func88, Try.ntmps88
  go_wp2_with (first
    | (go_at_call 85; refine hu.mono ?_; rintro e w2 ⟨R, rfl, ho2, hb2⟩; obtain ⟨R3, w3, hr3, ho3, hb3⟩ := hp _ _ ho2 hb2; clear hu hp)
    | (at_builtin; refine wpList_append_run rfl _ _ 35 rfl _ _ rfl rfl hr3 ?_; clear hr3))
  go_ret
  exact ⟨R3, rfl, ho3, hb3⟩

/- The statements' own test. -/
theorem uv_300 : uv 300 = [172, 2] := by rw [uv_big (by omega), uv_small (by omega)]

end Go.Proofs.Ytfgfjfemaniaiaa
