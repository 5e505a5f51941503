/-
  slices.Sort and slices.Compact at int, by the library's contracts: how many unlike numbers a list has.
  Conditions: the list is one's own.
-/
import Derived.Shelf.Sort.Plain
import Derived.Shelf.Slices.In.SortNone
import Derived.Shelf.Slices.CompactI
import Derived.Test.YthiomhbehajldaaCrInts
namespace Go.Proofs.Ythiomhbehajldaa.Cr
open Go.RowKit Go.Shelf By Fl At
open Go.Sort (Holds putRow mapBlock)
set_option linter.unusedVariables false
set_option linter.unusedSimpArgs false
set_option maxRecDepth 100000

def renI : Go.Shelf.Ren := ⟨fun | 125 => 55 | 128 => 77 | 129 => 78 | 189 => 48 | 215 => 56 | 216 => 92 | 257 => 63 | 294 => 86 | 295 => 87 | 296 => 88 | 297 => 89 | 298 => 90 | 299 => 91 | 300 => 93 | 301 => 94 | 328 => 100 | 329 => 96 | 330 => 97 | 331 => 101 | 332 => 102 | 343 => 104 | n => n, fun | 0 => 0 | 3 => 3 | 4 => 4 | 5 => 5 | 9 => 9 | 28 => 37 | 46 => 82 | 51 => 27 | 53 => 96 | 131 => 90 | 182 => 102 | 183 => 103 | 218 => 120 | 222 => 124 | 228 => 128 | 229 => 129 | n => n, fun | n => n⟩

theorem laysI : Go.Proofs.Lays.n189 Try.prog renI where
  mixed := by kernel_rfl
  f125 := Try.func55.trans (congrArg some (by kernel_rfl))
  f128 := Try.func77.trans (congrArg some (by kernel_rfl))
  f129 := Try.func78.trans (congrArg some (by kernel_rfl))
  f189 := Try.func48.trans (congrArg some (by kernel_rfl))
  f215 := Try.func56.trans (congrArg some (by kernel_rfl))
  f216 := Try.func92.trans (congrArg some (by kernel_rfl))
  f257 := Try.func63.trans (congrArg some (by kernel_rfl))
  f294 := Try.func86.trans (congrArg some (by kernel_rfl))
  f295 := Try.func87.trans (congrArg some (by kernel_rfl))
  f296 := Try.func88.trans (congrArg some (by kernel_rfl))
  f297 := Try.func89.trans (congrArg some (by kernel_rfl))
  f298 := Try.func90.trans (congrArg some (by kernel_rfl))
  f299 := Try.func91.trans (congrArg some (by kernel_rfl))
  f300 := Try.func93.trans (congrArg some (by kernel_rfl))
  f301 := Try.func94.trans (congrArg some (by kernel_rfl))
  f328 := Try.func100.trans (congrArg some (by kernel_rfl))
  f329 := Try.func96.trans (congrArg some (by kernel_rfl))
  f330 := Try.func97.trans (congrArg some (by kernel_rfl))
  f331 := Try.func101.trans (congrArg some (by kernel_rfl))
  f332 := Try.func102.trans (congrArg some (by kernel_rfl))
  f343 := Try.func104.trans (congrArg some (by kernel_rfl))
  t0 := Try.underlying0
  a0 := Try.isAgg0
  z0 := Try.sizeOf0
  v0 := Try.zeroValue0
  t3 := Try.underlying3
  a3 := Try.isAgg3
  z3 := Try.sizeOf3
  v3 := Try.zeroValue3
  t4 := Try.underlying4
  a4 := Try.isAgg4
  z4 := Try.sizeOf4
  v4 := Try.zeroValue4
  t5 := Try.underlying5
  a5 := Try.isAgg5
  z5 := Try.sizeOf5
  v5 := Try.zeroValue5
  t9 := Try.underlying9
  a9 := Try.isAgg9
  z9 := Try.sizeOf9
  v9 := Try.zeroValue9
  t28 := Try.underlying37
  a28 := Try.isAgg37
  z28 := Try.sizeOf37
  v28 := Try.zeroValue37
  t46 := Try.underlying82
  a46 := Try.isAgg82
  z46 := Try.sizeOf82
  v46 := Try.zeroValue82
  t51 := Try.underlying27
  a51 := Try.isAgg27
  z51 := Try.sizeOf27
  v51 := Try.zeroValue27
  t53 := Try.underlying96
  a53 := Try.isAgg96
  z53 := Try.sizeOf96
  v53 := Try.zeroValue96
  t131 := Try.underlying90
  a131 := Try.isAgg90
  z131 := Try.sizeOf90
  v131 := Try.zeroValue90
  t182 := Try.underlying102
  a182 := Try.isAgg102
  z182 := Try.sizeOf102
  v182 := Try.zeroValue102
  t183 := Try.underlying103
  a183 := Try.isAgg103
  z183 := Try.sizeOf103
  v183 := Try.zeroValue103
  t218 := Try.underlying120
  a218 := Try.isAgg120
  z218 := Try.sizeOf120
  v218 := Try.zeroValue120
  t222 := Try.underlying124
  a222 := Try.isAgg124
  z222 := Try.sizeOf124
  v222 := Try.zeroValue124
  t228 := Try.underlying128
  a228 := Try.isAgg128
  z228 := Try.sizeOf128
  v228 := Try.zeroValue128
  t229 := Try.underlying129
  a229 := Try.isAgg129
  z229 := Try.sizeOf129
  v229 := Try.zeroValue129

def renC : Go.Shelf.Ren := ⟨fun | 20 => 49 | n => n, fun | 0 => 0 | 3 => 3 | 4 => 4 | 22 => 37 | n => n, fun | n => n⟩

theorem laysC : Go.Proofs.Lays2.n20 Try.prog renC where
  mixed := by kernel_rfl
  f20 := Try.func49.trans (congrArg some (by kernel_rfl))
  t0 := Try.underlying0
  a0 := Try.isAgg0
  z0 := Try.sizeOf0
  v0 := Try.zeroValue0
  t3 := Try.underlying3
  a3 := Try.isAgg3
  z3 := Try.sizeOf3
  v3 := Try.zeroValue3
  t4 := Try.underlying4
  a4 := Try.isAgg4
  z4 := Try.sizeOf4
  v4 := Try.zeroValue4
  t22 := Try.underlying37
  a22 := Try.isAgg37
  z22 := Try.sizeOf37
  v22 := Try.zeroValue37
  i3 := by kernel_rfl

/- A sorted list, cut to its unlike numbers, rises, and has the same members. -/
theorem comp_inc (d : Array Int) (hs : ∀ i j, i < j → j < d.size → d[i]! ≤ d[j]!) : ∀ m, m ≤ d.size → Inc (Lib.compactUpTo d m) ∧ (∀ k, k ∈ Lib.compactUpTo d m ↔ ∃ j, j < m ∧ d[j]! = k) := by
  intro m
  induction m with
  | zero => intro _; refine ⟨List.Pairwise.nil, fun k => ⟨fun h => (by cases h), fun ⟨j, h, _⟩ => (by omega)⟩⟩
  | succ m ih =>
    intro hm
    obtain ⟨h1, h2⟩ := ih (by omega)
    rw [Lib.compactUpTo_succ]
    by_cases hk : Lib.keeps d m = true
    · rw [if_pos hk]
      refine ⟨?_, fun k => ?_⟩
      · unfold Inc
        rw [List.pairwise_append]
        refine ⟨h1, List.pairwise_singleton _ _, fun a ha b hb => ?_⟩
        simp only [List.mem_singleton] at hb
        subst hb
        obtain ⟨j, hj, rfl⟩ := (h2 a).1 ha
        have hm0 : 0 < m := by omega
        have hne : d[m]! ≠ d[m - 1]! := fun e => by rw [Lib.keeps_neg hm0 e] at hk; cases hk
        have q1 := hs (m - 1) m (by omega) (by omega)
        by_cases e : j = m - 1
        · subst e; omega
        · have q2 := hs j (m - 1) (by omega) (by omega)
          omega
      · simp only [List.mem_append, List.mem_singleton, h2]
        constructor
        · rintro (⟨j, hj, e⟩ | e)
          · exact ⟨j, by omega, e⟩
          · exact ⟨m, by omega, e.symm⟩
        · rintro ⟨j, hj, e⟩
          by_cases ej : j = m
          · subst ej; exact .inr e.symm
          · exact .inl ⟨j, by omega, e⟩
    · rw [if_neg hk]
      refine ⟨by simpa using h1, fun k => ?_⟩
      simp only [List.append_nil, h2]
      have hm0 : m ≠ 0 := fun e => by
        subst e
        exact hk (Lib.keeps_lt_one d 0 (by omega))
      have he : d[m]! = d[m - 1]! := Decidable.byContradiction fun e => hk (Lib.keeps_pos e)
      constructor
      · rintro ⟨j, hj, e⟩
        exact ⟨j, by omega, e⟩
      · rintro ⟨j, hj, e⟩
        by_cases ej : j = m
        · subst ej
          exact ⟨j - 1, by omega, by rw [← he]; exact e⟩
        · exact ⟨j, by omega, e⟩

theorem comp_all {l s : List Int} (hp : s.Perm l) (hs : s.Pairwise (fun a b => a ≤ b)) : Inc (Lib.compact s) ∧ ∀ k, k ∈ Lib.compact s ↔ k ∈ l := by
  have h := comp_inc s.toArray (fun i j hij hj => by
    have hj2 : j < s.length := by simpa using hj
    have := List.pairwise_iff_getElem.1 hs i j (by omega) hj2 hij
    rw [getElem!_pos s.toArray i (by simp; omega), getElem!_pos s.toArray j (by simpa using hj2)]
    simpa using this) s.length (by simp)
  refine ⟨h.1, fun k => ?_⟩
  rw [← hp.mem_iff]
  unfold Lib.compact
  rw [h.2]
  constructor
  · rintro ⟨j, hj, e⟩
    rw [getElem!_pos s.toArray j (by simpa using hj)] at e
    rw [← e]
    simp
  · intro hk
    obtain ⟨j, hj⟩ := List.mem_iff_getElem?.1 hk
    obtain ⟨hlt, e⟩ := List.getElem?_eq_some_iff.1 hj
    refine ⟨j, hlt, ?_⟩
    rw [getElem!_pos s.toArray j (by simpa using hlt)]
    simpa using e

def Hs (w : World) (B : Nat) (x : Option Addr) (n c : Nat) (l : List Int) : Prop :=
  l.length = n ∧ n ≤ c ∧ (n = 0 ∨ ∃ g, x = some ⟨g, 0, none⟩ ∧ B ≤ g ∧ g < w.heap.size ∧ Holds (Value.int .i64) w g 0 l.toArray)

theorem own_hs {w : World} {B : Nat} {x : Option Addr} {n c : Nat} {l : List Int} (h : Own w B 3 1 enI (.slice x n c) l) : Hs w B x n c l := by
  obtain ⟨x', c', e, h1, h2, h3⟩ := h.form
  injection e with e1 e2 e3
  subst e1 e2 e3
  refine ⟨rfl, h1, ?_⟩
  by_cases h0 : l.length = 0
  · exact .inl h0
  · cases x with
    | none => exact .inl (h2 rfl).1
    | some ad =>
      obtain ⟨g, rfl, hB, hg⟩ := h3 ad rfl
      refine .inr ⟨g, rfl, hB, hg, fun j hj => ?_⟩
      have hj2 : j < l.length := by simpa using hj
      have := h.cell irow.len (List.getElem?_eq_getElem hj2) (j := 0) rfl
      rw [Nat.mul_one, Nat.add_zero] at this
      rw [Nat.zero_add]
      refine ⟨?_, h.frozen⟩
      rw [this, getElem!_pos l.toArray j hj]
      rfl

theorem put_turns {w : World} {g m : Nat} {d : Array Int} : Turns (fun k => k = g) w (putRow (Value.int .i64) (Go.Sort.ahead w m) g 0 d) := by
  refine ⟨rfl, rfl, rfl, by simp [putRow, mapBlock, Go.Sort.ahead], fun k hk hg => ?_⟩
  unfold putRow mapBlock Go.Sort.ahead
  dsimp only
  rw [Array.getElem?_modify, if_neg (Ne.symm hg)]

theorem sortI_any {w : World} {B : Nat} {x : Option Addr} {n c : Nat} {l : List Int} (h : Hs w B x n c l) (hn : n ≤ 1000) :
    Calls Try.prog 48 #[.slice x n c] w fun e w' => e = .returned (.tuple #[]) ∧ Hid (∃ s : List Int, s.Perm l ∧ s.Pairwise (fun a b => a ≤ b) ∧ Hs w' B x n c s ∧ Turns (fun k => B ≤ k) w w') := by
  obtain ⟨h1, h2, h3⟩ := h
  by_cases h0 : n = 0
  · subst h0
    have e : l = [] := List.eq_nil_of_length_eq_zero h1
    subst e
    have hc := Any.slices_Sort_int_none laysI x c w
    change Calls Try.prog 48 _ _ _ at hc
    refine hc.mono fun e w' ⟨he, hw⟩ => ⟨he, [], List.Perm.refl _, List.Pairwise.nil, ⟨rfl, h2, .inl rfl⟩, ?_⟩
    subst hw
    exact Turns.refl _ _
  · rcases h3 with e | ⟨g, rfl, hB, hg, hH⟩
    · exact absurd e h0
    have hc := Any.slices_Sort_int laysI g 0 c l w hH hg (by omega)
    change Calls Try.prog 48 _ _ _ at hc
    rw [h1] at hc
    have hp := List.mergeSort_perm l (fun x y => decide (x ≤ y))
    have hl : (l.mergeSort fun x y => decide (x ≤ y)).length = n := by rw [hp.length_eq, h1]
    refine hc.mono fun e w' ⟨he, m, os, hw⟩ => ⟨he, _, hp, ?_, ⟨hl, h2, .inr ⟨g, rfl, hB, ?_, ?_⟩⟩, ?_⟩
    · have := List.pairwise_mergeSort (le := fun (x y : Int) => decide (x ≤ y)) (fun a b c h1 h2 => by simp at *; omega) (fun a b => by simp; omega) l
      exact this.imp fun {a b} h => by simpa using h
    · rw [hw]
      simp [putRow, mapBlock, Go.Sort.ahead]
      omega
    · rw [hw]
      exact Go.Sort.holds_grow (Value.int .i64) _ os g 0 _ (by simpa [putRow, mapBlock, Go.Sort.ahead] using hg) (Go.Sort.holds_putRow (Value.int .i64) _ g 0 _ _ (Go.Sort.holds_ahead (Value.int .i64) w m g 0 _ hH) (by simp))
    · rw [hw]
      have t := (put_turns (w := w) (g := g) (m := m) (d := (l.mergeSort fun x y => decide (x ≤ y)).toArray)).weak (G := fun k => B ≤ k) (fun k e => by omega)
      refine ⟨t.os, t.tape, t.output, by rw [Go.Sort.size_grow]; have := t.size; omega, fun k hk hk2 => ?_⟩
      have := t.block k hk hk2
      rw [← this]
      unfold Go.Sort.grow
      dsimp only
      rw [Array.getElem?_append_left (by have := t.size; omega)]

theorem compI_any {w : World} {B : Nat} {x : Option Addr} {n c : Nat} {l : List Int} (h : Hs w B x n c l) (hn : n ≤ 1000) :
    Calls Try.prog 49 #[.slice x n c] w fun e w' => ∃ (y : Option Addr) (k : Nat), e = .returned (.slice y k c) ∧ Hid (k = (Lib.compact l).length ∧ Turns (fun k => B ≤ k) w w') := by
  obtain ⟨h1, h2, h3⟩ := h
  by_cases h0 : n = 0
  · subst h0
    have e : l = [] := List.eq_nil_of_length_eq_zero h1
    subst e
    have hc := Any.slices_Compact_int_empty laysC x c w
    change Calls Try.prog 49 _ _ _ at hc
    refine hc.mono fun e w' ⟨he, hw⟩ => ⟨x, 0, he, rfl, ?_⟩
    subst hw
    exact Turns.refl _ _
  · rcases h3 with e | ⟨g, rfl, hB, hg, hH⟩
    · exact absurd e h0
    have hc := Any.slices_Compact_int laysC g 0 c l w hH (by omega) (by omega)
    change Calls Try.prog 49 _ _ _ at hc
    rw [h1] at hc
    refine hc.mono fun e w' ⟨he, q, hw⟩ => ⟨_, _, he, rfl, ?_⟩
    rw [hw]
    exact put_turns.weak (fun k e => by omega)

end Go.Proofs.Ythiomhbehajldaa.Cr
