/-
  slices.Sort at int, by the library's contract.
  Conditions: the list is one's own.
-/
import Derived.Shelf.Sort.Plain
import Derived.Shelf.Slices.In.SortNone
import Derived.Test.YtgcjecmgjncclaaPeMem
namespace Go.Proofs.Ytgcjecmgjncclaa.Pe
open Go.RowKit Go.Shelf By Fl Pz
open Go.Sort (Holds putRow mapBlock)
set_option linter.unusedVariables false
set_option linter.unusedSimpArgs false
set_option maxRecDepth 100000

def renN : Go.Shelf.Ren := ⟨fun | 125 => 36 | 128 => 46 | 129 => 47 | 189 => 31 | 215 => 53 | 216 => 43 | 257 => 35 | 294 => 37 | 295 => 38 | 296 => 39 | 297 => 40 | 298 => 41 | 299 => 42 | 300 => 44 | 301 => 45 | 328 => 48 | 329 => 49 | 330 => 50 | 331 => 51 | 332 => 52 | 343 => 54 | n => n, fun | 0 => 0 | 3 => 3 | 4 => 4 | 5 => 5 | 9 => 9 | 28 => 22 | 46 => 64 | 51 => 74 | 53 => 76 | 131 => 28 | 182 => 66 | 183 => 67 | 218 => 77 | 222 => 81 | 228 => 84 | 229 => 85 | n => n, fun | n => n⟩

theorem laysI : Go.Proofs.Lays.n189 Try.prog renN where
  mixed := by kernel_rfl
  f125 := Try.func36.trans (congrArg some (by kernel_rfl))
  f128 := Try.func46.trans (congrArg some (by kernel_rfl))
  f129 := Try.func47.trans (congrArg some (by kernel_rfl))
  f189 := Try.func31.trans (congrArg some (by kernel_rfl))
  f215 := Try.func53.trans (congrArg some (by kernel_rfl))
  f216 := Try.func43.trans (congrArg some (by kernel_rfl))
  f257 := Try.func35.trans (congrArg some (by kernel_rfl))
  f294 := Try.func37.trans (congrArg some (by kernel_rfl))
  f295 := Try.func38.trans (congrArg some (by kernel_rfl))
  f296 := Try.func39.trans (congrArg some (by kernel_rfl))
  f297 := Try.func40.trans (congrArg some (by kernel_rfl))
  f298 := Try.func41.trans (congrArg some (by kernel_rfl))
  f299 := Try.func42.trans (congrArg some (by kernel_rfl))
  f300 := Try.func44.trans (congrArg some (by kernel_rfl))
  f301 := Try.func45.trans (congrArg some (by kernel_rfl))
  f328 := Try.func48.trans (congrArg some (by kernel_rfl))
  f329 := Try.func49.trans (congrArg some (by kernel_rfl))
  f330 := Try.func50.trans (congrArg some (by kernel_rfl))
  f331 := Try.func51.trans (congrArg some (by kernel_rfl))
  f332 := Try.func52.trans (congrArg some (by kernel_rfl))
  f343 := Try.func54.trans (congrArg some (by kernel_rfl))
  t0 := Try.underlying0
  a0 := Try.isAgg0
  z0 := Try.sizeOf0
  v0 := Try.zeroValue0
  t3 := Try.underlying3
  a3 := Try.isAgg3
  z3 := Try.sizeOf3
  v3 := Try.zeroValue3
  t4 := Try.underlying4
  a4 := Try.isAgg4
  z4 := Try.sizeOf4
  v4 := Try.zeroValue4
  t5 := Try.underlying5
  a5 := Try.isAgg5
  z5 := Try.sizeOf5
  v5 := Try.zeroValue5
  t9 := Try.underlying9
  a9 := Try.isAgg9
  z9 := Try.sizeOf9
  v9 := Try.zeroValue9
  t28 := Try.underlying22
  a28 := Try.isAgg22
  z28 := Try.sizeOf22
  v28 := Try.zeroValue22
  t46 := Try.underlying64
  a46 := Try.isAgg64
  z46 := Try.sizeOf64
  v46 := Try.zeroValue64
  t51 := Try.underlying74
  a51 := Try.isAgg74
  z51 := Try.sizeOf74
  v51 := Try.zeroValue74
  t53 := Try.underlying76
  a53 := Try.isAgg76
  z53 := Try.sizeOf76
  v53 := Try.zeroValue76
  t131 := Try.underlying28
  a131 := Try.isAgg28
  z131 := Try.sizeOf28
  v131 := Try.zeroValue28
  t182 := Try.underlying66
  a182 := Try.isAgg66
  z182 := Try.sizeOf66
  v182 := Try.zeroValue66
  t183 := Try.underlying67
  a183 := Try.isAgg67
  z183 := Try.sizeOf67
  v183 := Try.zeroValue67
  t218 := Try.underlying77
  a218 := Try.isAgg77
  z218 := Try.sizeOf77
  v218 := Try.zeroValue77
  t222 := Try.underlying81
  a222 := Try.isAgg81
  z222 := Try.sizeOf81
  v222 := Try.zeroValue81
  t228 := Try.underlying84
  a228 := Try.isAgg84
  z228 := Try.sizeOf84
  v228 := Try.zeroValue84
  t229 := Try.underlying85
  a229 := Try.isAgg85
  z229 := Try.sizeOf85
  v229 := Try.zeroValue85

def Hs (w : World) (B : Nat) (x : Option Addr) (n c : Nat) (l : List Int) : Prop :=
  l.length = n ∧ n ≤ c ∧ (n = 0 ∨ ∃ g, x = some ⟨g, 0, none⟩ ∧ B ≤ g ∧ g < w.heap.size ∧ Holds (Value.int .i64) w g 0 l.toArray)

theorem own_hs {w : World} {B : Nat} {x : Option Addr} {n c : Nat} {l : List Int} (h : Own w B 3 1 enN (.slice x n c) l) : Hs w B x n c l := by
  obtain ⟨x', c', e, h1, h2, h3⟩ := h.form
  injection e with e1 e2 e3
  subst e1 e2 e3
  refine ⟨rfl, h1, ?_⟩
  by_cases h0 : l.length = 0
  · exact .inl h0
  · cases x with
    | none => exact .inl (h2 rfl).1
    | some ad =>
      obtain ⟨g, rfl, hB, hg⟩ := h3 ad rfl
      refine .inr ⟨g, rfl, hB, hg, fun j hj => ?_⟩
      have hj2 : j < l.length := by simpa using hj
      have := h.cell nrow.len (List.getElem?_eq_getElem hj2) (j := 0) rfl
      rw [Nat.mul_one, Nat.add_zero] at this
      rw [Nat.zero_add]
      refine ⟨?_, h.frozen⟩
      rw [this, getElem!_pos l.toArray j hj]
      rfl

theorem put_turns {w : World} {g m : Nat} {d : Array Int} : Turns (fun k => k = g) w (putRow (Value.int .i64) (Go.Sort.ahead w m) g 0 d) := by
  refine ⟨rfl, rfl, rfl, by simp [putRow, mapBlock, Go.Sort.ahead], fun k hk hg => ?_⟩
  unfold putRow mapBlock Go.Sort.ahead
  dsimp only
  rw [Array.getElem?_modify, if_neg (Ne.symm hg)]

theorem sortI_any {w : World} {B : Nat} {x : Option Addr} {n c : Nat} {l : List Int} (h : Hs w B x n c l) (hn : n ≤ 17592186043904) :
    Calls Try.prog 31 #[.slice x n c] w fun e w' => e = .returned (.tuple #[]) ∧ Hid (∃ s : List Int, s.Perm l ∧ s.Pairwise (fun a b => a ≤ b) ∧ Hs w' B x n c s ∧ Turns (fun k => B ≤ k) w w') := by
  obtain ⟨h1, h2, h3⟩ := h
  by_cases h0 : n = 0
  · subst h0
    have e : l = [] := List.eq_nil_of_length_eq_zero h1
    subst e
    have hc := Any.slices_Sort_int_none laysI x c w
    change Calls Try.prog 31 _ _ _ at hc
    refine hc.mono fun e w' ⟨he, hw⟩ => ⟨he, [], List.Perm.refl _, List.Pairwise.nil, ⟨rfl, h2, .inl rfl⟩, ?_⟩
    subst hw
    exact Turns.refl _ _
  · rcases h3 with e | ⟨g, rfl, hB, hg, hH⟩
    · exact absurd e h0
    have hc := Any.slices_Sort_int laysI g 0 c l w hH hg (by omega)
    change Calls Try.prog 31 _ _ _ at hc
    rw [h1] at hc
    have hp := List.mergeSort_perm l (fun x y => decide (x ≤ y))
    have hl : (l.mergeSort fun x y => decide (x ≤ y)).length = n := by rw [hp.length_eq, h1]
    refine hc.mono fun e w' ⟨he, m, os, hw⟩ => ⟨he, _, hp, ?_, ⟨hl, h2, .inr ⟨g, rfl, hB, ?_, ?_⟩⟩, ?_⟩
    · have := List.pairwise_mergeSort (le := fun (x y : Int) => decide (x ≤ y)) (fun a b c h1 h2 => by simp at *; omega) (fun a b => by simp; omega) l
      exact this.imp fun {a b} h => by simpa using h
    · rw [hw]
      simp [putRow, mapBlock, Go.Sort.ahead]
      omega
    · rw [hw]
      exact Go.Sort.holds_grow (Value.int .i64) _ os g 0 _ (by simpa [putRow, mapBlock, Go.Sort.ahead] using hg) (Go.Sort.holds_putRow (Value.int .i64) _ g 0 _ _ (Go.Sort.holds_ahead (Value.int .i64) w m g 0 _ hH) (by simp))
    · rw [hw]
      have t := (put_turns (w := w) (g := g) (m := m) (d := (l.mergeSort fun x y => decide (x ≤ y)).toArray)).weak (G := fun k => B ≤ k) (fun k e => by omega)
      refine ⟨t.os, t.tape, t.output, by rw [Go.Sort.size_grow]; have := t.size; omega, fun k hk hk2 => ?_⟩
      have := t.block k hk hk2
      rw [← this]
      unfold Go.Sort.grow
      dsimp only
      rw [Array.getElem?_append_left (by have := t.size; omega)]

/- A sorted list is one that is read. -/
theorem hs_ns {w : World} {B : Nat} {x : Option Addr} {n c : Nat} {l : List Int} (h : Hs w B x n c l) (hn : x = none → n = 0 ∧ c = 0) (hs : n ≤ 17592186043904) : Ns w (fun g => B ≤ g ∧ g < w.heap.size) x n c l := by
  obtain ⟨h1, h2, h3⟩ := h
  refine ⟨h1, h2, hs, hn, ?_, fun _ _ => trivial⟩
  rcases h3 with e | ⟨g, rfl, hB, hg, hH⟩
  · exact .inl e
  · refine .inr ⟨g, 0, rfl, hg, ⟨hB, hg⟩, fun k a hk j v hv => ?_⟩
    have hk2 := (List.getElem?_eq_some_iff.1 hk)
    obtain ⟨hlt, e⟩ := hk2
    have hj : j = 0 := by
      have := (List.getElem?_eq_some_iff.1 hv).1
      unfold enN at this
      simpa using this
    subst hj
    have hv2 : v = .int .i64 a := by
      unfold enN at hv
      simpa using hv.symm
    subst hv2
    have := (hH k (by simpa using hlt)).1
    rw [getElem!_pos l.toArray k (by simpa using hlt)] at this
    rw [Nat.mul_one, Nat.add_zero]
    rw [this, ← e]
    rfl
theorem own_none {w : World} {B : Nat} {x : Option Addr} {n c : Nat} {l : List Int} (h : Own w B 3 1 enN (.slice x n c) l) : x = none → n = 0 ∧ c = 0 := by
  obtain ⟨x', c', e, h1, h2, h3⟩ := h.form
  injection e with e1 e2 e3
  subst e1 e2 e3
  exact h2

end Go.Proofs.Ytgcjecmgjncclaa.Pe
