/-
  2 texts of this proof, one behind the other: CrComp, CrRoom.
-/
import Derived.Shelf.Sort.Plain
import Derived.Shelf.Slices.In.SortNone
import Derived.Shelf.Slices.CompactI
import Derived.Test.YthlfmbijagpggaaCrInts
import Derived.Lib.AppendZeros
/-
  slices.Sort and slices.Compact at int, by the library's contracts: how many unlike numbers a list has.
  Conditions: the list is one's own.
-/
namespace Go.Proofs.Ythlfmbijagpggaa.Cr
open Go.RowKit Go.Shelf By Fl At
open Go.Sort (Holds putRow mapBlock)
set_option linter.unusedVariables false
set_option linter.unusedSimpArgs false
set_option maxRecDepth 100000

def renI : Go.Shelf.Ren := ⟨fun | 125 => 59 | 128 => 76 | 129 => 77 | 189 => 53 | 215 => 60 | 216 => 85 | 257 => 63 | 294 => 79 | 295 => 80 | 296 => 81 | 297 => 82 | 298 => 83 | 299 => 84 | 300 => 86 | 301 => 87 | 328 => 94 | 329 => 90 | 330 => 91 | 331 => 95 | 332 => 96 | 343 => 101 | n => n, fun | 0 => 0 | 3 => 3 | 4 => 4 | 5 => 5 | 9 => 9 | 28 => 23 | 46 => 97 | 51 => 73 | 53 => 110 | 131 => 121 | 182 => 116 | 183 => 117 | 218 => 132 | 222 => 136 | 228 => 143 | 229 => 144 | n => n, fun | n => n⟩

theorem laysI : Go.Proofs.Lays.n189 Try.prog renI where
  mixed := by kernel_rfl
  f125 := Try.func59.trans (congrArg some (by kernel_rfl))
  f128 := Try.func76.trans (congrArg some (by kernel_rfl))
  f129 := Try.func77.trans (congrArg some (by kernel_rfl))
  f189 := Try.func53.trans (congrArg some (by kernel_rfl))
  f215 := Try.func60.trans (congrArg some (by kernel_rfl))
  f216 := Try.func85.trans (congrArg some (by kernel_rfl))
  f257 := Try.func63.trans (congrArg some (by kernel_rfl))
  f294 := Try.func79.trans (congrArg some (by kernel_rfl))
  f295 := Try.func80.trans (congrArg some (by kernel_rfl))
  f296 := Try.func81.trans (congrArg some (by kernel_rfl))
  f297 := Try.func82.trans (congrArg some (by kernel_rfl))
  f298 := Try.func83.trans (congrArg some (by kernel_rfl))
  f299 := Try.func84.trans (congrArg some (by kernel_rfl))
  f300 := Try.func86.trans (congrArg some (by kernel_rfl))
  f301 := Try.func87.trans (congrArg some (by kernel_rfl))
  f328 := Try.func94.trans (congrArg some (by kernel_rfl))
  f329 := Try.func90.trans (congrArg some (by kernel_rfl))
  f330 := Try.func91.trans (congrArg some (by kernel_rfl))
  f331 := Try.func95.trans (congrArg some (by kernel_rfl))
  f332 := Try.func96.trans (congrArg some (by kernel_rfl))
  f343 := Try.func101.trans (congrArg some (by kernel_rfl))
  t0 := Try.underlying0
  a0 := Try.isAgg0
  z0 := Try.sizeOf0
  v0 := Try.zeroValue0
  t3 := Try.underlying3
  a3 := Try.isAgg3
  z3 := Try.sizeOf3
  v3 := Try.zeroValue3
  t4 := Try.underlying4
  a4 := Try.isAgg4
  z4 := Try.sizeOf4
  v4 := Try.zeroValue4
  t5 := Try.underlying5
  a5 := Try.isAgg5
  z5 := Try.sizeOf5
  v5 := Try.zeroValue5
  t9 := Try.underlying9
  a9 := Try.isAgg9
  z9 := Try.sizeOf9
  v9 := Try.zeroValue9
  t28 := Try.underlying23
  a28 := Try.isAgg23
  z28 := Try.sizeOf23
  v28 := Try.zeroValue23
  t46 := Try.underlying97
  a46 := Try.isAgg97
  z46 := Try.sizeOf97
  v46 := Try.zeroValue97
  t51 := Try.underlying73
  a51 := Try.isAgg73
  z51 := Try.sizeOf73
  v51 := Try.zeroValue73
  t53 := Try.underlying110
  a53 := Try.isAgg110
  z53 := Try.sizeOf110
  v53 := Try.zeroValue110
  t131 := Try.underlying121
  a131 := Try.isAgg121
  z131 := Try.sizeOf121
  v131 := Try.zeroValue121
  t182 := Try.underlying116
  a182 := Try.isAgg116
  z182 := Try.sizeOf116
  v182 := Try.zeroValue116
  t183 := Try.underlying117
  a183 := Try.isAgg117
  z183 := Try.sizeOf117
  v183 := Try.zeroValue117
  t218 := Try.underlying132
  a218 := Try.isAgg132
  z218 := Try.sizeOf132
  v218 := Try.zeroValue132
  t222 := Try.underlying136
  a222 := Try.isAgg136
  z222 := Try.sizeOf136
  v222 := Try.zeroValue136
  t228 := Try.underlying143
  a228 := Try.isAgg143
  z228 := Try.sizeOf143
  v228 := Try.zeroValue143
  t229 := Try.underlying144
  a229 := Try.isAgg144
  z229 := Try.sizeOf144
  v229 := Try.zeroValue144

def renC : Go.Shelf.Ren := ⟨fun | 20 => 54 | n => n, fun | 0 => 0 | 3 => 3 | 4 => 4 | 22 => 23 | n => n, fun | n => n⟩

theorem laysC : Go.Proofs.Lays2.n20 Try.prog renC where
  mixed := by kernel_rfl
  f20 := Try.func54.trans (congrArg some (by kernel_rfl))
  t0 := Try.underlying0
  a0 := Try.isAgg0
  z0 := Try.sizeOf0
  v0 := Try.zeroValue0
  t3 := Try.underlying3
  a3 := Try.isAgg3
  z3 := Try.sizeOf3
  v3 := Try.zeroValue3
  t4 := Try.underlying4
  a4 := Try.isAgg4
  z4 := Try.sizeOf4
  v4 := Try.zeroValue4
  t22 := Try.underlying23
  a22 := Try.isAgg23
  z22 := Try.sizeOf23
  v22 := Try.zeroValue23
  i3 := by kernel_rfl

/- A sorted list, cut to its unlike numbers, rises, and has the same members. -/
theorem comp_inc (d : Array Int) (hs : ∀ i j, i < j → j < d.size → d[i]! ≤ d[j]!) : ∀ m, m ≤ d.size → Inc (Lib.compactUpTo d m) ∧ (∀ k, k ∈ Lib.compactUpTo d m ↔ ∃ j, j < m ∧ d[j]! = k) := by
  intro m
  induction m with
  | zero => intro _; refine ⟨List.Pairwise.nil, fun k => ⟨fun h => (by cases h), fun ⟨j, h, _⟩ => (by omega)⟩⟩
  | succ m ih =>
    intro hm
    obtain ⟨h1, h2⟩ := ih (by omega)
    rw [Lib.compactUpTo_succ]
    by_cases hk : Lib.keeps d m = true
    · rw [if_pos hk]
      refine ⟨?_, fun k => ?_⟩
      · unfold Inc
        rw [List.pairwise_append]
        refine ⟨h1, List.pairwise_singleton _ _, fun a ha b hb => ?_⟩
        simp only [List.mem_singleton] at hb
        subst hb
        obtain ⟨j, hj, rfl⟩ := (h2 a).1 ha
        have hm0 : 0 < m := by omega
        have hne : d[m]! ≠ d[m - 1]! := fun e => by rw [Lib.keeps_neg hm0 e] at hk; cases hk
        have q1 := hs (m - 1) m (by omega) (by omega)
        by_cases e : j = m - 1
        · subst e; omega
        · have q2 := hs j (m - 1) (by omega) (by omega)
          omega
      · simp only [List.mem_append, List.mem_singleton, h2]
        constructor
        · rintro (⟨j, hj, e⟩ | e)
          · exact ⟨j, by omega, e⟩
          · exact ⟨m, by omega, e.symm⟩
        · rintro ⟨j, hj, e⟩
          by_cases ej : j = m
          · subst ej; exact .inr e.symm
          · exact .inl ⟨j, by omega, e⟩
    · rw [if_neg hk]
      refine ⟨by simpa using h1, fun k => ?_⟩
      simp only [List.append_nil, h2]
      have hm0 : m ≠ 0 := fun e => by
        subst e
        exact hk (Lib.keeps_lt_one d 0 (by omega))
      have he : d[m]! = d[m - 1]! := Decidable.byContradiction fun e => hk (Lib.keeps_pos e)
      constructor
      · rintro ⟨j, hj, e⟩
        exact ⟨j, by omega, e⟩
      · rintro ⟨j, hj, e⟩
        by_cases ej : j = m
        · subst ej
          exact ⟨j - 1, by omega, by rw [← he]; exact e⟩
        · exact ⟨j, by omega, e⟩

theorem comp_all {l s : List Int} (hp : s.Perm l) (hs : s.Pairwise (fun a b => a ≤ b)) : Inc (Lib.compact s) ∧ ∀ k, k ∈ Lib.compact s ↔ k ∈ l := by
  have h := comp_inc s.toArray (fun i j hij hj => by
    have hj2 : j < s.length := by simpa using hj
    have := List.pairwise_iff_getElem.1 hs i j (by omega) hj2 hij
    rw [getElem!_pos s.toArray i (by simp; omega), getElem!_pos s.toArray j (by simpa using hj2)]
    simpa using this) s.length (by simp)
  refine ⟨h.1, fun k => ?_⟩
  rw [← hp.mem_iff]
  unfold Lib.compact
  rw [h.2]
  constructor
  · rintro ⟨j, hj, e⟩
    rw [getElem!_pos s.toArray j (by simpa using hj)] at e
    rw [← e]
    simp
  · intro hk
    obtain ⟨j, hj⟩ := List.mem_iff_getElem?.1 hk
    obtain ⟨hlt, e⟩ := List.getElem?_eq_some_iff.1 hj
    refine ⟨j, hlt, ?_⟩
    rw [getElem!_pos s.toArray j (by simpa using hlt)]
    simpa using e

def Hs (w : World) (B : Nat) (x : Option Addr) (n c : Nat) (l : List Int) : Prop :=
  l.length = n ∧ n ≤ c ∧ (n = 0 ∨ ∃ g, x = some ⟨g, 0, none⟩ ∧ B ≤ g ∧ g < w.heap.size ∧ Holds (Value.int .i64) w g 0 l.toArray)

theorem own_hs {w : World} {B : Nat} {x : Option Addr} {n c : Nat} {l : List Int} (h : Own w B 3 1 enI (.slice x n c) l) : Hs w B x n c l := by
  obtain ⟨x', c', e, h1, h2, h3⟩ := h.form
  injection e with e1 e2 e3
  subst e1 e2 e3
  refine ⟨rfl, h1, ?_⟩
  by_cases h0 : l.length = 0
  · exact .inl h0
  · cases x with
    | none => exact .inl (h2 rfl).1
    | some ad =>
      obtain ⟨g, rfl, hB, hg⟩ := h3 ad rfl
      refine .inr ⟨g, rfl, hB, hg, fun j hj => ?_⟩
      have hj2 : j < l.length := by simpa using hj
      have := h.cell irow.len (List.getElem?_eq_getElem hj2) (j := 0) rfl
      rw [Nat.mul_one, Nat.add_zero] at this
      rw [Nat.zero_add]
      refine ⟨?_, h.frozen⟩
      rw [this, getElem!_pos l.toArray j hj]
      rfl

theorem put_turns {w : World} {g m : Nat} {d : Array Int} : Turns (fun k => k = g) w (putRow (Value.int .i64) (Go.Sort.ahead w m) g 0 d) := by
  refine ⟨rfl, rfl, rfl, by simp [putRow, mapBlock, Go.Sort.ahead], fun k hk hg => ?_⟩
  unfold putRow mapBlock Go.Sort.ahead
  dsimp only
  rw [Array.getElem?_modify, if_neg (Ne.symm hg)]

theorem sortI_any {w : World} {B : Nat} {x : Option Addr} {n c : Nat} {l : List Int} (h : Hs w B x n c l) (hn : n ≤ 1000) :
    Calls Try.prog 53 #[.slice x n c] w fun e w' => e = .returned (.tuple #[]) ∧ Hid (∃ s : List Int, s.Perm l ∧ s.Pairwise (fun a b => a ≤ b) ∧ Hs w' B x n c s ∧ Turns (fun k => B ≤ k) w w') := by
  obtain ⟨h1, h2, h3⟩ := h
  by_cases h0 : n = 0
  · subst h0
    have e : l = [] := List.eq_nil_of_length_eq_zero h1
    subst e
    have hc := Any.slices_Sort_int_none laysI x c w
    change Calls Try.prog 53 _ _ _ at hc
    refine hc.mono fun e w' ⟨he, hw⟩ => ⟨he, [], List.Perm.refl _, List.Pairwise.nil, ⟨rfl, h2, .inl rfl⟩, ?_⟩
    subst hw
    exact Turns.refl _ _
  · rcases h3 with e | ⟨g, rfl, hB, hg, hH⟩
    · exact absurd e h0
    have hc := Any.slices_Sort_int laysI g 0 c l w hH hg (by omega)
    change Calls Try.prog 53 _ _ _ at hc
    rw [h1] at hc
    have hp := List.mergeSort_perm l (fun x y => decide (x ≤ y))
    have hl : (l.mergeSort fun x y => decide (x ≤ y)).length = n := by rw [hp.length_eq, h1]
    refine hc.mono fun e w' ⟨he, m, os, hw⟩ => ⟨he, _, hp, ?_, ⟨hl, h2, .inr ⟨g, rfl, hB, ?_, ?_⟩⟩, ?_⟩
    · have := List.pairwise_mergeSort (le := fun (x y : Int) => decide (x ≤ y)) (fun a b c h1 h2 => by simp at *; omega) (fun a b => by simp; omega) l
      exact this.imp fun {a b} h => by simpa using h
    · rw [hw]
      simp [putRow, mapBlock, Go.Sort.ahead]
      omega
    · rw [hw]
      exact Go.Sort.holds_grow (Value.int .i64) _ os g 0 _ (by simpa [putRow, mapBlock, Go.Sort.ahead] using hg) (Go.Sort.holds_putRow (Value.int .i64) _ g 0 _ _ (Go.Sort.holds_ahead (Value.int .i64) w m g 0 _ hH) (by simp))
    · rw [hw]
      have t := (put_turns (w := w) (g := g) (m := m) (d := (l.mergeSort fun x y => decide (x ≤ y)).toArray)).weak (G := fun k => B ≤ k) (fun k e => by omega)
      refine ⟨t.os, t.tape, t.output, by rw [Go.Sort.size_grow]; have := t.size; omega, fun k hk hk2 => ?_⟩
      have := t.block k hk hk2
      rw [← this]
      unfold Go.Sort.grow
      dsimp only
      rw [Array.getElem?_append_left (by have := t.size; omega)]

theorem compI_any {w : World} {B : Nat} {x : Option Addr} {n c : Nat} {l : List Int} (h : Hs w B x n c l) (hn : n ≤ 1000) :
    Calls Try.prog 54 #[.slice x n c] w fun e w' => ∃ (y : Option Addr) (k : Nat), e = .returned (.slice y k c) ∧ Hid (k = (Lib.compact l).length ∧ Turns (fun k => B ≤ k) w w') := by
  obtain ⟨h1, h2, h3⟩ := h
  by_cases h0 : n = 0
  · subst h0
    have e : l = [] := List.eq_nil_of_length_eq_zero h1
    subst e
    have hc := Any.slices_Compact_int_empty laysC x c w
    change Calls Try.prog 54 _ _ _ at hc
    refine hc.mono fun e w' ⟨he, hw⟩ => ⟨x, 0, he, rfl, ?_⟩
    subst hw
    exact Turns.refl _ _
  · rcases h3 with e | ⟨g, rfl, hB, hg, hH⟩
    · exact absurd e h0
    have hc := Any.slices_Compact_int laysC g 0 c l w hH (by omega) (by omega)
    change Calls Try.prog 54 _ _ _ at hc
    rw [h1] at hc
    refine hc.mono fun e w' ⟨he, q, hw⟩ => ⟨_, _, he, rfl, ?_⟩
    rw [hw]
    exact put_turns.weak (fun k e => by omega)

end Go.Proofs.Ythlfmbijagpggaa.Cr

/-
  Package crush: how much room there is; the document's.
  Conditions: the list lies in memory, and is one of a map that may be.
-/
namespace Go.Proofs.Ythlfmbijagpggaa.Cr
open Go.RowKit Go.Shelf By Fl At
open Sr (Wd Ws enW)
set_option linter.unusedVariables false
set_option linter.unusedSimpArgs false
set_option maxRecDepth 100000

def hasW (o : Osd) : Bool := decide (0 < wO o)
def nms (d : Nat) (L : List Osd) : List Int := (L.filter hasW).map (kO d)

theorem nms_yes {d : Nat} {L : List Osd} {k : Nat} {o : Osd} (h : L[k]? = some o) (hw : 0 < wO o) : nms d (L.take (k + 1)) = nms d (L.take k) ++ [kO d o] := by
  unfold nms
  rw [List.take_add_one, h, List.filter_append, List.map_append]
  simp [hasW, hw]
theorem nms_no {d : Nat} {L : List Osd} {k : Nat} {o : Osd} (h : L[k]? = some o) (hw : ¬ 0 < wO o) : nms d (L.take (k + 1)) = nms d (L.take k) := by
  unfold nms
  rw [List.take_add_one, h, List.filter_append, List.map_append]
  simp [hasW, hw]
theorem nms_len (d : Nat) (L : List Osd) : (nms d L).length ≤ L.length := by
  unfold nms
  rw [List.length_map]
  exact List.length_filter_le _ _

theorem nms_rm {d : Nat} {L : List Osd} (h : NN L) {s : List Int} (hp : s.Perm (nms d L)) (hs : s.Pairwise (fun a b => a ≤ b)) : (Lib.compact s).length = rm d L := by
  obtain ⟨h1, h2⟩ := comp_all hp hs
  unfold rm
  rw [inc_ext h1 (pos_inc d L) (fun k => ?_)]
  rw [h2, mem_pos h]
  unfold nms
  simp only [List.mem_map, List.mem_filter, hasW, decide_eq_true_eq]
  constructor
  · rintro ⟨o, ⟨h3, h4⟩, e⟩
    exact ⟨o, h3, e, by omega⟩
  · rintro ⟨o, h3, e, h4⟩
    exact ⟨o, ⟨h3, by omega⟩, e⟩

def Ri (w wr : World) (d : Nat) (L : List Osd) (k : Nat) (xo : Option Addr) (no co : Nat) : Prop := Below w.heap.size w wr ∧ Own wr w.heap.size 3 1 enI (.slice xo no co) (nms d (L.take k))

set_option maxHeartbeats 3200000 in
theorem room_any {w : World} {x : Option Addr} {n c : Nat} {L : List Osd} (h : At.Os w x n c L) (hn : n ≤ 64) (hB : WB L) (z : Int) :
    Calls Try.prog 41 #[.slice x n c, .int .i64 z] w fun e w' => e = .returned (.int .i64 (rm (z + 1).toNat L : Nat)) ∧ Below w.heap.size w w' := by
  obtain ⟨d, hd⟩ : ∃ d, d = (z + 1).toNat := ⟨_, rfl⟩
  have cN := fun o V => number_any o z V
  rw [← hd] at cN ⊢
  have CN := hid cN
  have HO := hid h
  have HL := hid h.len
  have HW := hid hB
  clear h hB cN hd
  go_enter Try.func41, Try.ntmps41
  go_wp2_with fail
  go_loopw [10, 5] (fun i s wr => ∃ (k : Nat) (xo : Option Addr) (no co : Nat), k ≤ n ∧ i = .int .i64 k ∧ s = .slice xo no co ∧ no ≤ k ∧ Hid (Ri w wr d L k xo no co)) (fun i _ _ => n - (intOf i).toNat)
  case atStart => exact ⟨0, none, 0, 0, by omega, rfl, rfl, by omega, Below.refl _ _, Own.nil _ _ _ _ _⟩
  case round =>
    obtain ⟨k, xo, no, co, hk, rfl, rfl, hno, HR⟩ := hrel
    by_cases hlt : k < n
    · have hkn : (k : Int) < (n : Int) := by omega
      obtain ⟨m, hLm⟩ : ∃ m, L[k]? = some m := ⟨L[k]'(by have := HL.out; omega), List.getElem?_eq_getElem (by have := HL.out; omega)⟩
      have ho := HO.out.below HR.out.1
      rcases ho.row with h0 | ⟨b, o, rfl, hbl, hcell⟩
      · omega
      obtain ⟨k0, k1, k2, k3, k4, k5, k6, k7⟩ := At.Os.at (n := n) (c := c) hcell hLm
      have c1 := fun V => weight_any m V
      have c2 := fun V => CN.out m V
      have hlen := form_slice HR.out.2
      by_cases hw : 0 < wO m
      · have e1 := nms_yes (d := d) hLm hw
        have HE := hid (And.intro e1 hlen)
        have HR2 := hid (And.intro HR.out.1 HR.out.2)
        clear e1 HR ho hcell hLm hlen
        generalize kO d m = KY at *
        generalize wO m = wv at *
        obtain ⟨m0, m1, m2, m3, m4, m5, m6, m7⟩ := m
        unfold vO at c1 c2
        dsimp only at k0 k1 k2 k3 k4 k5 k6 k7 c1 c2
        obtain ⟨wA, hwA⟩ : ∃ wA, wA = wr.alloc (.cells #[.int .i64 m0, .bool m1, .bool m2, .int .i64 m3, .int .i64 m4, .int .i64 m5, .int .i64 m6, .int .i64 m7] 45) := ⟨_, rfl⟩
        have bA : Below wr.heap.size wr wA := by rw [hwA]; exact al _ _
        have q0 : wA.cell? ⟨wr.heap.size, 0, none⟩ = some (.int .i64 m0) := by rw [hwA]; go_simp
        have q1 : wA.cell? ⟨wr.heap.size, 1, none⟩ = some (.bool m1) := by rw [hwA]; go_simp
        have q2 : wA.cell? ⟨wr.heap.size, 2, none⟩ = some (.bool m2) := by rw [hwA]; go_simp
        have q3 : wA.cell? ⟨wr.heap.size, 3, none⟩ = some (.int .i64 m3) := by rw [hwA]; go_simp
        have q4 : wA.cell? ⟨wr.heap.size, 4, none⟩ = some (.int .i64 m4) := by rw [hwA]; go_simp
        have q5 : wA.cell? ⟨wr.heap.size, 5, none⟩ = some (.int .i64 m5) := by rw [hwA]; go_simp
        have q6 : wA.cell? ⟨wr.heap.size, 6, none⟩ = some (.int .i64 m6) := by rw [hwA]; go_simp
        have q7 : wA.cell? ⟨wr.heap.size, 7, none⟩ = some (.int .i64 m7) := by rw [hwA]; go_simp
        have HA := hid hwA
        clear hwA
        go_wp2_with (first
          | (go_at_call 51; rw [← HA.out]; refine (c1 _).mono ?_; rintro e w1 ⟨rfl, hb1⟩; clear c1
             have p0 := keep hb1 q0
             have p1 := keep hb1 q1
             have p2 := keep hb1 q2
             have p3 := keep hb1 q3
             have p4 := keep hb1 q4
             have p5 := keep hb1 q5
             have p6 := keep hb1 q6
             have p7 := keep hb1 q7)
          | (go_at_call 52; refine (c2 _).mono ?_; rintro e w2 ⟨rfl, hb2⟩; clear c2
             obtain ⟨x3, c3, w3, hap, H3⟩ := push_z (HR2.out.2.below (on bA (on hb1 hb2))) KY (by have := HE.out.2; omega) (by have := (on HR2.out.1 (on bA (on hb1 hb2))).size; omega)
             rw [HE.out.2] at hap H3)
          | (at_builtin; refine Lib.wpList_append_run _ rfl _ _ _ _ rfl _ _ rfl rfl _ _ hap ?_))
        go_roundw
        case rel =>
          refine ⟨k + 1, _, no + 1, _, by omega, by go_num, rfl, by omega, ?_, ?_⟩
          · exact (on HR2.out.1 (on bA (on hb1 hb2))).trans (H3.out.2.1.below (fun j e => by have := (HR2.out.2.tb e).1; omega) (by have := (on HR2.out.1 (on bA (on hb1 hb2))).size; omega))
          · rw [HE.out.1]
            exact H3.out.1
        case measure => simp [intOf]; omega
      · have e1 := nms_no (d := d) hLm hw
        have HE := hid (And.intro e1 hlen)
        have HR2 := hid (And.intro HR.out.1 HR.out.2)
        clear e1 HR ho hcell hLm hlen c2
        generalize wO m = wv at *
        obtain ⟨m0, m1, m2, m3, m4, m5, m6, m7⟩ := m
        unfold vO at c1
        dsimp only at k0 k1 k2 k3 k4 k5 k6 k7 c1
        have bA := al wr (.cells #[.int .i64 m0, .bool m1, .bool m2, .int .i64 m3, .int .i64 m4, .int .i64 m5, .int .i64 m6, .int .i64 m7] 45)
        go_wp2_with (go_at_call 51; refine (c1 _).mono ?_; rintro e w1 ⟨rfl, hb1⟩; clear c1)
        go_roundw
        case rel =>
          refine ⟨k + 1, _, no, _, by omega, by go_num, rfl, by omega, on HR2.out.1 (on bA hb1), ?_⟩
          rw [HE.out.1]
          exact HR2.out.2.below (on bA hb1)
        case measure => simp [intOf]; omega
    · have hk2 : k = n := by omega
      subst hk2
      have cS := sortI_any (own_hs HR.out.2) (by omega)
      have hfull : Hid (L.take k = L) := by
        show L.take k = L
        rw [← HL.out, List.take_length]
      have HC : Hid (∀ (w1 : World) (s : List Int), Hs w1 w.heap.size xo no co s → Calls Try.prog 54 #[.slice xo no co] w1 fun e w' => ∃ (y : Option Addr) (q : Nat), e = .returned (.slice y q co) ∧ Hid (q = (Lib.compact s).length ∧ Turns (fun k => w.heap.size ≤ k) w1 w')) := fun w1 s hs => compI_any hs (by omega)
      go_wp2_with (first
        | (go_at_call 53; refine cS.mono ?_; rintro e w1 ⟨rfl, H1⟩; clear cS; obtain ⟨s, s1, s2, s3, s4⟩ := H1.out; have cC := HC.out w1 s s3; have HP := hid (And.intro s1 (And.intro s2 s4)); clear s1 s2 s3 s4 H1 HC)
        | (go_at_call 54; refine cC.mono ?_; rintro e w2 ⟨y, q, rfl, H2⟩; clear cC))
      go_ret
      have e9 := nms_rm HW.out.nn (d := d) (L := L) (by rw [← hfull.out]; exact HP.out.1) HP.out.2.1
      refine ⟨?_, ?_⟩
      · rw [← e9, ← H2.out.1]
        rfl
      · exact HR.out.1.trans ((HP.out.2.2.trans H2.out.2).below (fun j e => e) HR.out.1.size)

end Go.Proofs.Ythlfmbijagpggaa.Cr
