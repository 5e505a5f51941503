/-
  2 texts of this proof, one behind the other: CrSort, CrTree.
-/
import Derived.Test.YthlfmbijagpggaaByHk
import Derived.Shelf.SlSortCmp.NoneTotal
import Derived.Test.YthlfmbijagpggaaJCrSmall
import Derived.Test.YthlfmbijagpggaaCrGrow
import Derived.Lib.AppendZeros
/-
  Package crush: OSDs sorted by rack, host and Id: slices.SortFunc by the library's contract.
  Conditions: none.
-/
namespace Go.Proofs.Ythlfmbijagpggaa.Cr
open Go.RowKit Go.Shelf By Fl At
open Go.Sort (SWO PermIn SortedIn HoldsK Holds flatK size_flatK get_flatK putRowK putRow mapBlock alloc_eq_grow grow_grow)
set_option linter.unusedVariables false
set_option linter.unusedSimpArgs false
set_option maxRecDepth 100000

def renS : Go.Shelf.Ren := ⟨fun | 6 => 46 | 14 => 58 | 15 => 59 | 20 => 68 | 21 => 69 | 22 => 70 | 23 => 71 | 24 => 72 | 25 => 73 | 26 => 74 | 27 => 75 | 28 => 76 | 29 => 77 | 46 => 89 | 47 => 90 | 48 => 91 | 49 => 92 | 50 => 93 | 57 => 100 | n => n, fun | 0 => 0 | 3 => 3 | 4 => 4 | 5 => 5 | 9 => 9 | 22 => 30 | 24 => 45 | 25 => 91 | 39 => 97 | 45 => 116 | 46 => 117 | 50 => 121 | 53 => 73 | 55 => 110 | 66 => 132 | 70 => 136 | 76 => 143 | 77 => 144 | n => n, fun | n => n⟩

theorem laysS : Go.Proofs.SlLaysF0.n6 Try.prog renS where
  mixed := by kernel_rfl
  f6 := ⟨Try.f46.name, by first | decide | kernel_rfl, Try.func46.trans (congrArg some (by kernel_rfl))⟩
  f14 := ⟨Try.f58.name, by first | decide | kernel_rfl, Try.func58.trans (congrArg some (by kernel_rfl))⟩
  f15 := Try.func59.trans (congrArg some (by kernel_rfl))
  f20 := ⟨Try.f68.name, by first | decide | kernel_rfl, Try.func68.trans (congrArg some (by kernel_rfl))⟩
  f21 := ⟨Try.f69.name, by first | decide | kernel_rfl, Try.func69.trans (congrArg some (by kernel_rfl))⟩
  f22 := ⟨Try.f70.name, by first | decide | kernel_rfl, Try.func70.trans (congrArg some (by kernel_rfl))⟩
  f23 := ⟨Try.f71.name, by first | decide | kernel_rfl, Try.func71.trans (congrArg some (by kernel_rfl))⟩
  f24 := ⟨Try.f72.name, by first | decide | kernel_rfl, Try.func72.trans (congrArg some (by kernel_rfl))⟩
  f25 := ⟨Try.f73.name, by first | decide | kernel_rfl, Try.func73.trans (congrArg some (by kernel_rfl))⟩
  f26 := ⟨Try.f74.name, by first | decide | kernel_rfl, Try.func74.trans (congrArg some (by kernel_rfl))⟩
  f27 := ⟨Try.f75.name, by first | decide | kernel_rfl, Try.func75.trans (congrArg some (by kernel_rfl))⟩
  f28 := Try.func76.trans (congrArg some (by kernel_rfl))
  f29 := Try.func77.trans (congrArg some (by kernel_rfl))
  f46 := ⟨Try.f89.name, by first | decide | kernel_rfl, Try.func89.trans (congrArg some (by kernel_rfl))⟩
  f47 := Try.func90.trans (congrArg some (by kernel_rfl))
  f48 := Try.func91.trans (congrArg some (by kernel_rfl))
  f49 := ⟨Try.f92.name, by first | decide | kernel_rfl, Try.func92.trans (congrArg some (by kernel_rfl))⟩
  f50 := ⟨Try.f93.name, by first | decide | kernel_rfl, Try.func93.trans (congrArg some (by kernel_rfl))⟩
  f57 := ⟨Try.f100.name, by first | decide | kernel_rfl, Try.func100.trans (congrArg some (by kernel_rfl))⟩
  t0 := Try.underlying0
  a0 := Try.isAgg0
  z0 := Try.sizeOf0
  v0 := Try.zeroValue0
  t3 := Try.underlying3
  a3 := Try.isAgg3
  z3 := Try.sizeOf3
  v3 := Try.zeroValue3
  t4 := Try.underlying4
  a4 := Try.isAgg4
  z4 := Try.sizeOf4
  v4 := Try.zeroValue4
  t5 := Try.underlying5
  a5 := Try.isAgg5
  z5 := Try.sizeOf5
  v5 := Try.zeroValue5
  t9 := Try.underlying9
  a9 := Try.isAgg9
  z9 := Try.sizeOf9
  v9 := Try.zeroValue9
  t22 := Try.underlying30
  a22 := Try.isAgg30
  z22 := Try.sizeOf30
  v22 := Try.zeroValue30
  t25 := Try.underlying91
  a25 := Try.isAgg91
  z25 := Try.sizeOf91
  v25 := Try.zeroValue91
  t39 := Try.underlying97
  a39 := Try.isAgg97
  z39 := Try.sizeOf97
  v39 := Try.zeroValue97
  t45 := Try.underlying116
  a45 := Try.isAgg116
  z45 := Try.sizeOf116
  v45 := Try.zeroValue116
  t46 := Try.underlying117
  a46 := Try.isAgg117
  z46 := Try.sizeOf117
  v46 := Try.zeroValue117
  t50 := Try.underlying121
  a50 := Try.isAgg121
  z50 := Try.sizeOf121
  v50 := Try.zeroValue121
  t53 := Try.underlying73
  a53 := Try.isAgg73
  z53 := Try.sizeOf73
  v53 := Try.zeroValue73
  t55 := Try.underlying110
  a55 := Try.isAgg110
  z55 := Try.sizeOf110
  v55 := Try.zeroValue110
  t66 := Try.underlying132
  a66 := Try.isAgg132
  z66 := Try.sizeOf132
  v66 := Try.zeroValue132
  t70 := Try.underlying136
  a70 := Try.isAgg136
  z70 := Try.sizeOf136
  v70 := Try.zeroValue136
  t76 := Try.underlying143
  a76 := Try.isAgg143
  z76 := Try.sizeOf143
  v76 := Try.zeroValue143
  t77 := Try.underlying144
  a77 := Try.isAgg144
  z77 := Try.sizeOf144
  v77 := Try.zeroValue144

def cfT (a b : Osd) : Int := or3 (cmpI a.rack b.rack) (cmpI a.host b.host) (cmpI a.id b.id)
def LexT (a b : Osd) : Prop := a.rack < b.rack ∨ a.rack = b.rack ∧ (a.host < b.host ∨ a.host = b.host ∧ a.id < b.id)

theorem cfT_lt (a b : Osd) : cfT a b < 0 ↔ LexT a b := by
  unfold cfT LexT or3 cmpI
  by_cases h1 : a.rack < b.rack
  · simp [h1]
  · by_cases h2 : b.rack < a.rack
    · have h3 : ¬ a.rack = b.rack := by omega
      simp [h1, h2, h3]
    · have h3 : a.rack = b.rack := by omega
      by_cases h4 : a.host < b.host
      · simp [h1, h2, h3, h4]
      · by_cases h5 : b.host < a.host
        · have h6 : ¬ a.host = b.host := by omega
          simp [h1, h2, h3, h4, h5, h6]
        · have h6 : a.host = b.host := by omega
          by_cases h7 : a.id < b.id
          · simp [h1, h2, h3, h4, h5, h6, h7]
          · by_cases h8 : b.id < a.id
            · simp [h1, h2, h3, h4, h5, h6, h7, h8]
            · simp [h1, h2, h3, h4, h5, h6, h7, h8]

theorem ltT (a b : Osd) : ltOf cfT a b = true ↔ LexT a b := by
  unfold ltOf
  rw [decide_eq_true_eq]
  exact cfT_lt a b
theorem ltT_no (a b : Osd) : ltOf cfT a b = false ↔ ¬ LexT a b := by rw [← ltT, Bool.not_eq_true]

theorem swoT : SWO (ltOf cfT) where
  irrefl x := (ltT_no _ _).2 (by unfold LexT; omega)
  trans x y z h1 h2 := by rw [ltT] at *; unfold LexT at *; omega
  ntrans x y z h1 h2 := by rw [ltT_no] at *; unfold LexT at *; omega

set_option maxHeartbeats 1600000 in
theorem tcmp_any (p q : Osd) (W : World) : Calls Try.prog 47 #[vO p, vO q] W fun e w' => e = .returned (.int .i64 (cfT p q)) ∧ ∃ k os', w' = Go.Sort.grow (W.drewN k) os' := by
  have c1 := fun a b V => compare_any a b V
  have c2 : ∀ (V : World) (a b c : Int), Calls Try.prog 48 #[.slice (some ⟨V.heap.size, 0, none⟩) 3 3] (V.alloc (.cells #[.int .i64 a, .int .i64 b, .int .i64 c] 3)) fun e w' => e = .returned (.int .i64 (or3 a b c)) ∧ w' = V.alloc (.cells #[.int .i64 a, .int .i64 b, .int .i64 c] 3) := fun V a b c => or_any a b c _ _ (by go_simp) (by go_simp) (by go_simp)
  obtain ⟨p0, p1, p2, p3, p4, p5, p6, p7⟩ := p
  obtain ⟨q0, q1, q2, q3, q4, q5, q6, q7⟩ := q
  unfold vO cfT
  dsimp only
  obtain ⟨WD, hWD⟩ : ∃ WD, WD = ((W.alloc (.cells #[.int .i64 p0, .bool p1, .bool p2, .int .i64 p3, .int .i64 p4, .int .i64 p5, .int .i64 p6, .int .i64 p7] 45)).alloc (.cells #[.int .i64 q0, .bool q1, .bool q2, .int .i64 q3, .int .i64 q4, .int .i64 q5, .int .i64 q6, .int .i64 q7] 45)).drew := ⟨_, rfl⟩
  have s0 : WD.cell? ⟨W.heap.size, 7, none⟩ = some (.int .i64 p7) := by rw [hWD]; go_simp
  have s1 : WD.cell? ⟨W.heap.size, 6, none⟩ = some (.int .i64 p6) := by rw [hWD]; go_simp
  have s2 : WD.cell? ⟨W.heap.size, 0, none⟩ = some (.int .i64 p0) := by rw [hWD]; go_simp
  have s3 : WD.cell? ⟨W.heap.size + 1, 7, none⟩ = some (.int .i64 q7) := by rw [hWD]; go_simp
  have s4 : WD.cell? ⟨W.heap.size + 1, 6, none⟩ = some (.int .i64 q6) := by rw [hWD]; go_simp
  have s5 : WD.cell? ⟨W.heap.size + 1, 0, none⟩ = some (.int .i64 q0) := by rw [hWD]; go_simp
  have HD : Hid (∃ os, WD = Go.Sort.grow (W.drewN 1) os) := ⟨_, by rw [hWD, alloc_eq_grow, alloc_eq_grow, grow_grow]; rfl⟩
  have HW := hid hWD
  clear hWD
  have c10 := fun V => compare_any p7 q7 V
  have c11 := fun V => compare_any p6 q6 V
  have c12 := fun V => compare_any p0 q0 V
  clear c1
  generalize hz0 : cmpI p7 q7 = z0 at *
  generalize hz1 : cmpI p6 q6 = z1 at *
  generalize hz2 : cmpI p0 q0 = z2 at *
  clear hz0 hz1 hz2
  go_enter Try.func47, Try.ntmps47
  go_wp2_with fail
  refine wp_region_held_drew (S := fun v => v.cell? ⟨W.heap.size, 7, none⟩ = some (.int .i64 p7) ∧ v.cell? ⟨W.heap.size, 6, none⟩ = some (.int .i64 p6) ∧ v.cell? ⟨W.heap.size, 0, none⟩ = some (.int .i64 p0) ∧ v.cell? ⟨W.heap.size + 1, 7, none⟩ = some (.int .i64 q7) ∧ v.cell? ⟨W.heap.size + 1, 6, none⟩ = some (.int .i64 q6) ∧ v.cell? ⟨W.heap.size + 1, 0, none⟩ = some (.int .i64 q0)) (by kernel_rfl) (by rw [← HW.out]; exact ⟨s0, s1, s2, s3, s4, s5⟩) (fun hHeld => ?_)
  rw [← HW.out] at hHeld ⊢
  refine By.hk 0 ?_
  refine By.hk 1 ?_
  refine By.hk 2 ?_
  refine By.hk 3 ?_
  refine By.hk 5 ?_
  refine By.hk 6 ?_
  refine By.hk 7 ?_
  refine By.hk 8 ?_
  refine By.hk 10 ?_
  refine By.hk 11 ?_
  refine By.hk 12 ?_
  refine By.hk 13 ?_
  refine wpAnyH_ready (rs := [4]) (by kernel_rfl) (by simp) ?_
  refine AllReadyH.cons rfl (fun K hK => ?_) AllReadyH.nil
  go_simp
  refine (c10 _).mono ?_
  rintro e w1 ⟨rfl, rfl⟩
  refine hK.out _ _ hHeld (fun hHeld => ?_)
  clear hK K
  refine wpAnyH_ready (rs := [9]) (by kernel_rfl) (by simp) ?_
  refine AllReadyH.cons rfl (fun K hK => ?_) AllReadyH.nil
  go_simp
  refine (c11 _).mono ?_
  rintro e w1 ⟨rfl, rfl⟩
  refine hK.out _ _ hHeld (fun hHeld => ?_)
  clear hK K
  refine wpAnyH_ready (rs := [14]) (by kernel_rfl) (by simp) ?_
  refine AllReadyH.cons rfl (fun K hK => ?_) AllReadyH.nil
  go_simp
  refine (c12 _).mono ?_
  rintro e w1 ⟨rfl, rfl⟩
  refine hK.out _ _ hHeld (fun hHeld => ?_)
  clear hK K
  have bA := al w1 (.cells #[.int .i64 z0, .int .i64 z1, .int .i64 z2] 3)
  have HA : (w1.alloc (.cells #[.int .i64 z0, .int .i64 z1, .int .i64 z2] 3)).cell? ⟨W.heap.size, 7, none⟩ = some (.int .i64 p7) ∧ (w1.alloc (.cells #[.int .i64 z0, .int .i64 z1, .int .i64 z2] 3)).cell? ⟨W.heap.size, 6, none⟩ = some (.int .i64 p6) ∧ (w1.alloc (.cells #[.int .i64 z0, .int .i64 z1, .int .i64 z2] 3)).cell? ⟨W.heap.size, 0, none⟩ = some (.int .i64 p0) ∧ (w1.alloc (.cells #[.int .i64 z0, .int .i64 z1, .int .i64 z2] 3)).cell? ⟨W.heap.size + 1, 7, none⟩ = some (.int .i64 q7) ∧ (w1.alloc (.cells #[.int .i64 z0, .int .i64 z1, .int .i64 z2] 3)).cell? ⟨W.heap.size + 1, 6, none⟩ = some (.int .i64 q6) ∧ (w1.alloc (.cells #[.int .i64 z0, .int .i64 z1, .int .i64 z2] 3)).cell? ⟨W.heap.size + 1, 0, none⟩ = some (.int .i64 q0) := ⟨keep bA s0, keep bA s1, keep bA s2, keep bA s3, keep bA s4, keep bA s5⟩
  have c20 := c2 w1 z0 z1 z2
  refine wpAnyH_ready (rs := [15]) (by kernel_rfl) (by simp) ?_
  refine AllReadyH.cons rfl (fun K hK => ?_) AllReadyH.nil
  go_simp
  refine hK.out _ _ HA (fun hHeld => ?_)
  clear hK K
  refine wpAnyH_ready (rs := [16]) (by kernel_rfl) (by simp) ?_
  refine AllReadyH.cons rfl (fun K hK => ?_) AllReadyH.nil
  go_simp
  refine c20.mono ?_
  rintro e w2 ⟨rfl, rfl⟩
  refine hK.out _ _ HA (fun hHeld => ?_)
  clear hK K
  refine By.hk 17 ?_
  refine wpAnyH_done (by kernel_rfl) ?_ _
  go_wp2_with fail
  go_ret
  obtain ⟨os, ho⟩ := HD.out
  exact ⟨rfl, 1, _, by rw [alloc_eq_grow, ho, grow_grow]⟩

theorem heap_sortW [Inhabited Osd] {w : World} {b n : Nat} {d : Array Osd} {os : Array Obj} {k : Nat} (hk : k < w.heap.size) (hb : k ≠ b) : (sortWorldK enO 8 w b 0 n d os).heap[k]? = w.heap[k]? := by
  unfold sortWorldK Go.Sort.grow putRowK putRow mapBlock Go.Sort.ahead
  dsimp only
  rw [Array.getElem?_append_left (by simpa using hk), Array.getElem?_modify, if_neg (Ne.symm hb)]

/- OSDs of one's own are sorted where they lie. -/
theorem sort_any {w : World} {B g n c : Nat} {L : List Osd} (h : Own w B 45 8 enO (.slice (some ⟨g, 0, none⟩) n c) L) (hn : n ≤ 64) :
    Calls Try.prog 46 #[.slice (some ⟨g, 0, none⟩) n c, .func (.func 47) #[] #[]] w fun e w' =>
      e = .returned (.tuple #[]) ∧ Hid (∃ K : List Osd, K.Perm L ∧ K.Pairwise (fun a b => ¬ LexT b a) ∧ At.Os w' (some ⟨g, 0, none⟩) n c K ∧ Turns (fun k => k = g) w w') := by
  haveI : Inhabited Osd := ⟨noO 0⟩
  obtain ⟨hL, hB, hc, hm, cur, hh, _⟩ := h.heap
  have hg : g < w.heap.size := (Array.getElem?_eq_some_iff.1 hh).1
  have hH : HoldsK enO 8 w g 0 L.toArray := by
    unfold HoldsK Holds
    intro j hj
    rw [size_flatK] at hj
    simp only [List.size_toArray] at hj
    rw [get_flatK _ _ _ _ (by simpa using hj), Nat.zero_add]
    obtain ⟨a, ha⟩ : ∃ a, L[j / 8]? = some a := ⟨L[j / 8]'(by omega), List.getElem?_eq_getElem (by omega)⟩
    have e : L.toArray[j / 8]! = a := by simp [ha]
    rw [e]
    have hv : (enO a)[j % 8]? = some ((enO a)[j % 8]'(by rw [orow.len]; omega)) := List.getElem?_eq_getElem _
    have := h.cell orow.len ha hv
    rw [show j / 8 * 8 + j % 8 = j by omega] at this
    refine ⟨?_, h.frozen⟩
    rw [this]
    congr 1
    rw [getElem!_pos (enO a) (j % 8) (by rw [orow.len]; omega)]
    rfl
  have eg : ∀ args w, (callFunc 47 args).run Try.prog w = .ok (.enter 47 args) w := enters_of Try.func47 (by kernel_rfl) rfl
  have hcon := AnyQ.slices_SortFunc laysS 8 Try.isAgg45 Try.sizeOf45 enO orow.len orow.one cfT swoT 47 #[] g 0 c L.toArray w eg (fun _ _ _ _ x y => tcmp_any x y _) hH hg (by simp; omega)
  change Calls Try.prog 46 _ _ _ at hcon
  rw [List.size_toArray, hL] at hcon
  refine hcon.mono fun e w' ⟨he, d', m, os, hp, hso, hw⟩ => ⟨he, d'.toList, ?_, ?_, ?_, ?_⟩
  · have h3 := hp.2.2
    have hsz := hp.1
    simp only [List.size_toArray, hL] at hsz
    have e1 : d'.extract 0 n = d' := by rw [← hsz]; exact Array.extract_size
    have e2 : L.toArray.extract 0 n = L.toArray := by
      have : L.toArray.size = n := by simpa using hL
      rw [← this]
      exact Array.extract_size
    rw [e1, e2] at h3
    simpa using h3
  · have hsz := hp.1
    simp only [List.size_toArray, hL] at hsz
    rw [List.pairwise_iff_getElem]
    intro i j hi hj hij
    have h4 := hso i j (Nat.zero_le _) hij (by rw [← hsz]; simpa using hj)
    rw [getElem!_pos d' j (by simpa using hj), getElem!_pos d' i (by simpa using hi)] at h4
    have := (ltT_no _ _).1 h4
    simpa using this
  · have hsz := hp.1
    have hK := holdsK_sortWorldK enO 8 w g 0 m L.toArray d' os hg hH hsz
    simp only [List.size_toArray, hL] at hsz
    rw [← hw] at hK
    refine ⟨by simpa using hsz, hc, by omega, (fun e => by cases e), .inr ⟨g, 0, rfl, ?_, fun k a hk j v hv => ?_⟩⟩
    · rw [hw]
      exact Nat.lt_of_lt_of_le hg (size_sortWorldK_c enO 8 w g 0 m d' os)
    · have hj : j < 8 := by
        have := (List.getElem?_eq_some_iff.1 hv).1
        rwa [orow.len] at this
      have hkl : k < d'.size := by
        have := (List.getElem?_eq_some_iff.1 hk).1
        simpa using this
      have := (hK (k * 8 + j) (by rw [size_flatK]; omega)).1
      rw [get_flatK _ _ _ _ (by omega), show (k * 8 + j) / 8 = k by omega, show (k * 8 + j) % 8 = j by omega] at this
      have e1 : d'[k]! = a := by
        rw [getElem!_pos d' k hkl]
        have := (List.getElem?_eq_some_iff.1 hk).2
        simpa using this
      rw [e1] at this
      have e2 : (enO a)[j]! = v := by
        rw [getElem!_pos (enO a) j (by rw [orow.len]; exact hj)]
        exact (List.getElem?_eq_some_iff.1 hv).2
      rw [e2] at this
      rw [show 0 + k * 8 + j = 0 + (k * 8 + j) by omega]
      exact this
  · subst hw
    exact ⟨rfl, rfl, rfl, size_sortWorldK_c enO 8 w g 0 m d' os, fun k hk hk2 => heap_sortW hk hk2⟩

end Go.Proofs.Ythlfmbijagpggaa.Cr

/-
  Package crush: tree.
  Conditions: the list lies in memory, and is one of a map that may be.
-/
namespace Go.Proofs.Ythlfmbijagpggaa.Cr
open Go.RowKit By Fl At
open Sr (Wd Ws enW)
set_option linter.unusedVariables false
set_option linter.unusedSimpArgs false
set_option maxRecDepth 100000

/- append([]Osd{}, l...) -/
theorem copy_own {w : World} {B : Nat} {x : Option Addr} {n c : Nat} {L : List Osd} (h : At.Os w x n c L) (hn : n ≤ 1000) (hB : B ≤ w.heap.size) (hx : x ≠ none) : ∃ x' c' w', (Builtin.append_ #[30, 30] 30 #[.slice (some ⟨w.heap.size, 0, none⟩) 0 0, .slice x n c]).run Try.prog (w.alloc (.cells #[] 45)) = .ok (.slice x' n c') w' ∧
    Hid (Own w' B 45 8 enO (.slice x' n c') L ∧ Below w.heap.size w w' ∧ ∀ g, (Value.slice x' n c').ownBlock = some g → w.heap.size ≤ g) := by
  cases x with
  | none => exact absurd rfl hx
  | some ad =>
    have h0 := h.below (al w (.cells #[] 45))
    have hl := h.len
    obtain ⟨x', c', w', hr, H⟩ := (Own.empty w (B := B) hB 45 8 enO).push orow (by simp; omega) ad n c L hl (fun j u hj => by
      have hjl := (List.getElem?_eq_some_iff.1 hj).1
      rw [flat_len orow.len, hl] at hjl
      rcases h0.row with q | ⟨b, o, e, hb, hc⟩
      · omega
      · injection e with e
        subst e
        rw [add_at]
        obtain ⟨a, ha⟩ : ∃ a, L[j / 8]? = some a := ⟨L[j / 8]'(by omega), List.getElem?_eq_getElem (by omega)⟩
        have hjj : j / 8 * 8 + j % 8 = j := by omega
        have := flat_get (enc := enO) (sz := 8) orow.len L (j / 8) a ha (j % 8) (by omega)
        rw [hjj] at this
        have := hc (j / 8) a ha (j % 8) u (this.symm.trans hj)
        rw [Nat.add_assoc, hjj] at this
        exact this) (by simp; omega)
    simp only [List.length_nil, Nat.zero_add, List.nil_append] at hr H
    refine ⟨x', c', w', hr, H.out.1, ?_, fun g hg => ?_⟩
    · exact (al w _).trans (H.out.2.1.below (B := w.heap.size) (fun k hk => by simp [Value.ownBlock] at hk; omega) (by simp))
    · rcases H.out.2.2 g hg with q | q
      · simp [Value.ownBlock] at q; omega
      · rw [q]; simp

theorem clone_any {w : World} {B : Nat} {x : Option Addr} {n c : Nat} {L : List Osd} (h : At.Os w x n c L) (hn : n ≤ 1000) (hB : B ≤ w.heap.size) :
    Calls Try.prog 45 #[.slice x n c] w fun e w' => ∃ x' c', e = .returned (.slice x' n c') ∧ Hid (Own w' B 45 8 enO (.slice x' n c') L ∧ Below w.heap.size w w' ∧ ∀ g, (Value.slice x' n c').ownBlock = some g → w.heap.size ≤ g) := by
  cases x with
  | none =>
    obtain ⟨h1, h2⟩ := h.nil rfl
    subst h1 h2
    have HF : Hid (Own w B 45 8 enO (.slice none 0 0) L) := by
      have : L = [] := List.eq_nil_of_length_eq_zero h.len
      subst this
      exact Own.nil _ _ _ _ _
    have he : ∀ w : World, (binOp .eql 30 (.slice none 0 0) (.slice none 0 0)).run Try.prog w = .ok (.bool true) w := fun _ => by kernel_rfl
    clear h
    go_enter Try.func45, Try.ntmps45
    go_wp2_with fail
    go_ret
    exact ⟨none, 0, rfl, HF.out, Below.refl _ _, fun g hg => by cases hg⟩
  | some ad =>
    obtain ⟨x', c', w', hr, H⟩ := copy_own h hn hB (fun e => by cases e)
    have he : ∀ w : World, (binOp .eql 30 (.slice (some ad) n c) (.slice none 0 0)).run Try.prog w = .ok (.bool false) w := fun _ => by kernel_rfl
    clear h
    go_enter Try.func45, Try.ntmps45
    go_wp2_with (at_builtin; refine Lib.wpList_append_run _ rfl _ _ _ _ rfl _ _ rfl rfl _ _ hr ?_)
    go_ret
    exact ⟨_, _, rfl, H.out⟩

theorem lex_t (a b : Osd) : LexD 3 a b ↔ LexT a b := by
  simp [LexD, LexT, kO]

/- OSDs of one's own are sorted where they lie, whether there are any or not. -/
theorem sorts_any {w : World} {B n c : Nat} {x : Option Addr} {L : List Osd} (h : Own w B 45 8 enO (.slice x n c) L) (hn : n ≤ 64) :
    Calls Try.prog 46 #[.slice x n c, .func (.func 47) #[] #[]] w fun e w' =>
      e = .returned (.tuple #[]) ∧ Hid (∃ S : List Osd, S.Perm L ∧ Srt 3 S ∧ At.Os w' x n c S ∧ Turns (fun k => B ≤ k) w w') := by
  have hL := form_slice h
  by_cases h0 : n = 0
  · subst h0
    have e : L = [] := List.eq_nil_of_length_eq_zero hL
    subst e
    have hc := AnyF.slices_SortFunc_none laysS x c (.func (.func 47) #[] #[]) w
    change Calls Try.prog 46 _ _ _ at hc
    refine hc.mono fun e w' ⟨he, hw⟩ => ⟨he, [], List.Perm.refl _, List.Pairwise.nil, ?_, ?_⟩
    · subst hw
      exact own_os h (by simp)
    · subst hw
      exact Turns.refl _ _
  · obtain ⟨g, c', e, h1, h2, h3, h4⟩ := h.there (fun e => h0 (by rw [← hL, e]; rfl))
    injection e with e1 e2 e3
    subst e1 e2 e3
    refine (sort_any h hn).mono fun e w' ⟨he, H⟩ => ⟨he, ?_⟩
    obtain ⟨K, k1, k2, k3, k4⟩ := H.out
    refine ⟨K, k1, k2.imp fun {a b} q => fun l => q ((lex_t _ _).1 l), k3, k4.weak fun j e => by omega⟩

def TreeOf (w : World) (L : List Osd) (e : Ending) (w' : World) : Prop := ∃ v : Bv, e = .returned (vB v) ∧ Hid (Below w.heap.size w w' ∧ ∃ S, S.Perm L ∧ BrAt w' (fun j => w.heap.size ≤ j) 3 v S)

set_option maxHeartbeats 1600000 in
theorem tree_any {w : World} {x : Option Addr} {n c : Nat} {L : List Osd} (h : At.Os w x n c L) (hn : n ≤ 64) (hB : WB L) : Calls Try.prog 40 #[.slice x n c] w fun e w' => TreeOf w L e w' := by
  obtain ⟨w0, hw0⟩ : ∃ w0, w0 = w.alloc (.cells #[.slice none 0 0, .slice none 0 0] 80) := ⟨_, rfl⟩
  have b0 : Below w.heap.size w w0 := by rw [hw0]; exact al _ _
  have hs0 : w0.heap.size = w.heap.size + 1 := by rw [hw0]; simp
  have l0 : w0.heap[w.heap.size]? = some (.cells #[.slice none 0 0, .slice none 0 0] 80 (0, 0)) := by rw [hw0]; exact heap_alloc_new w _
  have cC := clone_any (B := w0.heap.size) (h.below b0) (by omega) (Nat.le_refl _)
  have HS : Hid (∀ (w1 : World) (x1 : Option Addr) (c1 : Nat), Own w1 w0.heap.size 45 8 enO (.slice x1 n c1) L → Calls Try.prog 46 #[.slice x1 n c1, .func (.func 47) #[] #[]] w1 fun e w' =>
      e = .returned (.tuple #[]) ∧ Hid (∃ S : List Osd, S.Perm L ∧ Srt 3 S ∧ At.Os w' x1 n c1 S ∧ Turns (fun k => w0.heap.size ≤ k) w1 w')) := fun w1 x1 c1 ho => sorts_any ho hn
  have HG : Hid (∀ (w2 : World) (x1 : Option Addr) (c1 : Nat) (S : List Osd), S.Perm L → Srt 3 S → At.Os w2 x1 n c1 S → Calls Try.prog 50 #[.slice x1 n c1, .int .i64 2] w2 fun e w' => GrowsTo 3 w2 S e w') := fun w2 x1 c1 S hp hs ho => grow_any 3 (by omega) w2 x1 n c1 S ho hn (fun o ho => hB o (hp.mem_iff.1 ho)) hs
  have H0 : Hid (Below w.heap.size w w0 ∧ w0.heap.size = w.heap.size + 1 ∧ w0.heap[w.heap.size]? = some (.cells #[.slice none 0 0, .slice none 0 0] 80 (0, 0))) := ⟨b0, hs0, l0⟩
  have HW := hid hw0
  rw [hw0] at cC
  clear h hB b0 l0 hs0 hw0
  go_enter Try.func40, Try.ntmps40
  go_wp2_with (first
    | (go_at_call 45; refine cC.mono ?_; rintro e w1 ⟨x1, c1, rfl, H1⟩; clear cC; rw [← HW.out] at H1; have cS := HS.out w1 x1 c1 H1.out.1; clear HS)
    | (go_at_call 46; refine cS.mono ?_; rintro e w2 ⟨rfl, H2⟩; clear cS; obtain ⟨S, s1, s2, s3, s4⟩ := H2.out; have cG := HG.out w2 x1 c1 S s1 s2 s3; clear HG
       have T2 := (H1.out.2.1.trans (s4.below (B := w0.heap.size) (fun j e => e) H1.out.2.1.size))
       have HP := hid s1
       have H3 : Hid (Below w.heap.size w w2 ∧ w2.heap[w.heap.size]? = some (.cells #[.slice none 0 0, .slice none 0 0] 80 (0, 0)) ∧ w.heap.size + 1 ≤ w2.heap.size) := ⟨on H0.out.1 T2, (T2.block _ (by have := H0.out.2.1; omega)).trans H0.out.2.2, by have := H0.out.2.1; have := T2.size; omega⟩
       clear s1 s2 s3 s4 H2 T2 H1)
    | (go_at_call 50; refine cG.mono ?_; rintro e w3 ⟨v, rfl, H4⟩; clear cG
       have l3 := (H4.out.1.block _ (by have := H3.out.2.2; omega)).trans H3.out.2.1
       have r0 := cell_heap (j := 0) l3 rfl
       have r1 := cell_heap (j := 1) l3 rfl
       have f0 := fr_heap l3 0
       have f1 := fr_heap l3 1
       have HL := hid l3
       clear l3
       unfold vB))
  refine bodyPost_ret (v := vB v) ?_ rfl ?_
  · rw [results_cell1 rfl]
    unfold vB
    go_simp
  · have t4 : Turns (fun j => j = w.heap.size) w3 ((w3.setCell ⟨w.heap.size, 0, none⟩ (.slice v.x v.n v.c)).setCell ⟨w.heap.size, 1, none⟩ (.slice v.y v.m v.d)) := turns_put (turns_put (Turns.refl _ w3) 0 _) 1 _
    have hz := H3.out.2.2
    refine ⟨v, rfl, ?_, S, HP.out, ?_⟩
    · exact (on H3.out.1 H4.out.1).trans (t4.below (fun j e => by omega) (by have := H4.out.1.size; omega))
    · exact BrAt.mono (fun j hj _ => by omega) 3 v S (BrAt.turns t4 (fun j hj e => by omega) 3 v S H4.out.2)

end Go.Proofs.Ythlfmbijagpggaa.Cr
