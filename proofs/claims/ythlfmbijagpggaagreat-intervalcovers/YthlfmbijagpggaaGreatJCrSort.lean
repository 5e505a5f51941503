/-
  2 texts of this proof, one behind the other: CrSort, CrTree.
-/
import Derived.Test.YthlfmbijagpggaaGreatByHk
import Derived.Shelf.SlSortCmp.NoneTotal
import Derived.Test.YthlfmbijagpggaaGreatJCrSmall
import Derived.Test.YthlfmbijagpggaaGreatCrGrow
import Derived.Lib.AppendZeros
/-
  Package crush: OSDs sorted by rack, host and Id: slices.SortFunc by the library's contract.
  Conditions: none.
-/
namespace Go.Proofs.YthlfmbijagpggaaGreat.Cr
open Go.RowKit Go.Shelf By Fl At
open Go.Sort (SWO PermIn SortedIn HoldsK Holds flatK size_flatK get_flatK putRowK putRow mapBlock alloc_eq_grow grow_grow)
set_option linter.unusedVariables false
set_option linter.unusedSimpArgs false
set_option maxRecDepth 100000

def renS : Go.Shelf.Ren := ⟨fun | 6 => 69 | 14 => 83 | 15 => 84 | 20 => 93 | 21 => 94 | 22 => 95 | 23 => 96 | 24 => 97 | 25 => 98 | 26 => 99 | 27 => 100 | 28 => 101 | 29 => 102 | 46 => 114 | 47 => 115 | 48 => 116 | 49 => 117 | 50 => 118 | 57 => 125 | n => n, fun | 0 => 0 | 3 => 3 | 4 => 4 | 5 => 5 | 9 => 9 | 22 => 47 | 24 => 53 | 25 => 118 | 39 => 123 | 45 => 141 | 46 => 142 | 50 => 112 | 53 => 87 | 55 => 136 | 66 => 155 | 70 => 159 | 76 => 164 | 77 => 165 | n => n, fun | n => n⟩

theorem laysS : Go.Proofs.SlLaysF0.n6 Tryz.prog renS where
  mixed := by kernel_rfl
  f6 := ⟨Tryz.f69.name, by first | decide | kernel_rfl, Tryz.func69.trans (congrArg some (by kernel_rfl))⟩
  f14 := ⟨Tryz.f83.name, by first | decide | kernel_rfl, Tryz.func83.trans (congrArg some (by kernel_rfl))⟩
  f15 := Tryz.func84.trans (congrArg some (by kernel_rfl))
  f20 := ⟨Tryz.f93.name, by first | decide | kernel_rfl, Tryz.func93.trans (congrArg some (by kernel_rfl))⟩
  f21 := ⟨Tryz.f94.name, by first | decide | kernel_rfl, Tryz.func94.trans (congrArg some (by kernel_rfl))⟩
  f22 := ⟨Tryz.f95.name, by first | decide | kernel_rfl, Tryz.func95.trans (congrArg some (by kernel_rfl))⟩
  f23 := ⟨Tryz.f96.name, by first | decide | kernel_rfl, Tryz.func96.trans (congrArg some (by kernel_rfl))⟩
  f24 := ⟨Tryz.f97.name, by first | decide | kernel_rfl, Tryz.func97.trans (congrArg some (by kernel_rfl))⟩
  f25 := ⟨Tryz.f98.name, by first | decide | kernel_rfl, Tryz.func98.trans (congrArg some (by kernel_rfl))⟩
  f26 := ⟨Tryz.f99.name, by first | decide | kernel_rfl, Tryz.func99.trans (congrArg some (by kernel_rfl))⟩
  f27 := ⟨Tryz.f100.name, by first | decide | kernel_rfl, Tryz.func100.trans (congrArg some (by kernel_rfl))⟩
  f28 := Tryz.func101.trans (congrArg some (by kernel_rfl))
  f29 := Tryz.func102.trans (congrArg some (by kernel_rfl))
  f46 := ⟨Tryz.f114.name, by first | decide | kernel_rfl, Tryz.func114.trans (congrArg some (by kernel_rfl))⟩
  f47 := Tryz.func115.trans (congrArg some (by kernel_rfl))
  f48 := Tryz.func116.trans (congrArg some (by kernel_rfl))
  f49 := ⟨Tryz.f117.name, by first | decide | kernel_rfl, Tryz.func117.trans (congrArg some (by kernel_rfl))⟩
  f50 := ⟨Tryz.f118.name, by first | decide | kernel_rfl, Tryz.func118.trans (congrArg some (by kernel_rfl))⟩
  f57 := ⟨Tryz.f125.name, by first | decide | kernel_rfl, Tryz.func125.trans (congrArg some (by kernel_rfl))⟩
  t0 := Tryz.underlying0
  a0 := Tryz.isAgg0
  z0 := Tryz.sizeOf0
  v0 := Tryz.zeroValue0
  t3 := Tryz.underlying3
  a3 := Tryz.isAgg3
  z3 := Tryz.sizeOf3
  v3 := Tryz.zeroValue3
  t4 := Tryz.underlying4
  a4 := Tryz.isAgg4
  z4 := Tryz.sizeOf4
  v4 := Tryz.zeroValue4
  t5 := Tryz.underlying5
  a5 := Tryz.isAgg5
  z5 := Tryz.sizeOf5
  v5 := Tryz.zeroValue5
  t9 := Tryz.underlying9
  a9 := Tryz.isAgg9
  z9 := Tryz.sizeOf9
  v9 := Tryz.zeroValue9
  t22 := Tryz.underlying47
  a22 := Tryz.isAgg47
  z22 := Tryz.sizeOf47
  v22 := Tryz.zeroValue47
  t25 := Tryz.underlying118
  a25 := Tryz.isAgg118
  z25 := Tryz.sizeOf118
  v25 := Tryz.zeroValue118
  t39 := Tryz.underlying123
  a39 := Tryz.isAgg123
  z39 := Tryz.sizeOf123
  v39 := Tryz.zeroValue123
  t45 := Tryz.underlying141
  a45 := Tryz.isAgg141
  z45 := Tryz.sizeOf141
  v45 := Tryz.zeroValue141
  t46 := Tryz.underlying142
  a46 := Tryz.isAgg142
  z46 := Tryz.sizeOf142
  v46 := Tryz.zeroValue142
  t50 := Tryz.underlying112
  a50 := Tryz.isAgg112
  z50 := Tryz.sizeOf112
  v50 := Tryz.zeroValue112
  t53 := Tryz.underlying87
  a53 := Tryz.isAgg87
  z53 := Tryz.sizeOf87
  v53 := Tryz.zeroValue87
  t55 := Tryz.underlying136
  a55 := Tryz.isAgg136
  z55 := Tryz.sizeOf136
  v55 := Tryz.zeroValue136
  t66 := Tryz.underlying155
  a66 := Tryz.isAgg155
  z66 := Tryz.sizeOf155
  v66 := Tryz.zeroValue155
  t70 := Tryz.underlying159
  a70 := Tryz.isAgg159
  z70 := Tryz.sizeOf159
  v70 := Tryz.zeroValue159
  t76 := Tryz.underlying164
  a76 := Tryz.isAgg164
  z76 := Tryz.sizeOf164
  v76 := Tryz.zeroValue164
  t77 := Tryz.underlying165
  a77 := Tryz.isAgg165
  z77 := Tryz.sizeOf165
  v77 := Tryz.zeroValue165

def cfT (a b : Osd) : Int := or3 (cmpI a.rack b.rack) (cmpI a.host b.host) (cmpI a.id b.id)
def LexT (a b : Osd) : Prop := a.rack < b.rack ∨ a.rack = b.rack ∧ (a.host < b.host ∨ a.host = b.host ∧ a.id < b.id)

theorem cfT_lt (a b : Osd) : cfT a b < 0 ↔ LexT a b := by
  unfold cfT LexT or3 cmpI
  by_cases h1 : a.rack < b.rack
  · simp [h1]
  · by_cases h2 : b.rack < a.rack
    · have h3 : ¬ a.rack = b.rack := by omega
      simp [h1, h2, h3]
    · have h3 : a.rack = b.rack := by omega
      by_cases h4 : a.host < b.host
      · simp [h1, h2, h3, h4]
      · by_cases h5 : b.host < a.host
        · have h6 : ¬ a.host = b.host := by omega
          simp [h1, h2, h3, h4, h5, h6]
        · have h6 : a.host = b.host := by omega
          by_cases h7 : a.id < b.id
          · simp [h1, h2, h3, h4, h5, h6, h7]
          · by_cases h8 : b.id < a.id
            · simp [h1, h2, h3, h4, h5, h6, h7, h8]
            · simp [h1, h2, h3, h4, h5, h6, h7, h8]

theorem ltT (a b : Osd) : ltOf cfT a b = true ↔ LexT a b := by
  unfold ltOf
  rw [decide_eq_true_eq]
  exact cfT_lt a b
theorem ltT_no (a b : Osd) : ltOf cfT a b = false ↔ ¬ LexT a b := by rw [← ltT, Bool.not_eq_true]

theorem swoT : SWO (ltOf cfT) where
  irrefl x := (ltT_no _ _).2 (by unfold LexT; omega)
  trans x y z h1 h2 := by rw [ltT] at *; unfold LexT at *; omega
  ntrans x y z h1 h2 := by rw [ltT_no] at *; unfold LexT at *; omega

set_option maxHeartbeats 1600000 in
theorem tcmp_any (p q : Osd) (W : World) : Calls Tryz.prog 70 #[vO p, vO q] W fun e w' => e = .returned (.int .i64 (cfT p q)) ∧ ∃ k os', w' = Go.Sort.grow (W.drewN k) os' := by
  have c1 := fun a b V => compare_any a b V
  have c2 : ∀ (V : World) (a b c : Int), Calls Tryz.prog 71 #[.slice (some ⟨V.heap.size, 0, none⟩) 3 3] (V.alloc (.cells #[.int .i64 a, .int .i64 b, .int .i64 c] 3)) fun e w' => e = .returned (.int .i64 (or3 a b c)) ∧ w' = V.alloc (.cells #[.int .i64 a, .int .i64 b, .int .i64 c] 3) := fun V a b c => or_any a b c _ _ (by go_simp) (by go_simp) (by go_simp)
  obtain ⟨p0, p1, p2, p3, p4, p5, p6, p7⟩ := p
  obtain ⟨q0, q1, q2, q3, q4, q5, q6, q7⟩ := q
  unfold vO cfT
  dsimp only
  obtain ⟨WD, hWD⟩ : ∃ WD, WD = ((W.alloc (.cells #[.int .i64 p0, .bool p1, .bool p2, .int .i64 p3, .int .i64 p4, .int .i64 p5, .int .i64 p6, .int .i64 p7] 53)).alloc (.cells #[.int .i64 q0, .bool q1, .bool q2, .int .i64 q3, .int .i64 q4, .int .i64 q5, .int .i64 q6, .int .i64 q7] 53)).drew := ⟨_, rfl⟩
  have s0 : WD.cell? ⟨W.heap.size, 7, none⟩ = some (.int .i64 p7) := by rw [hWD]; go_simp
  have s1 : WD.cell? ⟨W.heap.size, 6, none⟩ = some (.int .i64 p6) := by rw [hWD]; go_simp
  have s2 : WD.cell? ⟨W.heap.size, 0, none⟩ = some (.int .i64 p0) := by rw [hWD]; go_simp
  have s3 : WD.cell? ⟨W.heap.size + 1, 7, none⟩ = some (.int .i64 q7) := by rw [hWD]; go_simp
  have s4 : WD.cell? ⟨W.heap.size + 1, 6, none⟩ = some (.int .i64 q6) := by rw [hWD]; go_simp
  have s5 : WD.cell? ⟨W.heap.size + 1, 0, none⟩ = some (.int .i64 q0) := by rw [hWD]; go_simp
  have HD : Hid (∃ os, WD = Go.Sort.grow (W.drewN 1) os) := ⟨_, by rw [hWD, alloc_eq_grow, alloc_eq_grow, grow_grow]; rfl⟩
  have HW := hid hWD
  clear hWD
  have c10 := fun V => compare_any p7 q7 V
  have c11 := fun V => compare_any p6 q6 V
  have c12 := fun V => compare_any p0 q0 V
  clear c1
  generalize hz0 : cmpI p7 q7 = z0 at *
  generalize hz1 : cmpI p6 q6 = z1 at *
  generalize hz2 : cmpI p0 q0 = z2 at *
  clear hz0 hz1 hz2
  go_enter Tryz.func70, Tryz.ntmps70
  go_wp2_with fail
  refine wp_region_held_drew (S := fun v => v.cell? ⟨W.heap.size, 7, none⟩ = some (.int .i64 p7) ∧ v.cell? ⟨W.heap.size, 6, none⟩ = some (.int .i64 p6) ∧ v.cell? ⟨W.heap.size, 0, none⟩ = some (.int .i64 p0) ∧ v.cell? ⟨W.heap.size + 1, 7, none⟩ = some (.int .i64 q7) ∧ v.cell? ⟨W.heap.size + 1, 6, none⟩ = some (.int .i64 q6) ∧ v.cell? ⟨W.heap.size + 1, 0, none⟩ = some (.int .i64 q0)) (by kernel_rfl) (by rw [← HW.out]; exact ⟨s0, s1, s2, s3, s4, s5⟩) (fun hHeld => ?_)
  rw [← HW.out] at hHeld ⊢
  refine By.hk 0 ?_
  refine By.hk 1 ?_
  refine By.hk 2 ?_
  refine By.hk 3 ?_
  refine By.hk 5 ?_
  refine By.hk 6 ?_
  refine By.hk 7 ?_
  refine By.hk 8 ?_
  refine By.hk 10 ?_
  refine By.hk 11 ?_
  refine By.hk 12 ?_
  refine By.hk 13 ?_
  refine wpAnyH_ready (rs := [4]) (by kernel_rfl) (by simp) ?_
  refine AllReadyH.cons rfl (fun K hK => ?_) AllReadyH.nil
  go_simp
  refine (c10 _).mono ?_
  rintro e w1 ⟨rfl, rfl⟩
  refine hK.out _ _ hHeld (fun hHeld => ?_)
  clear hK K
  refine wpAnyH_ready (rs := [9]) (by kernel_rfl) (by simp) ?_
  refine AllReadyH.cons rfl (fun K hK => ?_) AllReadyH.nil
  go_simp
  refine (c11 _).mono ?_
  rintro e w1 ⟨rfl, rfl⟩
  refine hK.out _ _ hHeld (fun hHeld => ?_)
  clear hK K
  refine wpAnyH_ready (rs := [14]) (by kernel_rfl) (by simp) ?_
  refine AllReadyH.cons rfl (fun K hK => ?_) AllReadyH.nil
  go_simp
  refine (c12 _).mono ?_
  rintro e w1 ⟨rfl, rfl⟩
  refine hK.out _ _ hHeld (fun hHeld => ?_)
  clear hK K
  have bA := al w1 (.cells #[.int .i64 z0, .int .i64 z1, .int .i64 z2] 3)
  have HA : (w1.alloc (.cells #[.int .i64 z0, .int .i64 z1, .int .i64 z2] 3)).cell? ⟨W.heap.size, 7, none⟩ = some (.int .i64 p7) ∧ (w1.alloc (.cells #[.int .i64 z0, .int .i64 z1, .int .i64 z2] 3)).cell? ⟨W.heap.size, 6, none⟩ = some (.int .i64 p6) ∧ (w1.alloc (.cells #[.int .i64 z0, .int .i64 z1, .int .i64 z2] 3)).cell? ⟨W.heap.size, 0, none⟩ = some (.int .i64 p0) ∧ (w1.alloc (.cells #[.int .i64 z0, .int .i64 z1, .int .i64 z2] 3)).cell? ⟨W.heap.size + 1, 7, none⟩ = some (.int .i64 q7) ∧ (w1.alloc (.cells #[.int .i64 z0, .int .i64 z1, .int .i64 z2] 3)).cell? ⟨W.heap.size + 1, 6, none⟩ = some (.int .i64 q6) ∧ (w1.alloc (.cells #[.int .i64 z0, .int .i64 z1, .int .i64 z2] 3)).cell? ⟨W.heap.size + 1, 0, none⟩ = some (.int .i64 q0) := ⟨keep bA s0, keep bA s1, keep bA s2, keep bA s3, keep bA s4, keep bA s5⟩
  have c20 := c2 w1 z0 z1 z2
  refine wpAnyH_ready (rs := [15]) (by kernel_rfl) (by simp) ?_
  refine AllReadyH.cons rfl (fun K hK => ?_) AllReadyH.nil
  go_simp
  refine hK.out _ _ HA (fun hHeld => ?_)
  clear hK K
  refine wpAnyH_ready (rs := [16]) (by kernel_rfl) (by simp) ?_
  refine AllReadyH.cons rfl (fun K hK => ?_) AllReadyH.nil
  go_simp
  refine c20.mono ?_
  rintro e w2 ⟨rfl, rfl⟩
  refine hK.out _ _ HA (fun hHeld => ?_)
  clear hK K
  refine By.hk 17 ?_
  refine wpAnyH_done (by kernel_rfl) ?_ _
  go_wp2_with fail
  go_ret
  obtain ⟨os, ho⟩ := HD.out
  exact ⟨rfl, 1, _, by rw [alloc_eq_grow, ho, grow_grow]⟩

theorem heap_sortW [Inhabited Osd] {w : World} {b n : Nat} {d : Array Osd} {os : Array Obj} {k : Nat} (hk : k < w.heap.size) (hb : k ≠ b) : (sortWorldK enO 8 w b 0 n d os).heap[k]? = w.heap[k]? := by
  unfold sortWorldK Go.Sort.grow putRowK putRow mapBlock Go.Sort.ahead
  dsimp only
  rw [Array.getElem?_append_left (by simpa using hk), Array.getElem?_modify, if_neg (Ne.symm hb)]

/- OSDs of one's own are sorted where they lie. -/
theorem sort_any {w : World} {B g n c : Nat} {L : List Osd} (h : Own w B 53 8 enO (.slice (some ⟨g, 0, none⟩) n c) L) (hn : n ≤ 64) :
    Calls Tryz.prog 69 #[.slice (some ⟨g, 0, none⟩) n c, .func (.func 70) #[] #[]] w fun e w' =>
      e = .returned (.tuple #[]) ∧ Hid (∃ K : List Osd, K.Perm L ∧ K.Pairwise (fun a b => ¬ LexT b a) ∧ At.Os w' (some ⟨g, 0, none⟩) n c K ∧ Turns (fun k => k = g) w w') := by
  haveI : Inhabited Osd := ⟨noO 0⟩
  obtain ⟨hL, hB, hc, hm, cur, hh, _⟩ := h.heap
  have hg : g < w.heap.size := (Array.getElem?_eq_some_iff.1 hh).1
  have hH : HoldsK enO 8 w g 0 L.toArray := by
    unfold HoldsK Holds
    intro j hj
    rw [size_flatK] at hj
    simp only [List.size_toArray] at hj
    rw [get_flatK _ _ _ _ (by simpa using hj), Nat.zero_add]
    obtain ⟨a, ha⟩ : ∃ a, L[j / 8]? = some a := ⟨L[j / 8]'(by omega), List.getElem?_eq_getElem (by omega)⟩
    have e : L.toArray[j / 8]! = a := by simp [ha]
    rw [e]
    have hv : (enO a)[j % 8]? = some ((enO a)[j % 8]'(by rw [orow.len]; omega)) := List.getElem?_eq_getElem _
    have := h.cell orow.len ha hv
    rw [show j / 8 * 8 + j % 8 = j by omega] at this
    refine ⟨?_, h.frozen⟩
    rw [this]
    congr 1
    rw [getElem!_pos (enO a) (j % 8) (by rw [orow.len]; omega)]
    rfl
  have eg : ∀ args w, (callFunc 70 args).run Tryz.prog w = .ok (.enter 70 args) w := enters_of Tryz.func70 (by kernel_rfl) rfl
  have hcon := AnyQ.slices_SortFunc laysS 8 Tryz.isAgg53 Tryz.sizeOf53 enO orow.len orow.one cfT swoT 70 #[] g 0 c L.toArray w eg (fun _ _ _ _ x y => tcmp_any x y _) hH hg (by simp; omega)
  change Calls Tryz.prog 69 _ _ _ at hcon
  rw [List.size_toArray, hL] at hcon
  refine hcon.mono fun e w' ⟨he, d', m, os, hp, hso, hw⟩ => ⟨he, d'.toList, ?_, ?_, ?_, ?_⟩
  · have h3 := hp.2.2
    have hsz := hp.1
    simp only [List.size_toArray, hL] at hsz
    have e1 : d'.extract 0 n = d' := by rw [← hsz]; exact Array.extract_size
    have e2 : L.toArray.extract 0 n = L.toArray := by
      have : L.toArray.size = n := by simpa using hL
      rw [← this]
      exact Array.extract_size
    rw [e1, e2] at h3
    simpa using h3
  · have hsz := hp.1
    simp only [List.size_toArray, hL] at hsz
    rw [List.pairwise_iff_getElem]
    intro i j hi hj hij
    have h4 := hso i j (Nat.zero_le _) hij (by rw [← hsz]; simpa using hj)
    rw [getElem!_pos d' j (by simpa using hj), getElem!_pos d' i (by simpa using hi)] at h4
    have := (ltT_no _ _).1 h4
    simpa using this
  · have hsz := hp.1
    have hK := holdsK_sortWorldK enO 8 w g 0 m L.toArray d' os hg hH hsz
    simp only [List.size_toArray, hL] at hsz
    rw [← hw] at hK
    refine ⟨by simpa using hsz, hc, by omega, (fun e => by cases e), .inr ⟨g, 0, rfl, ?_, fun k a hk j v hv => ?_⟩⟩
    · rw [hw]
      exact Nat.lt_of_lt_of_le hg (size_sortWorldK_c enO 8 w g 0 m d' os)
    · have hj : j < 8 := by
        have := (List.getElem?_eq_some_iff.1 hv).1
        rwa [orow.len] at this
      have hkl : k < d'.size := by
        have := (List.getElem?_eq_some_iff.1 hk).1
        simpa using this
      have := (hK (k * 8 + j) (by rw [size_flatK]; omega)).1
      rw [get_flatK _ _ _ _ (by omega), show (k * 8 + j) / 8 = k by omega, show (k * 8 + j) % 8 = j by omega] at this
      have e1 : d'[k]! = a := by
        rw [getElem!_pos d' k hkl]
        have := (List.getElem?_eq_some_iff.1 hk).2
        simpa using this
      rw [e1] at this
      have e2 : (enO a)[j]! = v := by
        rw [getElem!_pos (enO a) j (by rw [orow.len]; exact hj)]
        exact (List.getElem?_eq_some_iff.1 hv).2
      rw [e2] at this
      rw [show 0 + k * 8 + j = 0 + (k * 8 + j) by omega]
      exact this
  · subst hw
    exact ⟨rfl, rfl, rfl, size_sortWorldK_c enO 8 w g 0 m d' os, fun k hk hk2 => heap_sortW hk hk2⟩

end Go.Proofs.YthlfmbijagpggaaGreat.Cr

/-
  Package crush: tree.
  Conditions: the list lies in memory, and is one of a map that may be.
-/
namespace Go.Proofs.YthlfmbijagpggaaGreat.Cr
open Go.RowKit By Fl At
open Sr (Wd Ws enW)
set_option linter.unusedVariables false
set_option linter.unusedSimpArgs false
set_option maxRecDepth 100000

/- append([]Osd{}, l...) -/
theorem copy_own {w : World} {B : Nat} {x : Option Addr} {n c : Nat} {L : List Osd} (h : At.Os w x n c L) (hn : n ≤ 1000) (hB : B ≤ w.heap.size) (hx : x ≠ none) : ∃ x' c' w', (Builtin.append_ #[47, 47] 47 #[.slice (some ⟨w.heap.size, 0, none⟩) 0 0, .slice x n c]).run Tryz.prog (w.alloc (.cells #[] 53)) = .ok (.slice x' n c') w' ∧
    Hid (Own w' B 53 8 enO (.slice x' n c') L ∧ Below w.heap.size w w' ∧ ∀ g, (Value.slice x' n c').ownBlock = some g → w.heap.size ≤ g) := by
  cases x with
  | none => exact absurd rfl hx
  | some ad =>
    have h0 := h.below (al w (.cells #[] 53))
    have hl := h.len
    obtain ⟨x', c', w', hr, H⟩ := (Own.empty w (B := B) hB 53 8 enO).push orow (by simp; omega) ad n c L hl (fun j u hj => by
      have hjl := (List.getElem?_eq_some_iff.1 hj).1
      rw [flat_len orow.len, hl] at hjl
      rcases h0.row with q | ⟨b, o, e, hb, hc⟩
      · omega
      · injection e with e
        subst e
        rw [add_at]
        obtain ⟨a, ha⟩ : ∃ a, L[j / 8]? = some a := ⟨L[j / 8]'(by omega), List.getElem?_eq_getElem (by omega)⟩
        have hjj : j / 8 * 8 + j % 8 = j := by omega
        have := flat_get (enc := enO) (sz := 8) orow.len L (j / 8) a ha (j % 8) (by omega)
        rw [hjj] at this
        have := hc (j / 8) a ha (j % 8) u (this.symm.trans hj)
        rw [Nat.add_assoc, hjj] at this
        exact this) (by simp; omega)
    simp only [List.length_nil, Nat.zero_add, List.nil_append] at hr H
    refine ⟨x', c', w', hr, H.out.1, ?_, fun g hg => ?_⟩
    · exact (al w _).trans (H.out.2.1.below (B := w.heap.size) (fun k hk => by simp [Value.ownBlock] at hk; omega) (by simp))
    · rcases H.out.2.2 g hg with q | q
      · simp [Value.ownBlock] at q; omega
      · rw [q]; simp

theorem clone_any {w : World} {B : Nat} {x : Option Addr} {n c : Nat} {L : List Osd} (h : At.Os w x n c L) (hn : n ≤ 1000) (hB : B ≤ w.heap.size) :
    Calls Tryz.prog 68 #[.slice x n c] w fun e w' => ∃ x' c', e = .returned (.slice x' n c') ∧ Hid (Own w' B 53 8 enO (.slice x' n c') L ∧ Below w.heap.size w w' ∧ ∀ g, (Value.slice x' n c').ownBlock = some g → w.heap.size ≤ g) := by
  cases x with
  | none =>
    obtain ⟨h1, h2⟩ := h.nil rfl
    subst h1 h2
    have HF : Hid (Own w B 53 8 enO (.slice none 0 0) L) := by
      have : L = [] := List.eq_nil_of_length_eq_zero h.len
      subst this
      exact Own.nil _ _ _ _ _
    have he : ∀ w : World, (binOp .eql 47 (.slice none 0 0) (.slice none 0 0)).run Tryz.prog w = .ok (.bool true) w := fun _ => by kernel_rfl
    clear h
    go_enter Tryz.func68, Tryz.ntmps68
    go_wp2_with fail
    go_ret
    exact ⟨none, 0, rfl, HF.out, Below.refl _ _, fun g hg => by cases hg⟩
  | some ad =>
    obtain ⟨x', c', w', hr, H⟩ := copy_own h hn hB (fun e => by cases e)
    have he : ∀ w : World, (binOp .eql 47 (.slice (some ad) n c) (.slice none 0 0)).run Tryz.prog w = .ok (.bool false) w := fun _ => by kernel_rfl
    clear h
    go_enter Tryz.func68, Tryz.ntmps68
    go_wp2_with (at_builtin; refine Lib.wpList_append_run _ rfl _ _ _ _ rfl _ _ rfl rfl _ _ hr ?_)
    go_ret
    exact ⟨_, _, rfl, H.out⟩

theorem lex_t (a b : Osd) : LexD 3 a b ↔ LexT a b := by
  simp [LexD, LexT, kO]

/- OSDs of one's own are sorted where they lie, whether there are any or not. -/
theorem sorts_any {w : World} {B n c : Nat} {x : Option Addr} {L : List Osd} (h : Own w B 53 8 enO (.slice x n c) L) (hn : n ≤ 64) :
    Calls Tryz.prog 69 #[.slice x n c, .func (.func 70) #[] #[]] w fun e w' =>
      e = .returned (.tuple #[]) ∧ Hid (∃ S : List Osd, S.Perm L ∧ Srt 3 S ∧ At.Os w' x n c S ∧ Turns (fun k => B ≤ k) w w') := by
  have hL := form_slice h
  by_cases h0 : n = 0
  · subst h0
    have e : L = [] := List.eq_nil_of_length_eq_zero hL
    subst e
    have hc := AnyF.slices_SortFunc_none laysS x c (.func (.func 70) #[] #[]) w
    change Calls Tryz.prog 69 _ _ _ at hc
    refine hc.mono fun e w' ⟨he, hw⟩ => ⟨he, [], List.Perm.refl _, List.Pairwise.nil, ?_, ?_⟩
    · subst hw
      exact own_os h (by simp)
    · subst hw
      exact Turns.refl _ _
  · obtain ⟨g, c', e, h1, h2, h3, h4⟩ := h.there (fun e => h0 (by rw [← hL, e]; rfl))
    injection e with e1 e2 e3
    subst e1 e2 e3
    refine (sort_any h hn).mono fun e w' ⟨he, H⟩ => ⟨he, ?_⟩
    obtain ⟨K, k1, k2, k3, k4⟩ := H.out
    refine ⟨K, k1, k2.imp fun {a b} q => fun l => q ((lex_t _ _).1 l), k3, k4.weak fun j e => by omega⟩

def TreeOf (w : World) (L : List Osd) (e : Ending) (w' : World) : Prop := ∃ v : Bv, e = .returned (vB v) ∧ Hid (Below w.heap.size w w' ∧ ∃ S, S.Perm L ∧ BrAt w' (fun j => w.heap.size ≤ j) 3 v S)

set_option maxHeartbeats 1600000 in
theorem tree_any {w : World} {x : Option Addr} {n c : Nat} {L : List Osd} (h : At.Os w x n c L) (hn : n ≤ 64) (hB : WB L) : Calls Tryz.prog 62 #[.slice x n c] w fun e w' => TreeOf w L e w' := by
  obtain ⟨w0, hw0⟩ : ∃ w0, w0 = w.alloc (.cells #[.slice none 0 0, .slice none 0 0] 105) := ⟨_, rfl⟩
  have b0 : Below w.heap.size w w0 := by rw [hw0]; exact al _ _
  have hs0 : w0.heap.size = w.heap.size + 1 := by rw [hw0]; simp
  have l0 : w0.heap[w.heap.size]? = some (.cells #[.slice none 0 0, .slice none 0 0] 105 (0, 0)) := by rw [hw0]; exact heap_alloc_new w _
  have cC := clone_any (B := w0.heap.size) (h.below b0) (by omega) (Nat.le_refl _)
  have HS : Hid (∀ (w1 : World) (x1 : Option Addr) (c1 : Nat), Own w1 w0.heap.size 53 8 enO (.slice x1 n c1) L → Calls Tryz.prog 69 #[.slice x1 n c1, .func (.func 70) #[] #[]] w1 fun e w' =>
      e = .returned (.tuple #[]) ∧ Hid (∃ S : List Osd, S.Perm L ∧ Srt 3 S ∧ At.Os w' x1 n c1 S ∧ Turns (fun k => w0.heap.size ≤ k) w1 w')) := fun w1 x1 c1 ho => sorts_any ho hn
  have HG : Hid (∀ (w2 : World) (x1 : Option Addr) (c1 : Nat) (S : List Osd), S.Perm L → Srt 3 S → At.Os w2 x1 n c1 S → Calls Tryz.prog 73 #[.slice x1 n c1, .int .i64 2] w2 fun e w' => GrowsTo 3 w2 S e w') := fun w2 x1 c1 S hp hs ho => grow_any 3 (by omega) w2 x1 n c1 S ho hn (fun o ho => hB o (hp.mem_iff.1 ho)) hs
  have H0 : Hid (Below w.heap.size w w0 ∧ w0.heap.size = w.heap.size + 1 ∧ w0.heap[w.heap.size]? = some (.cells #[.slice none 0 0, .slice none 0 0] 105 (0, 0))) := ⟨b0, hs0, l0⟩
  have HW := hid hw0
  rw [hw0] at cC
  clear h hB b0 l0 hs0 hw0
  go_enter Tryz.func62, Tryz.ntmps62
  go_wp2_with (first
    | (go_at_call 68; refine cC.mono ?_; rintro e w1 ⟨x1, c1, rfl, H1⟩; clear cC; rw [← HW.out] at H1; have cS := HS.out w1 x1 c1 H1.out.1; clear HS)
    | (go_at_call 69; refine cS.mono ?_; rintro e w2 ⟨rfl, H2⟩; clear cS; obtain ⟨S, s1, s2, s3, s4⟩ := H2.out; have cG := HG.out w2 x1 c1 S s1 s2 s3; clear HG
       have T2 := (H1.out.2.1.trans (s4.below (B := w0.heap.size) (fun j e => e) H1.out.2.1.size))
       have HP := hid s1
       have H3 : Hid (Below w.heap.size w w2 ∧ w2.heap[w.heap.size]? = some (.cells #[.slice none 0 0, .slice none 0 0] 105 (0, 0)) ∧ w.heap.size + 1 ≤ w2.heap.size) := ⟨on H0.out.1 T2, (T2.block _ (by have := H0.out.2.1; omega)).trans H0.out.2.2, by have := H0.out.2.1; have := T2.size; omega⟩
       clear s1 s2 s3 s4 H2 T2 H1)
    | (go_at_call 73; refine cG.mono ?_; rintro e w3 ⟨v, rfl, H4⟩; clear cG
       have l3 := (H4.out.1.block _ (by have := H3.out.2.2; omega)).trans H3.out.2.1
       have r0 := cell_heap (j := 0) l3 rfl
       have r1 := cell_heap (j := 1) l3 rfl
       have f0 := fr_heap l3 0
       have f1 := fr_heap l3 1
       have HL := hid l3
       clear l3
       unfold vB))
  refine bodyPost_ret (v := vB v) ?_ rfl ?_
  · rw [results_cell1 rfl]
    unfold vB
    go_simp
  · have t4 : Turns (fun j => j = w.heap.size) w3 ((w3.setCell ⟨w.heap.size, 0, none⟩ (.slice v.x v.n v.c)).setCell ⟨w.heap.size, 1, none⟩ (.slice v.y v.m v.d)) := turns_put (turns_put (Turns.refl _ w3) 0 _) 1 _
    have hz := H3.out.2.2
    refine ⟨v, rfl, ?_, S, HP.out, ?_⟩
    · exact (on H3.out.1 H4.out.1).trans (t4.below (fun j e => by omega) (by have := H4.out.1.size; omega))
    · exact BrAt.mono (fun j hj _ => by omega) 3 v S (BrAt.turns t4 (fun j hj e => by omega) 3 v S H4.out.2)

end Go.Proofs.YthlfmbijagpggaaGreat.Cr
