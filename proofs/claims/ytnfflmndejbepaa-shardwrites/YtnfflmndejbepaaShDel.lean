/-
  slices.Delete at items, entries, Undos and shards.
  Conditions: the row is one's own.
-/
import Derived.Test.YtnfflmndejbepaaJMxOrders
import Derived.Test.YtnfflmndejbepaaShOwn
namespace Go.Proofs.Ytnfflmndejbepaa.Sh
set_option linter.unusedSectionVars false
variable [Inhabited DZ]
open Go.RowKit By Fl
set_option linter.unusedVariables false
set_option linter.unusedSimpArgs false
set_option maxRecDepth 100000

section
variable {α : Type} {w w' : World} {B : Nat} {T e : TypeId} {sz bt : Nat} {enc : α → List Value} {R : Value} {L : List α}

theorem slideN {g n c i j : Nat} (h : Own w B e sz enc (.slice (Option.some ⟨g, 0, Option.none⟩) n c) L) (r : Row T e sz bt enc) (hij : i ≤ j) (hj : j ≤ n) (o : Nat) (ho : j < c → o = j * sz) :
    ∃ w', (Builtin.append_ #[T, T] T #[.slice (Option.some ⟨g, 0, Option.none⟩) i c, .slice (Option.some ⟨g, o, Option.none⟩) (n - j) (c - j)]).run Try.prog w = .ok (.slice (Option.some ⟨g, 0, Option.none⟩) (i + (n - j)) c) w' ∧
      Hid (Own w' B e sz enc (.slice (Option.some ⟨g, 0, Option.none⟩) n c) (L.take i ++ L.drop j ++ L.drop (i + (n - j))) ∧ Turns (fun k => k = g) w w') := by
  obtain ⟨hL, hBg, hnc, hcm, cur, h0, hz, ht⟩ := h.heap
  obtain ⟨i0, z, i1, i2, i3, i4, i5⟩ := r.info
  have hsz := r.pos
  have hsrc : ∀ q u, (flat enc (L.drop j))[q]? = Option.some u → w.cell? ((⟨g, o, Option.none⟩ : Addr).add q) = Option.some u := fun q u hq => by
    have hlt := (List.getElem?_eq_some_iff.1 hq).1
    rw [flat_len r.len, List.length_drop, hL] at hlt
    have hic : j < c := by
      have : 0 < n - j := by
        rcases Nat.eq_zero_or_pos (n - j) with h1 | h1
        · rw [h1] at hlt; omega
        · exact h1
      omega
    rw [add_at, ho hic]
    rw [← flat_drop r.len, List.getElem?_drop] at hq
    have := World.ownsRow.cells h (g := g) rfl _ u hq
    rwa [add_at, Nat.zero_add] at this
  have hfl : (flat enc (L.drop j)).length = (n - j) * sz := by rw [flat_len r.len, List.length_drop, hL]
  have hin : i + (n - j) ≤ c := by omega
  have hfit : i * sz + (n - j) * sz ≤ c * sz := by rw [← Nat.add_mul]; exact Nat.mul_le_mul_right _ hin
  have hrun := run_append_room (P := Try.prog) w T T e i0 r.und i1 g i c cur h0 ⟨g, o, Option.none⟩ (n - j) (c - j) (flat enc (L.drop j)) (by rw [i3]; exact hfl) hsrc
    (fun u hu => by obtain ⟨a, _, ha⟩ := flat_mem hu; exact r.one a u ha) hin (by rw [i3, hfl, hz]; exact hfit)
  rw [i3, hfl] at hrun
  refine ⟨_, hrun, ?_, setRow_turns _ _ _⟩
  have e1 : (L.take i ++ L.drop j ++ L.drop (i + (n - j))).length = n := by
    simp only [List.length_append, List.length_take, List.length_drop, hL]
    omega
  have h1 := setRow_heap w g cur (cur.toList.take (i * sz) ++ flat enc (L.drop j) ++ cur.toList.drop (i * sz + (n - j) * sz)).toArray e (0, 0) h0
  have hcl : cur.toList.length = c * sz := by rw [Array.length_toList]; exact hz
  have hnz : n * sz ≤ c * sz := Nat.mul_le_mul_right _ hnc
  have hiz : i * sz ≤ n * sz := Nat.mul_le_mul_right _ (by omega)
  have e3 : i * sz + (n - j) * sz = (i + (n - j)) * sz := by rw [← Nat.add_mul]
  have e4 : (i + (n - j)) * sz ≤ n * sz := Nat.mul_le_mul_right _ (by omega)
  have key := Own.of_heap (K := L.take i ++ L.drop j ++ L.drop (i + (n - j))) h1 hBg (by rw [e1]; exact hnc) hcm (by
      simp only [List.size_toArray, List.length_append, List.length_take, List.length_drop, hfl, hcl]
      omega) r.len (by
      rw [e1, flat_app, flat_app, ← flat_take r.len L i, ← flat_drop r.len L (i + (n - j)), ← ht]
      simp only []
      rw [List.take_append, List.take_of_length_le (l := cur.toList.take (i * sz) ++ flat enc (L.drop j)) (by simp only [List.length_append, List.length_take, hfl, hcl]; omega), List.take_take, Nat.min_eq_left hiz]
      congr 1
      simp only [List.length_append, List.length_take, hfl, hcl]
      rw [Nat.min_eq_left (by omega), e3, List.drop_take])
  rw [e1] at key
  exact key
end

theorem elemI_row : Try.prog.underlying 22 = some (.slice (Try.prog.elem 22)) := by kernel_rfl
theorem elemI_is : Try.prog.elem 22 = 79 := by kernel_rfl
theorem sizeI (w : World) : (sizeOf 79).run Try.prog w = .ok 4 w := by kernel_rfl

theorem deleteI_any {w : World} {B g n c i j : Nat} {L : List IV} (h : Own w B 79 4 enI (.slice (some ⟨g, 0, none⟩) n c) L) (hij : i < j) (hj : j ≤ n) :
    Calls Try.prog 92 #[.slice (some ⟨g, 0, none⟩) n c, .int .i64 (i : Int), .int .i64 (j : Int)] w fun r w' => r = .returned (.slice (some ⟨g, 0, none⟩) (i + (n - j)) c) ∧
      Hid (Own w' B 79 4 enI (.slice (some ⟨g, 0, none⟩) (i + (n - j)) c) (L.take i ++ L.drop j) ∧ Turns (fun k => k = g) w w') := by
  obtain ⟨hL, _, hnc, hcm, _⟩ := h.heap
  have hm : c ≤ 9223372036854775807 := by unfold maxLen at hcm; omega
  obtain ⟨o, ho, hA⟩ : ∃ o, (j < c → o = j * 4) ∧ (if c = j then some (⟨g, 0, none⟩ : Addr) else some ⟨g, j * 4, none⟩) = some ⟨g, o, none⟩ := by
    by_cases e : c = j
    · exact ⟨0, fun h => by omega, by rw [if_pos e]⟩
    · exact ⟨j * 4, fun _ => rfl, by rw [if_neg e]⟩
  have hd : Own w.drew B 79 4 enI (.slice (some ⟨g, 0, none⟩) n c) L := h.below (Below.refl _ _).drew
  obtain ⟨w1, hap, H1⟩ := slideN hd irow (Nat.le_of_lt hij) hj o ho
  obtain ⟨q, hq⟩ : ∃ q, q = i + (n - j) := ⟨_, rfl⟩
  rw [← hq] at hap H1 ⊢
  have hqn : q ≤ n := by omega
  have hqc : ¬ c = q := by omega
  have hqm : n ≤ c := hnc
  obtain ⟨w2, hcl0, H2⟩ := H1.out.1.clear irow hqn (q * 4) (c - q) (fun _ => rfl) (.agg #[.string ⟨#[]⟩, .int .i64 0, .slice none 0 0, .int .u32 0]) (by kernel_rfl) rfl (by intro u hu; simp [Value.cells] at hu; rcases hu with rfl | rfl | rfl | rfl <;> rfl) 0
  have hcl : ∀ ty, (Builtin.clear_ #[22] ty #[.slice (some ⟨g, q * 4, none⟩) (n - q) (c - q)]).run Try.prog w1 = .ok (.tuple #[]) w2 := fun ty => hcl0
  have HN : Hid (Own w2 B 79 4 enI (.slice (some ⟨g, 0, none⟩) q c) (L.take i ++ L.drop j) ∧ Turns (fun k => k = g) w w2) := by
    have h2 := H2.out.1
    have e2 : (L.take i ++ L.drop j ++ L.drop q).take q = L.take i ++ L.drop j := by
      rw [List.take_append_of_le_length (by simp only [List.length_append, List.length_take, List.length_drop, hL]; omega), List.take_of_length_le (by simp only [List.length_append, List.length_take, List.length_drop, hL]; omega)]
    rw [e2] at h2
    exact ⟨h2, ((Turns.refl _ w).drew.trans H1.out.2).trans H2.out.2⟩
  have hjn : j ≤ n := hj
  have hij2 : i ≤ j := by omega
  have hic : i ≤ c := by omega
  have hjc : j ≤ c := by omega
  have hne : (i : Int) ≠ (j : Int) := by omega
  clear h hij hj hcm hL hd H1 H2 ho hcl0 hq hnc
  go_enter Try.func92, Try.ntmps92
  go_wp2_with fail
  refine wp_region_held_drew (S := fun _ => True) (by kernel_rfl) trivial (fun hHeld => ?_)
  refine By.hk 0 ?_
  refine By.hk 1 ?_
  refine By.hk 2 ?_
  refine By.hk 3 ?_
  refine By.hk 4 ?_
  refine By.hk 5 ?_
  refine wpAnyH_ready (rs := [6]) (by kernel_rfl) (by simp) ?_
  refine AllReadyH.cons rfl (fun K hK => ?_) AllReadyH.nil
  refine st_append rfl _ _ 22 rfl _ _ rfl rfl hap ?_
  (try simp only [Act.put, List.getElem_toArray, List.getElem_cons_succ, List.getElem_cons_zero, List.setIfInBounds_toArray, List.set_cons_zero, List.set_cons_succ])
  refine hK.out _ _ trivial (fun hHeld => ?_)
  clear hK K
  refine By.hk 7 ?_
  refine wpAnyH_done (by kernel_rfl) ?_ _
  go_wp2_with fail
  go_ret
  exact ⟨rfl, HN⟩

theorem elemE_row : Try.prog.underlying 23 = some (.slice (Try.prog.elem 23)) := by kernel_rfl
theorem elemE_is : Try.prog.elem 23 = 67 := by kernel_rfl
theorem sizeE (w : World) : (sizeOf 67).run Try.prog w = .ok 7 w := by kernel_rfl

theorem deleteE_any {w : World} {B g n c i j : Nat} {L : List Ent} (h : Own w B 67 7 enE (.slice (some ⟨g, 0, none⟩) n c) L) (hij : i < j) (hj : j ≤ n) :
    Calls Try.prog 80 #[.slice (some ⟨g, 0, none⟩) n c, .int .i64 (i : Int), .int .i64 (j : Int)] w fun r w' => r = .returned (.slice (some ⟨g, 0, none⟩) (i + (n - j)) c) ∧
      Hid (Own w' B 67 7 enE (.slice (some ⟨g, 0, none⟩) (i + (n - j)) c) (L.take i ++ L.drop j) ∧ Turns (fun k => k = g) w w') := by
  obtain ⟨hL, _, hnc, hcm, _⟩ := h.heap
  have hm : c ≤ 9223372036854775807 := by unfold maxLen at hcm; omega
  obtain ⟨o, ho, hA⟩ : ∃ o, (j < c → o = j * 7) ∧ (if c = j then some (⟨g, 0, none⟩ : Addr) else some ⟨g, j * 7, none⟩) = some ⟨g, o, none⟩ := by
    by_cases e : c = j
    · exact ⟨0, fun h => by omega, by rw [if_pos e]⟩
    · exact ⟨j * 7, fun _ => rfl, by rw [if_neg e]⟩
  have hd : Own w.drew B 67 7 enE (.slice (some ⟨g, 0, none⟩) n c) L := h.below (Below.refl _ _).drew
  obtain ⟨w1, hap, H1⟩ := slideN hd erow (Nat.le_of_lt hij) hj o ho
  obtain ⟨q, hq⟩ : ∃ q, q = i + (n - j) := ⟨_, rfl⟩
  rw [← hq] at hap H1 ⊢
  have hqn : q ≤ n := by omega
  have hqc : ¬ c = q := by omega
  have hqm : n ≤ c := hnc
  obtain ⟨w2, hcl0, H2⟩ := H1.out.1.clear erow hqn (q * 7) (c - q) (fun _ => rfl) (.agg #[.int .i64 0, .int .i64 0, .int .i64 0, .string ⟨#[]⟩, .int .i64 0, .bool false, .int .i64 0]) (by kernel_rfl) rfl (by intro u hu; simp [Value.cells] at hu; rcases hu with rfl | rfl | rfl | rfl | rfl | rfl | rfl <;> rfl) 0
  have hcl : ∀ ty, (Builtin.clear_ #[23] ty #[.slice (some ⟨g, q * 7, none⟩) (n - q) (c - q)]).run Try.prog w1 = .ok (.tuple #[]) w2 := fun ty => hcl0
  have HN : Hid (Own w2 B 67 7 enE (.slice (some ⟨g, 0, none⟩) q c) (L.take i ++ L.drop j) ∧ Turns (fun k => k = g) w w2) := by
    have h2 := H2.out.1
    have e2 : (L.take i ++ L.drop j ++ L.drop q).take q = L.take i ++ L.drop j := by
      rw [List.take_append_of_le_length (by simp only [List.length_append, List.length_take, List.length_drop, hL]; omega), List.take_of_length_le (by simp only [List.length_append, List.length_take, List.length_drop, hL]; omega)]
    rw [e2] at h2
    exact ⟨h2, ((Turns.refl _ w).drew.trans H1.out.2).trans H2.out.2⟩
  have hjn : j ≤ n := hj
  have hij2 : i ≤ j := by omega
  have hic : i ≤ c := by omega
  have hjc : j ≤ c := by omega
  have hne : (i : Int) ≠ (j : Int) := by omega
  clear h hij hj hcm hL hd H1 H2 ho hcl0 hq hnc
  go_enter Try.func80, Try.ntmps80
  go_wp2_with fail
  refine wp_region_held_drew (S := fun _ => True) (by kernel_rfl) trivial (fun hHeld => ?_)
  refine By.hk 0 ?_
  refine By.hk 1 ?_
  refine By.hk 2 ?_
  refine By.hk 3 ?_
  refine By.hk 4 ?_
  refine By.hk 5 ?_
  refine wpAnyH_ready (rs := [6]) (by kernel_rfl) (by simp) ?_
  refine AllReadyH.cons rfl (fun K hK => ?_) AllReadyH.nil
  refine st_append rfl _ _ 23 rfl _ _ rfl rfl hap ?_
  (try simp only [Act.put, List.getElem_toArray, List.getElem_cons_succ, List.getElem_cons_zero, List.setIfInBounds_toArray, List.set_cons_zero, List.set_cons_succ])
  refine hK.out _ _ trivial (fun hHeld => ?_)
  clear hK K
  refine By.hk 7 ?_
  refine wpAnyH_done (by kernel_rfl) ?_ _
  go_wp2_with fail
  go_ret
  exact ⟨rfl, HN⟩

theorem elemU_row : Try.prog.underlying 24 = some (.slice (Try.prog.elem 24)) := by kernel_rfl
theorem elemU_is : Try.prog.elem 24 = 89 := by kernel_rfl
theorem sizeU (w : World) : (sizeOf 89).run Try.prog w = .ok 6 w := by kernel_rfl

theorem deleteU_any {w : World} {B g n c i j : Nat} {L : List UV} (h : Own w B 89 6 enU (.slice (some ⟨g, 0, none⟩) n c) L) (hij : i < j) (hj : j ≤ n) :
    Calls Try.prog 79 #[.slice (some ⟨g, 0, none⟩) n c, .int .i64 (i : Int), .int .i64 (j : Int)] w fun r w' => r = .returned (.slice (some ⟨g, 0, none⟩) (i + (n - j)) c) ∧
      Hid (Own w' B 89 6 enU (.slice (some ⟨g, 0, none⟩) (i + (n - j)) c) (L.take i ++ L.drop j) ∧ Turns (fun k => k = g) w w') := by
  obtain ⟨hL, _, hnc, hcm, _⟩ := h.heap
  have hm : c ≤ 9223372036854775807 := by unfold maxLen at hcm; omega
  obtain ⟨o, ho, hA⟩ : ∃ o, (j < c → o = j * 6) ∧ (if c = j then some (⟨g, 0, none⟩ : Addr) else some ⟨g, j * 6, none⟩) = some ⟨g, o, none⟩ := by
    by_cases e : c = j
    · exact ⟨0, fun h => by omega, by rw [if_pos e]⟩
    · exact ⟨j * 6, fun _ => rfl, by rw [if_neg e]⟩
  have hd : Own w.drew B 89 6 enU (.slice (some ⟨g, 0, none⟩) n c) L := h.below (Below.refl _ _).drew
  obtain ⟨w1, hap, H1⟩ := slideN hd urow (Nat.le_of_lt hij) hj o ho
  obtain ⟨q, hq⟩ : ∃ q, q = i + (n - j) := ⟨_, rfl⟩
  rw [← hq] at hap H1 ⊢
  have hqn : q ≤ n := by omega
  have hqc : ¬ c = q := by omega
  have hqm : n ≤ c := hnc
  obtain ⟨w2, hcl0, H2⟩ := H1.out.1.clear urow hqn (q * 6) (c - q) (fun _ => rfl) (.agg #[.int .i64 0, .string ⟨#[]⟩, .bool false, .int .i64 0, .slice none 0 0, .int .u32 0]) (by kernel_rfl) rfl (by intro u hu; simp [Value.cells] at hu; rcases hu with rfl | rfl | rfl | rfl | rfl | rfl <;> rfl) 0
  have hcl : ∀ ty, (Builtin.clear_ #[24] ty #[.slice (some ⟨g, q * 6, none⟩) (n - q) (c - q)]).run Try.prog w1 = .ok (.tuple #[]) w2 := fun ty => hcl0
  have HN : Hid (Own w2 B 89 6 enU (.slice (some ⟨g, 0, none⟩) q c) (L.take i ++ L.drop j) ∧ Turns (fun k => k = g) w w2) := by
    have h2 := H2.out.1
    have e2 : (L.take i ++ L.drop j ++ L.drop q).take q = L.take i ++ L.drop j := by
      rw [List.take_append_of_le_length (by simp only [List.length_append, List.length_take, List.length_drop, hL]; omega), List.take_of_length_le (by simp only [List.length_append, List.length_take, List.length_drop, hL]; omega)]
    rw [e2] at h2
    exact ⟨h2, ((Turns.refl _ w).drew.trans H1.out.2).trans H2.out.2⟩
  have hjn : j ≤ n := hj
  have hij2 : i ≤ j := by omega
  have hic : i ≤ c := by omega
  have hjc : j ≤ c := by omega
  have hne : (i : Int) ≠ (j : Int) := by omega
  clear h hij hj hcm hL hd H1 H2 ho hcl0 hq hnc
  go_enter Try.func79, Try.ntmps79
  go_wp2_with fail
  refine wp_region_held_drew (S := fun _ => True) (by kernel_rfl) trivial (fun hHeld => ?_)
  refine By.hk 0 ?_
  refine By.hk 1 ?_
  refine By.hk 2 ?_
  refine By.hk 3 ?_
  refine By.hk 4 ?_
  refine By.hk 5 ?_
  refine wpAnyH_ready (rs := [6]) (by kernel_rfl) (by simp) ?_
  refine AllReadyH.cons rfl (fun K hK => ?_) AllReadyH.nil
  refine st_append rfl _ _ 24 rfl _ _ rfl rfl hap ?_
  (try simp only [Act.put, List.getElem_toArray, List.getElem_cons_succ, List.getElem_cons_zero, List.setIfInBounds_toArray, List.set_cons_zero, List.set_cons_succ])
  refine hK.out _ _ trivial (fun hHeld => ?_)
  clear hK K
  refine By.hk 7 ?_
  refine wpAnyH_done (by kernel_rfl) ?_ _
  go_wp2_with fail
  go_ret
  exact ⟨rfl, HN⟩

theorem elemS_row : Try.prog.underlying 27 = some (.slice (Try.prog.elem 27)) := by kernel_rfl
theorem elemS_is : Try.prog.elem 27 = 26 := by kernel_rfl
theorem sizeS (w : World) : (sizeOf 26).run Try.prog w = .ok 5 w := by kernel_rfl

theorem deleteS_any {w : World} {B g n c i j : Nat} {L : List SV} (h : Own w B 26 5 enS (.slice (some ⟨g, 0, none⟩) n c) L) (hij : i < j) (hj : j ≤ n) :
    Calls Try.prog 58 #[.slice (some ⟨g, 0, none⟩) n c, .int .i64 (i : Int), .int .i64 (j : Int)] w fun r w' => r = .returned (.slice (some ⟨g, 0, none⟩) (i + (n - j)) c) ∧
      Hid (Own w' B 26 5 enS (.slice (some ⟨g, 0, none⟩) (i + (n - j)) c) (L.take i ++ L.drop j) ∧ Turns (fun k => k = g) w w') := by
  obtain ⟨hL, _, hnc, hcm, _⟩ := h.heap
  have hm : c ≤ 9223372036854775807 := by unfold maxLen at hcm; omega
  obtain ⟨o, ho, hA⟩ : ∃ o, (j < c → o = j * 5) ∧ (if c = j then some (⟨g, 0, none⟩ : Addr) else some ⟨g, j * 5, none⟩) = some ⟨g, o, none⟩ := by
    by_cases e : c = j
    · exact ⟨0, fun h => by omega, by rw [if_pos e]⟩
    · exact ⟨j * 5, fun _ => rfl, by rw [if_neg e]⟩
  have hd : Own w.drew B 26 5 enS (.slice (some ⟨g, 0, none⟩) n c) L := h.below (Below.refl _ _).drew
  obtain ⟨w1, hap, H1⟩ := slideN hd srow (Nat.le_of_lt hij) hj o ho
  obtain ⟨q, hq⟩ : ∃ q, q = i + (n - j) := ⟨_, rfl⟩
  rw [← hq] at hap H1 ⊢
  have hqn : q ≤ n := by omega
  have hqc : ¬ c = q := by omega
  have hqm : n ≤ c := hnc
  obtain ⟨w2, hcl0, H2⟩ := H1.out.1.clear srow hqn (q * 5) (c - q) (fun _ => rfl) (.agg #[.int .i64 0, .int .i64 0, .slice none 0 0, .slice none 0 0, .slice none 0 0]) (by kernel_rfl) rfl (by intro u hu; simp [Value.cells] at hu; rcases hu with rfl | rfl | rfl | rfl | rfl <;> rfl) 0
  have hcl : ∀ ty, (Builtin.clear_ #[27] ty #[.slice (some ⟨g, q * 5, none⟩) (n - q) (c - q)]).run Try.prog w1 = .ok (.tuple #[]) w2 := fun ty => hcl0
  have HN : Hid (Own w2 B 26 5 enS (.slice (some ⟨g, 0, none⟩) q c) (L.take i ++ L.drop j) ∧ Turns (fun k => k = g) w w2) := by
    have h2 := H2.out.1
    have e2 : (L.take i ++ L.drop j ++ L.drop q).take q = L.take i ++ L.drop j := by
      rw [List.take_append_of_le_length (by simp only [List.length_append, List.length_take, List.length_drop, hL]; omega), List.take_of_length_le (by simp only [List.length_append, List.length_take, List.length_drop, hL]; omega)]
    rw [e2] at h2
    exact ⟨h2, ((Turns.refl _ w).drew.trans H1.out.2).trans H2.out.2⟩
  have hjn : j ≤ n := hj
  have hij2 : i ≤ j := by omega
  have hic : i ≤ c := by omega
  have hjc : j ≤ c := by omega
  have hne : (i : Int) ≠ (j : Int) := by omega
  clear h hij hj hcm hL hd H1 H2 ho hcl0 hq hnc
  go_enter Try.func58, Try.ntmps58
  go_wp2_with fail
  refine wp_region_held_drew (S := fun _ => True) (by kernel_rfl) trivial (fun hHeld => ?_)
  refine By.hk 0 ?_
  refine By.hk 1 ?_
  refine By.hk 2 ?_
  refine By.hk 3 ?_
  refine By.hk 4 ?_
  refine By.hk 5 ?_
  refine wpAnyH_ready (rs := [6]) (by kernel_rfl) (by simp) ?_
  refine AllReadyH.cons rfl (fun K hK => ?_) AllReadyH.nil
  refine st_append rfl _ _ 27 rfl _ _ rfl rfl hap ?_
  (try simp only [Act.put, List.getElem_toArray, List.getElem_cons_succ, List.getElem_cons_zero, List.setIfInBounds_toArray, List.set_cons_zero, List.set_cons_succ])
  refine hK.out _ _ trivial (fun hHeld => ?_)
  clear hK K
  refine By.hk 7 ?_
  refine wpAnyH_done (by kernel_rfl) ?_ _
  go_wp2_with fail
  go_ret
  exact ⟨rfl, HN⟩

end Go.Proofs.Ytnfflmndejbepaa.Sh
