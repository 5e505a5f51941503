/-
  slices.Delete at one message.
  Conditions: the row is one's own.
-/
import Derived.Test.YtmekbbddfmmbeaaFlMem
import Derived.Test.YtmekbbddfmmbeaaMxOrders
namespace Go.Proofs.Ytmekbbddfmmbeaa.Fl
open Go.RowKit By
set_option linter.unusedVariables false
set_option linter.unusedSimpArgs false
set_option maxRecDepth 100000

theorem welem_row : Try.prog.underlying 46 = some (.slice (Try.prog.elem 46)) := by kernel_rfl
theorem welem_is : Try.prog.elem 46 = 62 := by kernel_rfl
theorem wsize_msg (w : World) : (sizeOf 62).run Try.prog w = .ok 3 w := by kernel_rfl

section
variable {w : World} {B : Nat} {L : List MV}

theorem delete_any {g n c i : Nat} (h : Own w B 62 3 encM (.slice (some ⟨g, 0, none⟩) n c) L) (hi : i < n) :
    Calls Try.prog 28 #[.slice (some ⟨g, 0, none⟩) n c, .int .i64 (i : Int), .int .i64 ((i + 1 : Nat) : Int)] w fun e w' => e = .returned (.slice (some ⟨g, 0, none⟩) (n - 1) c) ∧
      Hid (Own w' B 62 3 encM (.slice (some ⟨g, 0, none⟩) (n - 1) c) (L.take i ++ L.drop (i + 1)) ∧ Turns (fun k => k = g) w w') := by
  obtain ⟨hL, _, hnc, hcm, _⟩ := h.heap
  have hm : c ≤ 9223372036854775807 := by unfold maxLen at hcm; omega
  obtain ⟨o, ho, hA⟩ : ∃ o, (i + 1 < c → o = (i + 1) * 3) ∧ (if c = i + 1 then some (⟨g, 0, none⟩ : Addr) else some ⟨g, (i + 1) * 3, none⟩) = some ⟨g, o, none⟩ := by
    by_cases e : c = i + 1
    · exact ⟨0, fun h => by omega, by rw [if_pos e]⟩
    · exact ⟨(i + 1) * 3, fun _ => rfl, by rw [if_neg e]⟩
  have hd : Own w.drew B 62 3 encM (.slice (some ⟨g, 0, none⟩) n c) L := h.below (Below.refl _ _).drew
  obtain ⟨w1, hap, H1⟩ := hd.slide mrow hi o ho
  obtain ⟨q, hq⟩ : ∃ q, q = i + (n - (i + 1)) := ⟨_, rfl⟩
  rw [← hq] at hap
  have hqn : q ≤ n := by omega
  have hqc : ¬ c = q := by omega
  have hqm : n ≤ c := hnc
  obtain ⟨w2, hcl0, H2⟩ := H1.out.1.clear mrow hqn (q * 3) (c - q) (fun _ => rfl) (.agg #[.int .i64 0, .int .i64 0, .slice none 0 0]) (by kernel_rfl) rfl (by intro u hu; simp [Value.cells] at hu; rcases hu with rfl | rfl | rfl <;> rfl) 0
  have hcl : ∀ ty, (Builtin.clear_ #[46] ty #[.slice (some ⟨g, q * 3, none⟩) (n - q) (c - q)]).run Try.prog w1 = .ok (.tuple #[]) w2 := fun ty => hcl0
  have HN : Hid (Own w2 B 62 3 encM (.slice (some ⟨g, 0, none⟩) (n - 1) c) (L.take i ++ L.drop (i + 1)) ∧ Turns (fun k => k = g) w w2 ∧ q = n - 1) := by
    have e1 : q = n - 1 := by omega
    have h2 := H2.out.1
    have e2 : (L.take i ++ L.drop (i + 1) ++ L.drop (n - 1)).take q = L.take i ++ L.drop (i + 1) := by
      rw [List.take_append_of_le_length (by simp only [List.length_append, List.length_take, List.length_drop, hL]; omega), List.take_of_length_le (by simp only [List.length_append, List.length_take, List.length_drop, hL]; omega)]
    rw [e2, e1] at h2
    exact ⟨h2, ((Turns.refl _ w).drew.trans H1.out.2).trans H2.out.2, e1⟩
  obtain ⟨j, hj⟩ : ∃ j, j = i + 1 := ⟨_, rfl⟩
  have hjn : j ≤ n := by omega
  have hij : i ≤ j := by omega
  have hic : i ≤ c := by omega
  have hjc : j ≤ c := by omega
  have hne : (i : Int) ≠ (j : Int) := by omega
  rw [← hj] at hap hA HN ⊢
  clear h hi hj hcm hL hd H1 H2 ho hcl0 hq hnc
  go_enter Try.func28, Try.ntmps28
  go_wp2_with fail
  refine wp_region_held_drew (S := fun _ => True) (by kernel_rfl) trivial (fun hHeld => ?_)
  refine wpAnyH_take (i := 0) (v := ?_) rfl (by kernel_rfl) (by kernel_rfl) (by kernel_rfl) (fun _ _ _ h => h) (Or.inl ⟨by rfl, ?_⟩) (by assumption) ?_
  case refine_2 => (intro w hSw; (try dsimp only at hSw); go_simp; (try with_reducible rfl))
  (try simp only [Act.put, List.getElem_toArray, List.getElem_cons_succ, List.getElem_cons_zero, List.setIfInBounds_toArray, List.set_cons_zero, List.set_cons_succ])
  refine wpAnyH_take (i := 1) (v := ?_) rfl (by kernel_rfl) (by kernel_rfl) (by kernel_rfl) (fun _ _ _ h => h) (Or.inl ⟨by rfl, ?_⟩) (by assumption) ?_
  case refine_2 => (intro w hSw; (try dsimp only at hSw); go_simp; (try with_reducible rfl))
  (try simp only [Act.put, List.getElem_toArray, List.getElem_cons_succ, List.getElem_cons_zero, List.setIfInBounds_toArray, List.set_cons_zero, List.set_cons_succ])
  refine wpAnyH_take (i := 2) (v := ?_) rfl (by kernel_rfl) (by kernel_rfl) (by kernel_rfl) (fun _ _ _ h => h) (Or.inl ⟨by rfl, ?_⟩) (by assumption) ?_
  case refine_2 => (intro w hSw; (try dsimp only at hSw); go_simp; (try with_reducible rfl))
  (try simp only [Act.put, List.getElem_toArray, List.getElem_cons_succ, List.getElem_cons_zero, List.setIfInBounds_toArray, List.set_cons_zero, List.set_cons_succ])
  refine wpAnyH_take (i := 3) (v := ?_) rfl (by kernel_rfl) (by kernel_rfl) (by kernel_rfl) (fun _ _ _ h => h) (Or.inl ⟨by rfl, ?_⟩) (by assumption) ?_
  case refine_2 => (intro w hSw; (try dsimp only at hSw); go_simp; (try with_reducible rfl))
  (try simp only [Act.put, List.getElem_toArray, List.getElem_cons_succ, List.getElem_cons_zero, List.setIfInBounds_toArray, List.set_cons_zero, List.set_cons_succ])
  refine wpAnyH_take (i := 4) (v := ?_) rfl (by kernel_rfl) (by kernel_rfl) (by kernel_rfl) (fun _ _ _ h => h) (Or.inl ⟨by rfl, ?_⟩) (by assumption) ?_
  case refine_2 => (intro w hSw; (try dsimp only at hSw); go_simp; (try with_reducible rfl))
  (try simp only [Act.put, List.getElem_toArray, List.getElem_cons_succ, List.getElem_cons_zero, List.setIfInBounds_toArray, List.set_cons_zero, List.set_cons_succ])
  refine wpAnyH_take (i := 5) (v := ?_) rfl (by kernel_rfl) (by kernel_rfl) (by kernel_rfl) (fun _ _ _ h => h) (Or.inl ⟨by rfl, ?_⟩) (by assumption) ?_
  case refine_2 => (intro w hSw; (try dsimp only at hSw); go_simp; (try with_reducible rfl))
  (try simp only [Act.put, List.getElem_toArray, List.getElem_cons_succ, List.getElem_cons_zero, List.setIfInBounds_toArray, List.set_cons_zero, List.set_cons_succ])
  refine wpAnyH_ready (rs := [6]) (by kernel_rfl) (by simp) ?_
  refine AllReadyH.cons rfl (fun K hK => ?_) AllReadyH.nil
  refine st_append rfl _ _ 46 rfl _ _ rfl rfl hap ?_
  (try simp only [Act.put, List.getElem_toArray, List.getElem_cons_succ, List.getElem_cons_zero, List.setIfInBounds_toArray, List.set_cons_zero, List.set_cons_succ])
  refine hK.out _ _ trivial (fun hHeld => ?_)
  clear hK K
  refine wpAnyH_take (i := 7) (v := ?_) rfl (by kernel_rfl) (by kernel_rfl) (by kernel_rfl) (fun _ _ _ h => h) (Or.inl ⟨by rfl, ?_⟩) (by assumption) ?_
  case refine_2 => (intro w hSw; (try dsimp only at hSw); go_simp; (try with_reducible rfl))
  (try simp only [Act.put, List.getElem_toArray, List.getElem_cons_succ, List.getElem_cons_zero, List.setIfInBounds_toArray, List.set_cons_zero, List.set_cons_succ])
  refine wpAnyH_done (by kernel_rfl) ?_ _
  go_wp2_with fail
  go_ret
  exact ⟨by rw [HN.out.2.2]; rfl, HN.out.1, HN.out.2.1⟩

end

end Go.Proofs.Ytmekbbddfmmbeaa.Fl
