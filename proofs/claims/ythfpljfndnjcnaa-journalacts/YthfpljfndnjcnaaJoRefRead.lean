/-
  What the document's Read of a sector does: contracts over plain numbers ('JoPlain').
  Conditions: the sector lies in memory.
-/
import Derived.Test.YthfpljfndnjcnaaJoList
namespace Go.Proofs.Ythfpljfndnjcnaa
open Go.RowKit By Dk Su Jo
set_option linter.unusedVariables false
set_option linter.unusedSimpArgs false

def noPartR : Value := .agg #[.int .i64 0, .int .i64 0, .int .i64 0, .bool false, .slice none 0 0]

def sumd (s : Nat → Nat) : Nat → Nat := fun i => if i < 60 then s i else lo (sumOf s 60) (i - 60)

theorem sumd_lt {s : Nat → Nat} (h : ∀ i, s i < 256) (i : Nat) : sumd s i < 256 := by
  unfold sumd
  split
  · exact h i
  · exact lo_lt _ _

theorem sumd_ends {s : Nat → Nat} : Ends s 60 ↔ ∀ i, i < 64 → sumd s i = s i := by
  constructor
  · intro h i hi
    unfold sumd
    by_cases e : i < 60
    · rw [if_pos e]
    · rw [if_neg e]
      have := h (i - 60) (by omega)
      rw [show 60 + (i - 60) = i by omega] at this
      exact this.symm
  · intro h i hi
    have := h (60 + i) (by omega)
    unfold sumd at this
    rw [if_neg (by omega), Nat.add_sub_cancel_left] at this
    exact this.symm

def zPartR (w : World) : World := w.alloc (.cells #[.int .i64 0, .int .i64 0, .int .i64 0, .bool false, .slice none 0 0] 67)

theorem zPartR_size (w : World) : (zPartR w).heap.size = w.heap.size + 1 := by simp [zPartR]

theorem rread_sum (b o c : Nat) (s : Nat → Nat) (w : World) (hs : ∀ i, s i < 256) (hc : 64 ≤ c) (h : RowAt w (some ⟨b, o, none⟩) 64 s) (hno : ¬ Ends s 60) :
    Calls Try.prog 36 #[.slice (some ⟨b, o, none⟩) 64 c] w fun e w' => e = .returned (.tuple #[noPartR, .bool false]) ∧ Below w.heap.size w w' := by
  have hb0 : Below w.heap.size w (zPartR w) := (Below.refl _ _).alloc (Nat.le_refl _) _
  have hz := h.below hb0
  have hap := rappend_any 60 c (some ⟨b, o, none⟩) s (zPartR w).drew hs (by omega) (hz.take (by omega)) (fun e => by cases e)
  obtain ⟨Ss, hSs⟩ : ∃ Ss, Ss = strOfNums (nums s 64) := ⟨_, rfl⟩
  have v0 : (convert 31 9 (.slice (some ⟨b, o, none⟩) 64 c)).run Try.prog (zPartR w).drew = .ok (.string Ss) (zPartR w).drew := by rw [hSs]; exact conv_row _ _ _ _ _ hz
  have hconv : ∀ v, Below (zPartR w).heap.size (zPartR w) v → (convert 31 9 (.slice (some ⟨b, o, none⟩) 64 c)).run Try.prog v = .ok (.string Ss) v := fun v hv => by rw [hSs]; exact conv_row _ _ _ _ _ (hz.below hv)
  obtain ⟨S1, hS1⟩ : ∃ S1, S1 = strOfNums (nums (sumd s) 64) := ⟨_, rfl⟩
  have hne : S1 ≠ Ss := fun e => hno (sumd_ends.2 (by rw [hS1, hSs] at e; exact (str_inj (sumd_lt hs) hs e).2))
  have h60 : (60 : Int) ≤ (c : Int) := by omega
  have hne1 : (S1.toList == Ss.toList) = false := by simpa using fun e => hne (toList_inj e)
  have hne2 : (S1.toList != Ss.toList) = true := by simpa using fun e => hne (toList_inj e)
  have HS1 := hid hS1
  have hfv : ∀ v, Below (w.heap.size + 1) (zPartR w) v → Five v w.heap.size (.int .i64 0) (.int .i64 0) (.int .i64 0) (.bool false) (.slice none 0 0) := fun v hv => (Five.new w _ _ _ _ _ _).below hv (Nat.lt_succ_self _)
  have HFV := hid hfv
  have HB0 := hid hb0
  have HCV := hid hconv
  have HZS := hid (zPartR_size w)
  clear h hno hz hS1 hSs hne hfv hb0 hconv
  unfold zPartR at hap v0
  go_enter Try.func36, Try.ntmps36
  go_wp2_with fail
  refine wp_region_held_drew (S := fun v => (convert 31 9 (.slice (some ⟨b, o, none⟩) 64 c)).run Try.prog v = .ok (.string Ss) v) (by kernel_rfl) v0 (fun hHeld => ?_)
  refine wpAnyH_take (i := 0) (v := ?_) rfl (by kernel_rfl) (by kernel_rfl) (by kernel_rfl) (fun _ _ _ h => h) (Or.inl ⟨by rfl, ?_⟩) (by assumption) ?_
  case refine_2 => (intro w hSw; (try dsimp only at hSw); go_simp; (try with_reducible rfl))
  (try simp only [Act.put, List.getElem_toArray, List.getElem_cons_succ, List.getElem_cons_zero, List.setIfInBounds_toArray, List.set_cons_zero, List.set_cons_succ])
  refine wpAnyH_take (i := 1) (v := ?_) rfl (by kernel_rfl) (by kernel_rfl) (by kernel_rfl) (fun _ _ _ h => h) (Or.inl ⟨by rfl, ?_⟩) (by assumption) ?_
  case refine_2 => (intro w hSw; (try dsimp only at hSw); go_simp; (try with_reducible rfl))
  (try simp only [Act.put, List.getElem_toArray, List.getElem_cons_succ, List.getElem_cons_zero, List.setIfInBounds_toArray, List.set_cons_zero, List.set_cons_succ])
  refine wpAnyH_take (i := 2) (v := ?_) rfl (by kernel_rfl) (by kernel_rfl) (by kernel_rfl) (fun _ _ _ h => h) (Or.inl ⟨by rfl, ?_⟩) (by assumption) ?_
  case refine_2 => (intro w hSw; (try dsimp only at hSw); go_simp; (try with_reducible rfl))
  (try simp only [Act.put, List.getElem_toArray, List.getElem_cons_succ, List.getElem_cons_zero, List.setIfInBounds_toArray, List.set_cons_zero, List.set_cons_succ])
  refine wpAnyH_take (i := 3) (v := ?_) rfl (by kernel_rfl) (by kernel_rfl) (by kernel_rfl) (fun _ _ _ h => h) (Or.inl ⟨by rfl, ?_⟩) (by assumption) ?_
  case refine_2 => (intro w hSw; (try dsimp only at hSw); go_simp; (try with_reducible rfl))
  (try simp only [Act.put, List.getElem_toArray, List.getElem_cons_succ, List.getElem_cons_zero, List.setIfInBounds_toArray, List.set_cons_zero, List.set_cons_succ])
  refine wpAnyH_take (i := 4) (v := ?_) rfl (by kernel_rfl) (by kernel_rfl) (by kernel_rfl) (fun _ _ _ h => h) (Or.inl ⟨by rfl, ?_⟩) (by assumption) ?_
  case refine_2 => (intro w hSw; (try dsimp only at hSw); go_simp; (try with_reducible rfl))
  (try simp only [Act.put, List.getElem_toArray, List.getElem_cons_succ, List.getElem_cons_zero, List.setIfInBounds_toArray, List.set_cons_zero, List.set_cons_succ])
  refine wpAnyH_take (i := 5) (v := ?_) rfl (by kernel_rfl) (by kernel_rfl) (by kernel_rfl) (fun _ _ _ h => h) (Or.inl ⟨by rfl, ?_⟩) (by assumption) ?_
  case refine_2 => (intro w hSw; (try dsimp only at hSw); go_simp; (try with_reducible rfl))
  (try simp only [Act.put, List.getElem_toArray, List.getElem_cons_succ, List.getElem_cons_zero, List.setIfInBounds_toArray, List.set_cons_zero, List.set_cons_succ])
  refine wpAnyH_take (i := 8) (v := ?_) rfl (by kernel_rfl) (by kernel_rfl) (by kernel_rfl) (fun _ _ _ h => h) (Or.inl ⟨by rfl, ?_⟩) (by assumption) ?_
  case refine_2 => (intro w hSw; (try dsimp only at hSw); go_simp; (try with_reducible rfl))
  (try simp only [Act.put, List.getElem_toArray, List.getElem_cons_succ, List.getElem_cons_zero, List.setIfInBounds_toArray, List.set_cons_zero, List.set_cons_succ])
  refine wpAnyH_take (i := 9) (v := ?_) rfl (by kernel_rfl) (by kernel_rfl) (by kernel_rfl) (fun _ _ _ h => h) (Or.inl ⟨by rfl, ?_⟩) (by assumption) ?_
  case refine_2 => (intro w hSw; (try dsimp only at hSw); go_simp; (try with_reducible rfl))
  (try simp only [Act.put, List.getElem_toArray, List.getElem_cons_succ, List.getElem_cons_zero, List.setIfInBounds_toArray, List.set_cons_zero, List.set_cons_succ])
  refine wpAnyH_ready (rs := [6]) (by kernel_rfl) (by simp) ?_
  refine AllReadyH.cons rfl (fun K hK => ?_) AllReadyH.nil
  go_simp
  refine hap.mono ?_
  rintro e w1 ⟨g1, c1, rfl, hb1, hr1⟩
  have hr1' : RowAt w1 (some ⟨g1, 0, none⟩) 64 (sumd s) := hr1
  have hbz : Below (zPartR w).heap.size (zPartR w) w1 := ⟨hb1.os, hb1.tape, hb1.output, hb1.size, hb1.block⟩
  have v1 := HCV.out w1 hbz
  have v2 : (convert 31 9 (.slice (some ⟨g1, 0, none⟩) 64 c1)).run Try.prog w1 = .ok (.string S1) w1 := by rw [HS1.out]; exact conv_row _ _ _ _ _ hr1'
  refine hK.out _ _ v1 (fun hHeld => ?_)
  clear hK K
  refine wpAnyH_ready (rs := [7]) (by kernel_rfl) (by simp) ?_
  refine AllReadyH.cons rfl (fun K hK => ?_) AllReadyH.nil
  go_simp
  refine hK.out _ _ v1 (fun hHeld => ?_)
  clear hK K
  refine wpAnyH_take (i := 10) (v := ?_) rfl (by kernel_rfl) (by kernel_rfl) (by kernel_rfl) (fun _ _ _ h => h) (Or.inl ⟨by rfl, ?_⟩) (by assumption) ?_
  case refine_2 => (intro w hSw; (try dsimp only at hSw); go_simp; (try with_reducible rfl))
  (try simp only [Act.put, List.getElem_toArray, List.getElem_cons_succ, List.getElem_cons_zero, List.setIfInBounds_toArray, List.set_cons_zero, List.set_cons_succ])
  refine wpAnyH_take (i := 11) (v := ?_) rfl (by kernel_rfl) (by kernel_rfl) (by kernel_rfl) (fun _ _ _ h => h) (Or.inl ⟨by rfl, ?_⟩) (by assumption) ?_
  case refine_2 => (intro w hSw; (try dsimp only at hSw); go_simp; (try with_reducible rfl))
  (try simp only [Act.put, List.getElem_toArray, List.getElem_cons_succ, List.getElem_cons_zero, List.setIfInBounds_toArray, List.set_cons_zero, List.set_cons_succ])
  refine wpAnyH_take (i := 12) (v := ?_) rfl (by kernel_rfl) (by kernel_rfl) (by kernel_rfl) (fun _ _ _ h => h) (Or.inl ⟨by rfl, ?_⟩) (by assumption) ?_
  case refine_2 => (intro w hSw; (try dsimp only at hSw); go_simp; (try with_reducible rfl))
  (try simp only [Act.put, List.getElem_toArray, List.getElem_cons_succ, List.getElem_cons_zero, List.setIfInBounds_toArray, List.set_cons_zero, List.set_cons_succ])
  refine wpAnyH_take (i := 13) (v := undef) rfl (by kernel_rfl) (by kernel_rfl) (by kernel_rfl) (fun _ _ _ h => h) (Or.inr ⟨by rfl, rfl⟩) (by assumption) ?_
  (try simp only [Act.put, List.getElem_toArray, List.getElem_cons_succ, List.getElem_cons_zero, List.setIfInBounds_toArray, List.set_cons_zero, List.set_cons_succ])
  refine wpAnyH_take (i := 14) (v := undef) rfl (by kernel_rfl) (by kernel_rfl) (by kernel_rfl) (fun _ _ _ h => h) (Or.inr ⟨by rfl, rfl⟩) (by assumption) ?_
  (try simp only [Act.put, List.getElem_toArray, List.getElem_cons_succ, List.getElem_cons_zero, List.setIfInBounds_toArray, List.set_cons_zero, List.set_cons_succ])
  refine wpAnyH_take (i := 15) (v := undef) rfl (by kernel_rfl) (by kernel_rfl) (by kernel_rfl) (fun _ _ _ h => h) (Or.inr ⟨by rfl, rfl⟩) (by assumption) ?_
  (try simp only [Act.put, List.getElem_toArray, List.getElem_cons_succ, List.getElem_cons_zero, List.setIfInBounds_toArray, List.set_cons_zero, List.set_cons_succ])
  refine wpAnyH_take (i := 16) (v := undef) rfl (by kernel_rfl) (by kernel_rfl) (by kernel_rfl) (fun _ _ _ h => h) (Or.inr ⟨by rfl, rfl⟩) (by assumption) ?_
  (try simp only [Act.put, List.getElem_toArray, List.getElem_cons_succ, List.getElem_cons_zero, List.setIfInBounds_toArray, List.set_cons_zero, List.set_cons_succ])
  refine wpAnyH_take (i := 17) (v := ?_) rfl (by kernel_rfl) (by kernel_rfl) (by kernel_rfl) (fun _ _ _ h => h) (Or.inl ⟨by rfl, ?_⟩) (by assumption) ?_
  case refine_2 => (intro w hSw; (try dsimp only at hSw); go_simp; (try with_reducible rfl))
  (try simp only [Act.put, List.getElem_toArray, List.getElem_cons_succ, List.getElem_cons_zero, List.setIfInBounds_toArray, List.set_cons_zero, List.set_cons_succ])
  refine wpAnyH_done (by kernel_rfl) ?_ _
  rw [HZS.out] at hbz
  obtain ⟨c0, c1', c2, c3, c4, f0, f1, f2, f3, f4⟩ := HFV.out w1 hbz
  have HBW : Hid (Below w.heap.size w w1) := HB0.out.trans (hbz.mono (Nat.le_succ _))
  clear hHeld hap hb1 hr1 hr1' hbz v1 v2
  go_wp2_with fail
  refine bodyPost_ret (v := .tuple #[noPartR, .bool false]) ?_ rfl ?_
  · rw [results_cell_tmp rfl]; go_simp; rfl
  · exact ⟨rfl, below_five HBW.out (Nat.le_refl _) _ _ _ _ _⟩

end Go.Proofs.Ythfpljfndnjcnaa
