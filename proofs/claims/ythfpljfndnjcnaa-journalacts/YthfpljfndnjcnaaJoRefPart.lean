/-
  What the document's Read of a sector does whose sum is right: contracts over plain numbers ('JoPlain').
  Conditions: the sector lies in memory.
-/
import Derived.Test.YthfpljfndnjcnaaJoRefRead
namespace Go.Proofs.Ythfpljfndnjcnaa
open Go.RowKit By Dk Su Jo
set_option linter.unusedVariables false
set_option linter.unusedSimpArgs false

theorem num_int (s : Nat → Nat) : (s 3 : Int) + 256 * ((s 4 : Int) + 256 * ((s 5 : Int) + 256 * (s 6 : Int))) = (num s : Int) := by unfold num; omega
theorem gen_int (s : Nat → Nat) : (s 1 : Int) + 256 * (s 2 : Int) = (genS s : Int) := by unfold genS; omega

set_option maxHeartbeats 3000000 in
set_option maxRecDepth 100000 in
theorem rread_rest (b o c : Nat) (s : Nat → Nat) (w : World) (hs : ∀ i, s i < 256) (hc : 64 ≤ c) (h : RowAt w (some ⟨b, o, none⟩) 64 s) (he : Ends s 60) :
    Calls Try.prog 36 #[.slice (some ⟨b, o, none⟩) 64 c] w fun e w' => (¬ OkR s → e = .returned (.tuple #[noPartR, .bool false]) ∧ Below w.heap.size w w') ∧
      (OkR s → ∃ y cy, e = .returned (.tuple #[.agg #[.int .i64 (genS s : Int), .int .i64 (num s : Int), .int .i64 (s 7 : Int), .bool (lst s), .slice (some ⟨y, 0, none⟩) (cnt s) cy], .bool true]) ∧ Below w.heap.size w w' ∧ RowAt w' (some ⟨y, 0, none⟩) (cnt s) (fun i => s (9 + i)) ∧ cnt s ≤ cy) := by
  have hb0 : Below w.heap.size w (zPartR w) := (Below.refl _ _).alloc (Nat.le_refl _) _
  have hz := h.below hb0
  have hap := rappend_any 60 c (some ⟨b, o, none⟩) s (zPartR w).drew hs (by omega) (hz.take (by omega)) (fun e => by cases e)
  obtain ⟨Ss, hSs⟩ : ∃ Ss, Ss = strOfNums (nums s 64) := ⟨_, rfl⟩
  have hcl : ∀ v, Below w.heap.size w v → ∀ i, i < 64 → v.cell? ⟨b, o + i, none⟩ = some (.int .u8 (s i : Int)) := fun v hv i hi => by
    rcases h.below hv with e | ⟨b', o', e1, e2, e3⟩
    · omega
    · injection e1 with e1
      injection e1 with e1 e4 _
      subst e1 e4
      exact e3 i hi
  have v0 : (convert 31 9 (.slice (some ⟨b, o, none⟩) 64 c)).run Try.prog (zPartR w).drew = .ok (.string Ss) (zPartR w).drew := by rw [hSs]; exact conv_row _ _ _ _ _ hz
  have k0 : (zPartR w).drew.cell? ⟨b, o, none⟩ = some (.int .u8 (s 0 : Int)) := hcl _ hb0.drew 0 (by omega)
  have hconv : ∀ v, Below (zPartR w).heap.size (zPartR w) v → (convert 31 9 (.slice (some ⟨b, o, none⟩) 64 c)).run Try.prog v = .ok (.string Ss) v := fun v hv => by rw [hSs]; exact conv_row _ _ _ _ _ (hz.below hv)
  have h60 : (60 : Int) ≤ (c : Int) := by omega
  have HSS := hid hSs
  have HE := hid (sumd_ends.1 he)
  have HE0 := hid he
  have hfv : ∀ v, Below (w.heap.size + 1) (zPartR w) v → Five v w.heap.size (.int .i64 0) (.int .i64 0) (.int .i64 0) (.bool false) (.slice none 0 0) := fun v hv => (Five.new w _ _ _ _ _ _).below hv (Nat.lt_succ_self _)
  have HFV := hid hfv
  have HB0 := hid hb0
  have HCV := hid hconv
  have HCL := hid hcl
  have HROW := hid h
  have HZS := hid (zPartR_size w)
  clear h he hz hSs hfv hb0 hconv hcl
  unfold zPartR at hap v0 k0
  have hm0 : s 0 = 74 ∨ ((s 0 : Int) != 74) = true := by
    by_cases e : s 0 = 74
    · exact .inl e
    · right; rw [bne_iff_ne]; omega
  rcases hm0 with hm | hm
  · rw [hm] at k0
    go_enter Try.func36, Try.ntmps36
    go_wp2_with fail
    refine wp_region_held_drew (S := fun v => (convert 31 9 (.slice (some ⟨b, o, none⟩) 64 c)).run Try.prog v = .ok (.string Ss) v ∧ v.cell? ⟨b, o, none⟩ = some (.int .u8 ((74 : Nat) : Int))) (by kernel_rfl) ⟨v0, k0⟩ (fun hHeld => ?_)
    refine wpAnyH_take (i := 0) (v := ?_) rfl (by kernel_rfl) (by kernel_rfl) (by kernel_rfl) (fun _ _ _ h => h) (Or.inl ⟨by rfl, ?_⟩) (by assumption) ?_
    case refine_2 => (intro w hSw; (try dsimp only at hSw); go_simp; (try with_reducible rfl))
    (try simp only [Act.put, List.getElem_toArray, List.getElem_cons_succ, List.getElem_cons_zero, List.setIfInBounds_toArray, List.set_cons_zero, List.set_cons_succ])
    refine wpAnyH_take (i := 1) (v := ?_) rfl (by kernel_rfl) (by kernel_rfl) (by kernel_rfl) (fun _ _ _ h => h) (Or.inl ⟨by rfl, ?_⟩) (by assumption) ?_
    case refine_2 => (intro w hSw; (try dsimp only at hSw); go_simp; (try with_reducible rfl))
    (try simp only [Act.put, List.getElem_toArray, List.getElem_cons_succ, List.getElem_cons_zero, List.setIfInBounds_toArray, List.set_cons_zero, List.set_cons_succ])
    refine wpAnyH_take (i := 2) (v := ?_) rfl (by kernel_rfl) (by kernel_rfl) (by kernel_rfl) (fun _ _ _ h => h) (Or.inl ⟨by rfl, ?_⟩) (by assumption) ?_
    case refine_2 => (intro w hSw; (try dsimp only at hSw); go_simp; (try with_reducible rfl))
    (try simp only [Act.put, List.getElem_toArray, List.getElem_cons_succ, List.getElem_cons_zero, List.setIfInBounds_toArray, List.set_cons_zero, List.set_cons_succ])
    refine wpAnyH_take (i := 3) (v := ?_) rfl (by kernel_rfl) (by kernel_rfl) (by kernel_rfl) (fun _ _ _ h => h) (Or.inl ⟨by rfl, ?_⟩) (by assumption) ?_
    case refine_2 => (intro w hSw; (try dsimp only at hSw); go_simp; (try with_reducible rfl))
    (try simp only [Act.put, List.getElem_toArray, List.getElem_cons_succ, List.getElem_cons_zero, List.setIfInBounds_toArray, List.set_cons_zero, List.set_cons_succ])
    refine wpAnyH_take (i := 4) (v := ?_) rfl (by kernel_rfl) (by kernel_rfl) (by kernel_rfl) (fun _ _ _ h => h) (Or.inl ⟨by rfl, ?_⟩) (by assumption) ?_
    case refine_2 => (intro w hSw; (try dsimp only at hSw); go_simp; (try with_reducible rfl))
    (try simp only [Act.put, List.getElem_toArray, List.getElem_cons_succ, List.getElem_cons_zero, List.setIfInBounds_toArray, List.set_cons_zero, List.set_cons_succ])
    refine wpAnyH_take (i := 5) (v := ?_) rfl (by kernel_rfl) (by kernel_rfl) (by kernel_rfl) (fun _ _ _ h => h) (Or.inl ⟨by rfl, ?_⟩) (by assumption) ?_
    case refine_2 => (intro w hSw; (try dsimp only at hSw); go_simp; (try with_reducible rfl))
    (try simp only [Act.put, List.getElem_toArray, List.getElem_cons_succ, List.getElem_cons_zero, List.setIfInBounds_toArray, List.set_cons_zero, List.set_cons_succ])
    refine wpAnyH_take (i := 8) (v := ?_) rfl (by kernel_rfl) (by kernel_rfl) (by kernel_rfl) (fun _ _ _ h => h) (Or.inl ⟨by rfl, ?_⟩) (by assumption) ?_
    case refine_2 => (intro w hSw; (try dsimp only at hSw); go_simp; (try with_reducible rfl))
    (try simp only [Act.put, List.getElem_toArray, List.getElem_cons_succ, List.getElem_cons_zero, List.setIfInBounds_toArray, List.set_cons_zero, List.set_cons_succ])
    refine wpAnyH_take (i := 9) (v := ?_) rfl (by kernel_rfl) (by kernel_rfl) (by kernel_rfl) (fun _ _ _ h => h) (Or.inl ⟨by rfl, ?_⟩) (by assumption) ?_
    case refine_2 => (intro w hSw; (try dsimp only at hSw); go_simp; (try with_reducible rfl))
    (try simp only [Act.put, List.getElem_toArray, List.getElem_cons_succ, List.getElem_cons_zero, List.setIfInBounds_toArray, List.set_cons_zero, List.set_cons_succ])
    refine wpAnyH_ready (rs := [6]) (by kernel_rfl) (by simp) ?_
    refine AllReadyH.cons rfl (fun K hK => ?_) AllReadyH.nil
    go_simp
    refine hap.mono ?_
    rintro e w1 ⟨g1, c1, rfl, hb1, hr1⟩
    have hr1' : RowAt w1 (some ⟨g1, 0, none⟩) 64 (sumd s) := hr1
    have hbz : Below (zPartR w).heap.size (zPartR w) w1 := ⟨hb1.os, hb1.tape, hb1.output, hb1.size, hb1.block⟩
    have v1 := HCV.out w1 hbz
    have v2 : (convert 31 9 (.slice (some ⟨g1, 0, none⟩) 64 c1)).run Try.prog w1 = .ok (.string Ss) w1 := by rw [HSS.out, ← str_congr HE.out]; exact conv_row _ _ _ _ _ hr1'
    have hbw : Below w.heap.size w w1 := HB0.out.trans (hbz.mono (by have := HZS.out; omega))
    have k1 : w1.cell? ⟨b, o, none⟩ = some (.int .u8 ((74 : Nat) : Int)) := by have := HCL.out w1 hbw 0 (by omega); rw [hm] at this; exact this
    have HHW : Hid (w.heap.size < w1.heap.size) := show w.heap.size < w1.heap.size by have := hbz.size; have := HZS.out; omega
    refine hK.out _ _ ⟨v1, k1⟩ (fun hHeld => ?_)
    clear hK K
    refine wpAnyH_ready (rs := [7]) (by kernel_rfl) (by simp) ?_
    refine AllReadyH.cons rfl (fun K hK => ?_) AllReadyH.nil
    go_simp
    refine hK.out _ _ ⟨v1, k1⟩ (fun hHeld => ?_)
    clear hK K
    refine wpAnyH_take (i := 10) (v := ?_) rfl (by kernel_rfl) (by kernel_rfl) (by kernel_rfl) (fun _ _ _ h => h) (Or.inl ⟨by rfl, ?_⟩) (by assumption) ?_
    case refine_2 => (intro w hSw; (try dsimp only at hSw); go_simp; (try with_reducible rfl))
    (try simp only [Act.put, List.getElem_toArray, List.getElem_cons_succ, List.getElem_cons_zero, List.setIfInBounds_toArray, List.set_cons_zero, List.set_cons_succ])
    refine wpAnyH_take (i := 11) (v := ?_) rfl (by kernel_rfl) (by kernel_rfl) (by kernel_rfl) (fun _ _ _ h => h) (Or.inl ⟨by rfl, ?_⟩) (by assumption) ?_
    case refine_2 => (intro w hSw; (try dsimp only at hSw); go_simp; (try with_reducible rfl))
    (try simp only [Act.put, List.getElem_toArray, List.getElem_cons_succ, List.getElem_cons_zero, List.setIfInBounds_toArray, List.set_cons_zero, List.set_cons_succ])
    refine wpAnyH_take (i := 12) (v := ?_) rfl (by kernel_rfl) (by kernel_rfl) (by kernel_rfl) (fun _ _ _ h => h) (Or.inl ⟨by rfl, ?_⟩) (by assumption) ?_
    case refine_2 => (intro w hSw; (try dsimp only at hSw); go_simp; (try with_reducible rfl))
    (try simp only [Act.put, List.getElem_toArray, List.getElem_cons_succ, List.getElem_cons_zero, List.setIfInBounds_toArray, List.set_cons_zero, List.set_cons_succ])
    refine wpAnyH_take (i := 13) (v := ?_) rfl (by kernel_rfl) (by kernel_rfl) (by kernel_rfl) (fun _ _ _ h => h) (Or.inl ⟨by rfl, ?_⟩) (by assumption) ?_
    case refine_2 => (intro w hSw; (try dsimp only at hSw); go_simp; (try with_reducible rfl))
    (try simp only [Act.put, List.getElem_toArray, List.getElem_cons_succ, List.getElem_cons_zero, List.setIfInBounds_toArray, List.set_cons_zero, List.set_cons_succ])
    refine wpAnyH_take (i := 14) (v := ?_) rfl (by kernel_rfl) (by kernel_rfl) (by kernel_rfl) (fun _ _ _ h => h) (Or.inl ⟨by rfl, ?_⟩) (by assumption) ?_
    case refine_2 => (intro w hSw; (try dsimp only at hSw); go_simp; (try with_reducible rfl))
    (try simp only [Act.put, List.getElem_toArray, List.getElem_cons_succ, List.getElem_cons_zero, List.setIfInBounds_toArray, List.set_cons_zero, List.set_cons_succ])
    refine wpAnyH_take (i := 15) (v := ?_) rfl (by kernel_rfl) (by kernel_rfl) (by kernel_rfl) (fun _ _ _ h => h) (Or.inl ⟨by rfl, ?_⟩) (by assumption) ?_
    case refine_2 => (intro w hSw; (try dsimp only at hSw); go_simp; (try with_reducible rfl))
    (try simp only [Act.put, List.getElem_toArray, List.getElem_cons_succ, List.getElem_cons_zero, List.setIfInBounds_toArray, List.set_cons_zero, List.set_cons_succ])
    refine wpAnyH_take (i := 16) (v := ?_) rfl (by kernel_rfl) (by kernel_rfl) (by kernel_rfl) (fun _ _ _ h => h) (Or.inl ⟨by rfl, ?_⟩) (by assumption) ?_
    case refine_2 => (intro w hSw; (try dsimp only at hSw); go_simp; (try with_reducible rfl))
    (try simp only [Act.put, List.getElem_toArray, List.getElem_cons_succ, List.getElem_cons_zero, List.setIfInBounds_toArray, List.set_cons_zero, List.set_cons_succ])
    refine wpAnyH_take (i := 17) (v := ?_) rfl (by kernel_rfl) (by kernel_rfl) (by kernel_rfl) (fun _ _ _ h => h) (Or.inl ⟨by rfl, ?_⟩) (by assumption) ?_
    case refine_2 => (intro w hSw; (try dsimp only at hSw); go_simp; (try with_reducible rfl))
    (try simp only [Act.put, List.getElem_toArray, List.getElem_cons_succ, List.getElem_cons_zero, List.setIfInBounds_toArray, List.set_cons_zero, List.set_cons_succ])
    refine wpAnyH_done (by kernel_rfl) ?_ _
    rw [HZS.out] at hbz
    have HF1 := hid (HFV.out w1 hbz)
    have HBW := hid hbw
    clear hHeld hap hb1 hr1 hr1' v1 v2 hbz hbw k1 v0 k0
    have q1 := HCL.out w1.drew HBW.out.drew 1 (by omega)
    have q2 := HCL.out w1.drew HBW.out.drew 2 (by omega)
    have q3 := HCL.out w1.drew HBW.out.drew 3 (by omega)
    have q4 := HCL.out w1.drew HBW.out.drew 4 (by omega)
    have q5 := HCL.out w1.drew HBW.out.drew 5 (by omega)
    have q6 := HCL.out w1.drew HBW.out.drew 6 (by omega)
    have q7 := HCL.out w1.drew HBW.out.drew 7 (by omega)
    have q8 := HCL.out w1.drew HBW.out.drew 8 (by omega)
    have b1 := hs 1
    have b2 := hs 2
    have b3 := hs 3
    have b4 := hs 4
    have b5 := hs 5
    have b6 := hs 6
    have b7 := hs 7
    have b8 := hs 8
    have x1 : IntKind.i64.wrap (s 1 : Int) = (s 1 : Int) := by rw [IntKind.wrap_i64]; omega
    have x2 : IntKind.i64.wrap (s 2 : Int) = (s 2 : Int) := by rw [IntKind.wrap_i64]; omega
    have x3 : IntKind.i64.wrap (s 3 : Int) = (s 3 : Int) := by rw [IntKind.wrap_i64]; omega
    have x4 : IntKind.i64.wrap (s 4 : Int) = (s 4 : Int) := by rw [IntKind.wrap_i64]; omega
    have x5 : IntKind.i64.wrap (s 5 : Int) = (s 5 : Int) := by rw [IntKind.wrap_i64]; omega
    have x6 : IntKind.i64.wrap (s 6 : Int) = (s 6 : Int) := by rw [IntKind.wrap_i64]; omega
    have x7 : IntKind.i64.wrap (s 7 : Int) = (s 7 : Int) := by rw [IntKind.wrap_i64]; omega
    have y2 : IntKind.i64.wrap (256 * (s 2 : Int)) = 256 * (s 2 : Int) := by rw [IntKind.wrap_i64]; omega
    have y1 : IntKind.i64.wrap ((s 1 : Int) + 256 * (s 2 : Int)) = (genS s : Int) := by rw [← gen_int, IntKind.wrap_i64]; omega
    have y6 : IntKind.i64.wrap (256 * (s 6 : Int)) = 256 * (s 6 : Int) := by rw [IntKind.wrap_i64]; omega
    have y5 : IntKind.i64.wrap ((s 5 : Int) + 256 * (s 6 : Int)) = (s 5 : Int) + 256 * (s 6 : Int) := by rw [IntKind.wrap_i64]; omega
    have z5 : IntKind.i64.wrap (256 * ((s 5 : Int) + 256 * (s 6 : Int))) = 256 * ((s 5 : Int) + 256 * (s 6 : Int)) := by rw [IntKind.wrap_i64]; omega
    have y4 : IntKind.i64.wrap ((s 4 : Int) + 256 * ((s 5 : Int) + 256 * (s 6 : Int))) = (s 4 : Int) + 256 * ((s 5 : Int) + 256 * (s 6 : Int)) := by rw [IntKind.wrap_i64]; omega
    have z4 : IntKind.i64.wrap (256 * ((s 4 : Int) + 256 * ((s 5 : Int) + 256 * (s 6 : Int)))) = 256 * ((s 4 : Int) + 256 * ((s 5 : Int) + 256 * (s 6 : Int))) := by rw [IntKind.wrap_i64]; omega
    have y3 : IntKind.i64.wrap ((s 3 : Int) + 256 * ((s 4 : Int) + 256 * ((s 5 : Int) + 256 * (s 6 : Int)))) = (num s : Int) := by rw [← num_int, IntKind.wrap_i64]; omega
    have e8 : decide ((128 : Int) ≤ (s 8 : Int)) = lst s := by unfold lst; congr 1; apply propext; omega
    have hal : ∀ ob, Below w.heap.size w (w1.alloc ob).drew := fun ob => (HBW.out.alloc HBW.out.size ob).drew
    go_wp2_with fail
    refine wp_region_last (fun v => v.cell? ⟨b, o + 1, none⟩ = some (.int .u8 (s 1 : Int)) ∧ v.cell? ⟨b, o + 2, none⟩ = some (.int .u8 (s 2 : Int)) ∧ v.cell? ⟨b, o + 3, none⟩ = some (.int .u8 (s 3 : Int)) ∧ v.cell? ⟨b, o + 4, none⟩ = some (.int .u8 (s 4 : Int)) ∧ v.cell? ⟨b, o + 5, none⟩ = some (.int .u8 (s 5 : Int)) ∧ v.cell? ⟨b, o + 6, none⟩ = some (.int .u8 (s 6 : Int)) ∧ v.cell? ⟨b, o + 7, none⟩ = some (.int .u8 (s 7 : Int)) ∧ v.cell? ⟨b, o + 8, none⟩ = some (.int .u8 (s 8 : Int))) 42 (by kernel_rfl) ⟨q1, q2, q3, q4, q5, q6, q7, q8⟩ (fun hS => ?_)
    refine wpAnyL_take (i := 0) (v := ?_) rfl (by kernel_rfl) (by kernel_rfl) (by kernel_rfl) (by kernel_rfl) (fun _ _ _ h => h) hS (Or.inl ⟨by rfl, ?_⟩) ?_
    case refine_2 => (intro w hSw; (try dsimp only at hSw); go_simp; (try with_reducible rfl))
    (try simp only [Act.put, List.getElem_toArray, List.getElem_cons_succ, List.getElem_cons_zero, List.setIfInBounds_toArray, List.set_cons_zero, List.set_cons_succ])
    refine wpAnyL_take (i := 1) (v := ?_) rfl (by kernel_rfl) (by kernel_rfl) (by kernel_rfl) (by kernel_rfl) (fun _ _ _ h => h) hS (Or.inl ⟨by rfl, ?_⟩) ?_
    case refine_2 => (intro w hSw; (try dsimp only at hSw); go_simp; (try with_reducible rfl))
    (try simp only [Act.put, List.getElem_toArray, List.getElem_cons_succ, List.getElem_cons_zero, List.setIfInBounds_toArray, List.set_cons_zero, List.set_cons_succ])
    refine wpAnyL_take (i := 2) (v := ?_) rfl (by kernel_rfl) (by kernel_rfl) (by kernel_rfl) (by kernel_rfl) (fun _ _ _ h => h) hS (Or.inl ⟨by rfl, ?_⟩) ?_
    case refine_2 => (intro w hSw; (try dsimp only at hSw); go_simp; (try with_reducible rfl))
    (try simp only [Act.put, List.getElem_toArray, List.getElem_cons_succ, List.getElem_cons_zero, List.setIfInBounds_toArray, List.set_cons_zero, List.set_cons_succ])
    refine wpAnyL_take (i := 3) (v := ?_) rfl (by kernel_rfl) (by kernel_rfl) (by kernel_rfl) (by kernel_rfl) (fun _ _ _ h => h) hS (Or.inl ⟨by rfl, ?_⟩) ?_
    case refine_2 => (intro w hSw; (try dsimp only at hSw); go_simp; (try with_reducible rfl))
    (try simp only [Act.put, List.getElem_toArray, List.getElem_cons_succ, List.getElem_cons_zero, List.setIfInBounds_toArray, List.set_cons_zero, List.set_cons_succ])
    refine wpAnyL_take (i := 4) (v := ?_) rfl (by kernel_rfl) (by kernel_rfl) (by kernel_rfl) (by kernel_rfl) (fun _ _ _ h => h) hS (Or.inl ⟨by rfl, ?_⟩) ?_
    case refine_2 => (intro w hSw; (try dsimp only at hSw); go_simp; (try with_reducible rfl))
    (try simp only [Act.put, List.getElem_toArray, List.getElem_cons_succ, List.getElem_cons_zero, List.setIfInBounds_toArray, List.set_cons_zero, List.set_cons_succ])
    refine wpAnyL_take (i := 5) (v := ?_) rfl (by kernel_rfl) (by kernel_rfl) (by kernel_rfl) (by kernel_rfl) (fun _ _ _ h => h) hS (Or.inl ⟨by rfl, ?_⟩) ?_
    case refine_2 => (intro w hSw; (try dsimp only at hSw); go_simp; (try with_reducible rfl))
    (try simp only [Act.put, List.getElem_toArray, List.getElem_cons_succ, List.getElem_cons_zero, List.setIfInBounds_toArray, List.set_cons_zero, List.set_cons_succ])
    refine wpAnyL_take (i := 6) (v := ?_) rfl (by kernel_rfl) (by kernel_rfl) (by kernel_rfl) (by kernel_rfl) (fun _ _ _ h => h) hS (Or.inl ⟨by rfl, ?_⟩) ?_
    case refine_2 => (intro w hSw; (try dsimp only at hSw); go_simp; (try with_reducible rfl))
    (try simp only [Act.put, List.getElem_toArray, List.getElem_cons_succ, List.getElem_cons_zero, List.setIfInBounds_toArray, List.set_cons_zero, List.set_cons_succ])
    refine wpAnyL_take (i := 7) (v := ?_) rfl (by kernel_rfl) (by kernel_rfl) (by kernel_rfl) (by kernel_rfl) (fun _ _ _ h => h) hS (Or.inl ⟨by rfl, ?_⟩) ?_
    case refine_2 => (intro w hSw; (try dsimp only at hSw); go_simp; (try with_reducible rfl))
    (try simp only [Act.put, List.getElem_toArray, List.getElem_cons_succ, List.getElem_cons_zero, List.setIfInBounds_toArray, List.set_cons_zero, List.set_cons_succ])
    refine wpAnyL_take (i := 8) (v := ?_) rfl (by kernel_rfl) (by kernel_rfl) (by kernel_rfl) (by kernel_rfl) (fun _ _ _ h => h) hS (Or.inl ⟨by rfl, ?_⟩) ?_
    case refine_2 => (intro w hSw; (try dsimp only at hSw); go_simp; (try with_reducible rfl))
    (try simp only [Act.put, List.getElem_toArray, List.getElem_cons_succ, List.getElem_cons_zero, List.setIfInBounds_toArray, List.set_cons_zero, List.set_cons_succ])
    refine wpAnyL_take (i := 9) (v := ?_) rfl (by kernel_rfl) (by kernel_rfl) (by kernel_rfl) (by kernel_rfl) (fun _ _ _ h => h) hS (Or.inl ⟨by rfl, ?_⟩) ?_
    case refine_2 => (intro w hSw; (try dsimp only at hSw); go_simp; (try with_reducible rfl))
    (try simp only [Act.put, List.getElem_toArray, List.getElem_cons_succ, List.getElem_cons_zero, List.setIfInBounds_toArray, List.set_cons_zero, List.set_cons_succ])
    refine wpAnyL_take (i := 10) (v := ?_) rfl (by kernel_rfl) (by kernel_rfl) (by kernel_rfl) (by kernel_rfl) (fun _ _ _ h => h) hS (Or.inl ⟨by rfl, ?_⟩) ?_
    case refine_2 => (intro w hSw; (try dsimp only at hSw); go_simp; (try with_reducible rfl))
    (try simp only [Act.put, List.getElem_toArray, List.getElem_cons_succ, List.getElem_cons_zero, List.setIfInBounds_toArray, List.set_cons_zero, List.set_cons_succ])
    refine wpAnyL_take (i := 11) (v := ?_) rfl (by kernel_rfl) (by kernel_rfl) (by kernel_rfl) (by kernel_rfl) (fun _ _ _ h => h) hS (Or.inl ⟨by rfl, ?_⟩) ?_
    case refine_2 => (intro w hSw; (try dsimp only at hSw); go_simp; (try with_reducible rfl))
    (try simp only [Act.put, List.getElem_toArray, List.getElem_cons_succ, List.getElem_cons_zero, List.setIfInBounds_toArray, List.set_cons_zero, List.set_cons_succ])
    refine wpAnyL_take (i := 12) (v := ?_) rfl (by kernel_rfl) (by kernel_rfl) (by kernel_rfl) (by kernel_rfl) (fun _ _ _ h => h) hS (Or.inl ⟨by rfl, ?_⟩) ?_
    case refine_2 => (intro w hSw; (try dsimp only at hSw); go_simp; (try with_reducible rfl))
    (try simp only [Act.put, List.getElem_toArray, List.getElem_cons_succ, List.getElem_cons_zero, List.setIfInBounds_toArray, List.set_cons_zero, List.set_cons_succ])
    refine wpAnyL_take (i := 13) (v := ?_) rfl (by kernel_rfl) (by kernel_rfl) (by kernel_rfl) (by kernel_rfl) (fun _ _ _ h => h) hS (Or.inl ⟨by rfl, ?_⟩) ?_
    case refine_2 => (intro w hSw; (try dsimp only at hSw); go_simp; (try with_reducible rfl))
    (try simp only [Act.put, List.getElem_toArray, List.getElem_cons_succ, List.getElem_cons_zero, List.setIfInBounds_toArray, List.set_cons_zero, List.set_cons_succ])
    refine wpAnyL_take (i := 14) (v := ?_) rfl (by kernel_rfl) (by kernel_rfl) (by kernel_rfl) (by kernel_rfl) (fun _ _ _ h => h) hS (Or.inl ⟨by rfl, ?_⟩) ?_
    case refine_2 => (intro w hSw; (try dsimp only at hSw); go_simp; (try with_reducible rfl))
    (try simp only [Act.put, List.getElem_toArray, List.getElem_cons_succ, List.getElem_cons_zero, List.setIfInBounds_toArray, List.set_cons_zero, List.set_cons_succ])
    refine wpAnyL_take (i := 15) (v := ?_) rfl (by kernel_rfl) (by kernel_rfl) (by kernel_rfl) (by kernel_rfl) (fun _ _ _ h => h) hS (Or.inl ⟨by rfl, ?_⟩) ?_
    case refine_2 => (intro w hSw; (try dsimp only at hSw); go_simp; (try with_reducible rfl))
    (try simp only [Act.put, List.getElem_toArray, List.getElem_cons_succ, List.getElem_cons_zero, List.setIfInBounds_toArray, List.set_cons_zero, List.set_cons_succ])
    refine wpAnyL_take (i := 16) (v := ?_) rfl (by kernel_rfl) (by kernel_rfl) (by kernel_rfl) (by kernel_rfl) (fun _ _ _ h => h) hS (Or.inl ⟨by rfl, ?_⟩) ?_
    case refine_2 => (intro w hSw; (try dsimp only at hSw); go_simp; (try with_reducible rfl))
    (try simp only [Act.put, List.getElem_toArray, List.getElem_cons_succ, List.getElem_cons_zero, List.setIfInBounds_toArray, List.set_cons_zero, List.set_cons_succ])
    refine wpAnyL_take (i := 17) (v := ?_) rfl (by kernel_rfl) (by kernel_rfl) (by kernel_rfl) (by kernel_rfl) (fun _ _ _ h => h) hS (Or.inl ⟨by rfl, ?_⟩) ?_
    case refine_2 => (intro w hSw; (try dsimp only at hSw); go_simp; (try with_reducible rfl))
    (try simp only [Act.put, List.getElem_toArray, List.getElem_cons_succ, List.getElem_cons_zero, List.setIfInBounds_toArray, List.set_cons_zero, List.set_cons_succ])
    refine wpAnyL_take (i := 18) (v := ?_) rfl (by kernel_rfl) (by kernel_rfl) (by kernel_rfl) (by kernel_rfl) (fun _ _ _ h => h) hS (Or.inl ⟨by rfl, ?_⟩) ?_
    case refine_2 => (intro w hSw; (try dsimp only at hSw); go_simp; (try with_reducible rfl))
    (try simp only [Act.put, List.getElem_toArray, List.getElem_cons_succ, List.getElem_cons_zero, List.setIfInBounds_toArray, List.set_cons_zero, List.set_cons_succ])
    refine wpAnyL_take (i := 19) (v := ?_) rfl (by kernel_rfl) (by kernel_rfl) (by kernel_rfl) (by kernel_rfl) (fun _ _ _ h => h) hS (Or.inl ⟨by rfl, ?_⟩) ?_
    case refine_2 => (intro w hSw; (try dsimp only at hSw); go_simp; (try with_reducible rfl))
    (try simp only [Act.put, List.getElem_toArray, List.getElem_cons_succ, List.getElem_cons_zero, List.setIfInBounds_toArray, List.set_cons_zero, List.set_cons_succ])
    refine wpAnyL_take (i := 20) (v := ?_) rfl (by kernel_rfl) (by kernel_rfl) (by kernel_rfl) (by kernel_rfl) (fun _ _ _ h => h) hS (Or.inl ⟨by rfl, ?_⟩) ?_
    case refine_2 => (intro w hSw; (try dsimp only at hSw); go_simp; (try with_reducible rfl))
    (try simp only [Act.put, List.getElem_toArray, List.getElem_cons_succ, List.getElem_cons_zero, List.setIfInBounds_toArray, List.set_cons_zero, List.set_cons_succ])
    refine wpAnyL_take (i := 21) (v := ?_) rfl (by kernel_rfl) (by kernel_rfl) (by kernel_rfl) (by kernel_rfl) (fun _ _ _ h => h) hS (Or.inl ⟨by rfl, ?_⟩) ?_
    case refine_2 => (intro w hSw; (try dsimp only at hSw); go_simp; (try with_reducible rfl))
    (try simp only [Act.put, List.getElem_toArray, List.getElem_cons_succ, List.getElem_cons_zero, List.setIfInBounds_toArray, List.set_cons_zero, List.set_cons_succ])
    refine wpAnyL_take (i := 22) (v := ?_) rfl (by kernel_rfl) (by kernel_rfl) (by kernel_rfl) (by kernel_rfl) (fun _ _ _ h => h) hS (Or.inl ⟨by rfl, ?_⟩) ?_
    case refine_2 => (intro w hSw; (try dsimp only at hSw); go_simp; (try with_reducible rfl))
    (try simp only [Act.put, List.getElem_toArray, List.getElem_cons_succ, List.getElem_cons_zero, List.setIfInBounds_toArray, List.set_cons_zero, List.set_cons_succ])
    refine wpAnyL_take (i := 23) (v := ?_) rfl (by kernel_rfl) (by kernel_rfl) (by kernel_rfl) (by kernel_rfl) (fun _ _ _ h => h) hS (Or.inl ⟨by rfl, ?_⟩) ?_
    case refine_2 => (intro w hSw; (try dsimp only at hSw); go_simp; (try with_reducible rfl))
    (try simp only [Act.put, List.getElem_toArray, List.getElem_cons_succ, List.getElem_cons_zero, List.setIfInBounds_toArray, List.set_cons_zero, List.set_cons_succ])
    refine wpAnyL_take (i := 24) (v := ?_) rfl (by kernel_rfl) (by kernel_rfl) (by kernel_rfl) (by kernel_rfl) (fun _ _ _ h => h) hS (Or.inl ⟨by rfl, ?_⟩) ?_
    case refine_2 => (intro w hSw; (try dsimp only at hSw); go_simp; (try with_reducible rfl))
    (try simp only [Act.put, List.getElem_toArray, List.getElem_cons_succ, List.getElem_cons_zero, List.setIfInBounds_toArray, List.set_cons_zero, List.set_cons_succ])
    refine wpAnyL_take (i := 25) (v := ?_) rfl (by kernel_rfl) (by kernel_rfl) (by kernel_rfl) (by kernel_rfl) (fun _ _ _ h => h) hS (Or.inl ⟨by rfl, ?_⟩) ?_
    case refine_2 => (intro w hSw; (try dsimp only at hSw); go_simp; (try with_reducible rfl))
    (try simp only [Act.put, List.getElem_toArray, List.getElem_cons_succ, List.getElem_cons_zero, List.setIfInBounds_toArray, List.set_cons_zero, List.set_cons_succ])
    refine wpAnyL_take (i := 26) (v := ?_) rfl (by kernel_rfl) (by kernel_rfl) (by kernel_rfl) (by kernel_rfl) (fun _ _ _ h => h) hS (Or.inl ⟨by rfl, ?_⟩) ?_
    case refine_2 => (intro w hSw; (try dsimp only at hSw); go_simp; (try with_reducible rfl))
    (try simp only [Act.put, List.getElem_toArray, List.getElem_cons_succ, List.getElem_cons_zero, List.setIfInBounds_toArray, List.set_cons_zero, List.set_cons_succ])
    refine wpAnyL_take (i := 27) (v := ?_) rfl (by kernel_rfl) (by kernel_rfl) (by kernel_rfl) (by kernel_rfl) (fun _ _ _ h => h) hS (Or.inl ⟨by rfl, ?_⟩) ?_
    case refine_2 => (intro w hSw; (try dsimp only at hSw); go_simp; (try with_reducible rfl))
    (try simp only [Act.put, List.getElem_toArray, List.getElem_cons_succ, List.getElem_cons_zero, List.setIfInBounds_toArray, List.set_cons_zero, List.set_cons_succ])
    refine wpAnyL_take (i := 28) (v := ?_) rfl (by kernel_rfl) (by kernel_rfl) (by kernel_rfl) (by kernel_rfl) (fun _ _ _ h => h) hS (Or.inl ⟨by rfl, ?_⟩) ?_
    case refine_2 => (intro w hSw; (try dsimp only at hSw); go_simp; (try with_reducible rfl))
    (try simp only [Act.put, List.getElem_toArray, List.getElem_cons_succ, List.getElem_cons_zero, List.setIfInBounds_toArray, List.set_cons_zero, List.set_cons_succ])
    refine wpAnyL_take (i := 29) (v := ?_) rfl (by kernel_rfl) (by kernel_rfl) (by kernel_rfl) (by kernel_rfl) (fun _ _ _ h => h) hS (Or.inl ⟨by rfl, ?_⟩) ?_
    case refine_2 => (intro w hSw; (try dsimp only at hSw); go_simp; (try with_reducible rfl))
    (try simp only [Act.put, List.getElem_toArray, List.getElem_cons_succ, List.getElem_cons_zero, List.setIfInBounds_toArray, List.set_cons_zero, List.set_cons_succ])
    refine wpAnyL_take (i := 30) (v := ?_) rfl (by kernel_rfl) (by kernel_rfl) (by kernel_rfl) (by kernel_rfl) (fun _ _ _ h => h) hS (Or.inl ⟨by rfl, ?_⟩) ?_
    case refine_2 => (intro w hSw; (try dsimp only at hSw); go_simp; (try with_reducible rfl))
    (try simp only [Act.put, List.getElem_toArray, List.getElem_cons_succ, List.getElem_cons_zero, List.setIfInBounds_toArray, List.set_cons_zero, List.set_cons_succ])
    refine wpAnyL_take (i := 31) (v := ?_) rfl (by kernel_rfl) (by kernel_rfl) (by kernel_rfl) (by kernel_rfl) (fun _ _ _ h => h) hS (Or.inl ⟨by rfl, ?_⟩) ?_
    case refine_2 => (intro w hSw; (try dsimp only at hSw); go_simp; (try with_reducible rfl))
    (try simp only [Act.put, List.getElem_toArray, List.getElem_cons_succ, List.getElem_cons_zero, List.setIfInBounds_toArray, List.set_cons_zero, List.set_cons_succ])
    refine wpAnyL_take (i := 32) (v := ?_) rfl (by kernel_rfl) (by kernel_rfl) (by kernel_rfl) (by kernel_rfl) (fun _ _ _ h => h) hS (Or.inl ⟨by rfl, ?_⟩) ?_
    case refine_2 => (intro w hSw; (try dsimp only at hSw); go_simp; (try with_reducible rfl))
    (try simp only [Act.put, List.getElem_toArray, List.getElem_cons_succ, List.getElem_cons_zero, List.setIfInBounds_toArray, List.set_cons_zero, List.set_cons_succ])
    refine wpAnyL_take (i := 33) (v := ?_) rfl (by kernel_rfl) (by kernel_rfl) (by kernel_rfl) (by kernel_rfl) (fun _ _ _ h => h) hS (Or.inl ⟨by rfl, ?_⟩) ?_
    case refine_2 => (intro w hSw; (try dsimp only at hSw); go_simp; (try with_reducible rfl))
    (try simp only [Act.put, List.getElem_toArray, List.getElem_cons_succ, List.getElem_cons_zero, List.setIfInBounds_toArray, List.set_cons_zero, List.set_cons_succ])
    refine wpAnyL_take (i := 34) (v := ?_) rfl (by kernel_rfl) (by kernel_rfl) (by kernel_rfl) (by kernel_rfl) (fun _ _ _ h => h) hS (Or.inl ⟨by rfl, ?_⟩) ?_
    case refine_2 => (intro w hSw; (try dsimp only at hSw); go_simp; (try with_reducible rfl))
    (try simp only [Act.put, List.getElem_toArray, List.getElem_cons_succ, List.getElem_cons_zero, List.setIfInBounds_toArray, List.set_cons_zero, List.set_cons_succ])
    refine wpAnyL_take (i := 35) (v := ?_) rfl (by kernel_rfl) (by kernel_rfl) (by kernel_rfl) (by kernel_rfl) (fun _ _ _ h => h) hS (Or.inl ⟨by rfl, ?_⟩) ?_
    case refine_2 => (intro w hSw; (try dsimp only at hSw); go_simp; (try with_reducible rfl))
    (try simp only [Act.put, List.getElem_toArray, List.getElem_cons_succ, List.getElem_cons_zero, List.setIfInBounds_toArray, List.set_cons_zero, List.set_cons_succ])
    refine wpAnyL_take (i := 36) (v := ?_) rfl (by kernel_rfl) (by kernel_rfl) (by kernel_rfl) (by kernel_rfl) (fun _ _ _ h => h) hS (Or.inl ⟨by rfl, ?_⟩) ?_
    case refine_2 => (intro w hSw; (try dsimp only at hSw); go_simp; (try with_reducible rfl))
    (try simp only [Act.put, List.getElem_toArray, List.getElem_cons_succ, List.getElem_cons_zero, List.setIfInBounds_toArray, List.set_cons_zero, List.set_cons_succ])
    refine wpAnyL_take (i := 37) (v := ?_) rfl (by kernel_rfl) (by kernel_rfl) (by kernel_rfl) (by kernel_rfl) (fun _ _ _ h => h) hS (Or.inl ⟨by rfl, ?_⟩) ?_
    case refine_2 => (intro w hSw; (try dsimp only at hSw); go_simp; (try with_reducible rfl))
    (try simp only [Act.put, List.getElem_toArray, List.getElem_cons_succ, List.getElem_cons_zero, List.setIfInBounds_toArray, List.set_cons_zero, List.set_cons_succ])
    refine wpAnyL_take (i := 38) (v := ?_) rfl (by kernel_rfl) (by kernel_rfl) (by kernel_rfl) (by kernel_rfl) (fun _ _ _ h => h) hS (Or.inl ⟨by rfl, ?_⟩) ?_
    case refine_2 => (intro w hSw; (try dsimp only at hSw); go_simp; (try with_reducible rfl))
    (try simp only [Act.put, List.getElem_toArray, List.getElem_cons_succ, List.getElem_cons_zero, List.setIfInBounds_toArray, List.set_cons_zero, List.set_cons_succ])
    refine wpAnyL_take (i := 39) (v := ?_) rfl (by kernel_rfl) (by kernel_rfl) (by kernel_rfl) (by kernel_rfl) (fun _ _ _ h => h) hS (Or.inl ⟨by rfl, ?_⟩) ?_
    case refine_2 => (intro w hSw; (try dsimp only at hSw); go_simp; (try with_reducible rfl))
    (try simp only [Act.put, List.getElem_toArray, List.getElem_cons_succ, List.getElem_cons_zero, List.setIfInBounds_toArray, List.set_cons_zero, List.set_cons_succ])
    refine wpAnyL_take (i := 40) (v := ?_) rfl (by kernel_rfl) (by kernel_rfl) (by kernel_rfl) (by kernel_rfl) (fun _ _ _ h => h) hS (Or.inl ⟨by rfl, ?_⟩) ?_
    case refine_2 => (intro w hSw; (try dsimp only at hSw); go_simp; (try with_reducible rfl))
    (try simp only [Act.put, List.getElem_toArray, List.getElem_cons_succ, List.getElem_cons_zero, List.setIfInBounds_toArray, List.set_cons_zero, List.set_cons_succ])
    refine wpAnyL_one (i := 41) (by kernel_rfl) rfl (fun K hK => ?_)
    go_simp
    refine hK.out _ _ (fun _ => ⟨HCL.out _ (hal _) 1 (by omega), HCL.out _ (hal _) 2 (by omega), HCL.out _ (hal _) 3 (by omega), HCL.out _ (hal _) 4 (by omega), HCL.out _ (hal _) 5 (by omega), HCL.out _ (hal _) 6 (by omega), HCL.out _ (hal _) 7 (by omega), HCL.out _ (hal _) 8 (by omega)⟩) ?_
    clear hK K
    refine wpAnyL_one (i := 42) (by kernel_rfl) rfl (fun K hK => ?_)
    go_simp
    refine hK.out _ _ (fun h => absurd rfl h) ?_
    clear hK K
    refine wpAnyL_done (by kernel_rfl) ?_ _
    have HW : Hid (Below w.heap.size w (w1.alloc (.cells #[.int .i64 (genS s : Int), .int .i64 (num s : Int), .int .i64 (s 7 : Int), .bool (lst s), .slice none 0 0] 67)).drew ∧ Five (w1.alloc (.cells #[.int .i64 (genS s : Int), .int .i64 (num s : Int), .int .i64 (s 7 : Int), .bool (lst s), .slice none 0 0] 67)).drew w1.heap.size (.int .i64 (genS s : Int)) (.int .i64 (num s : Int)) (.int .i64 (s 7 : Int)) (.bool (lst s)) (.slice none 0 0) ∧ Five (w1.alloc (.cells #[.int .i64 (genS s : Int), .int .i64 (num s : Int), .int .i64 (s 7 : Int), .bool (lst s), .slice none 0 0] 67)).drew w.heap.size (.int .i64 0) (.int .i64 0) (.int .i64 0) (.bool false) (.slice none 0 0) ∧ w1.heap.size < (w1.alloc (.cells #[.int .i64 (genS s : Int), .int .i64 (num s : Int), .int .i64 (s 7 : Int), .bool (lst s), .slice none 0 0] 67)).drew.heap.size) :=
      ⟨hal _, (Five.new w1 _ _ _ _ _ _).drew, (HF1.out.below ((Below.refl w1.heap.size w1).alloc (Nat.le_refl _) _) HHW.out).drew, by show w1.heap.size < (w1.alloc (.cells #[.int .i64 (genS s : Int), .int .i64 (num s : Int), .int .i64 (s 7 : Int), .bool (lst s), .slice none 0 0] 67)).heap.size; simp⟩
    clear hal x1 x2 x3 x4 x5 x6 x7 y1 y2 y3 y4 y5 y6 z4 z5 q1 q2 q3 q4 q5 q6 q7 q8 hS HF1
    generalize (w1.alloc (.cells #[.int .i64 (genS s : Int), .int .i64 (num s : Int), .int .i64 (s 7 : Int), .bool (lst s), .slice none 0 0] 67)).drew = W2 at *
    have r8 := HCL.out W2 HW.out.1 8 (by omega)
    obtain ⟨d0, d1, d2, d3, d4, g0, g1', g2, g3, g4⟩ := HW.out.2.1
    obtain ⟨c0, c1', c2, c3, c4, f0, f1, f2, f3, f4⟩ := HW.out.2.2.1
    have hqp : w1.heap.size ≠ w.heap.size := by have := HHW.out; omega
    have hpq : w.heap.size ≠ w1.heap.size := Ne.symm hqp
    have hn128 : cnt s < 128 := Nat.mod_lt _ (by omega)
    have e9 : (s 8 : Int) % 128 = (cnt s : Int) := by unfold cnt; omega
    have e9' : (s 8 : Int).tmod 128 = (cnt s : Int) := by rw [Int.tmod_eq_emod_of_nonneg (by omega)]; exact e9
    by_cases hgt : 51 < cnt s
    · have hno : ¬ OkR s := fun h => by have := h.can.1; omega
      have hgt' : (51 : Int) < (cnt s : Int) := by omega
      have HNO := hid hno
      clear hno
      go_wp2_with fail
      refine bodyPost_ret (v := .tuple #[noPartR, .bool false]) ?_ rfl ?_
      · rw [results_cell_tmp rfl]; go_simp; rfl
      · exact ⟨fun _ => ⟨rfl, below_five HW.out.1 (Nat.le_refl _) _ _ _ _ _⟩, fun h => absurd h HNO.out⟩
    · have hgt' : ¬ (51 : Int) < (cnt s : Int) := by omega
      by_cases hlast : cnt s < 51 ∧ lst s = false
      · obtain ⟨hl1, hl2⟩ := hlast
        have hno : ¬ OkR s := fun h => by
          rcases h.can.2 with e | e
          · omega
          · rw [hl2] at e; cases e
        have hl1' : (cnt s : Int) < 51 := by omega
        rw [hl2] at d3
        have HNO := hid hno
        clear hno
        go_wp2_with fail
        refine bodyPost_ret (v := .tuple #[noPartR, .bool false]) ?_ rfl ?_
        · rw [results_cell_tmp rfl]; go_simp; rfl
        · exact ⟨fun _ => ⟨rfl, below_five HW.out.1 (Nat.le_refl _) _ _ _ _ _⟩, fun h => absurd h HNO.out⟩
      · have hcan : cnt s ≤ 51 ∧ (cnt s = 51 ∨ lst s = true) := ⟨by omega, by
          by_cases e : cnt s = 51
          · exact .inl e
          · right
            cases hl : lst s with
            | true => rfl
            | false => exact absurd ⟨by omega, hl⟩ hlast⟩
        have hch : (¬ (cnt s : Int) < 51) ∨ ((cnt s : Int) < 51 ∧ lst s = true) := by
          by_cases e : (cnt s : Int) < 51
          · rcases hcan.2 with h1 | h1
            · omega
            · exact .inr ⟨e, h1⟩
          · exact .inl e
        obtain ⟨dd, hdd⟩ : ∃ dd, dd = 9 + cnt s := ⟨_, rfl⟩
        have hdi : (9 : Int) + (cnt s : Int) = (dd : Int) := by omega
        have hd60 : dd ≤ 60 := by omega
        have HDD := hid hdd
        have HCAN := hid hcan
        have hdata : ∀ v, (Instr.slice 31 (.slice (some ⟨b, o, none⟩) 64 c) (some (.int .i64 9)) (some (.int .i64 (dd : Int))) none).run Try.prog v = .ok (.slice (some ⟨b, o + 9, none⟩) (cnt s) (c - 9)) v := fun v => by
          have := cut_lh b o 64 c 9 dd v (by omega) (by omega) (by omega)
          rwa [show dd - 9 = cnt s by omega] at this
        have HR9 : Hid (∀ v, Below w.heap.size w v → RowAt v (some ⟨b, o + 9, none⟩) (cnt s) (fun i => s (9 + i))) := fun v hv => row_drop (m := 9) ((HROW.out.below hv).take (by omega))
        obtain ⟨gE, cE, wE, hapE, hbE, hoE, _, _, _, hrE⟩ := bytes_copy W2 (some ⟨b, o + 9, none⟩) (cnt s) (c - 9) (fun i => s (9 + i)) (HR9.out W2 HW.out.1) (fun e => by cases e) (by omega)
        have hcE : cnt s ≤ cE := by
          obtain ⟨g', c', e, _, _, h6, _⟩ := own_rowAt hoE (fun h => by cases h)
          injection e with _ _ e
          omega
        have HE5 : Hid (Below w.heap.size w wE ∧ RowAt wE (some ⟨gE, 0, none⟩) (cnt s) (fun i => s (9 + i)) ∧ cnt s ≤ cE ∧ W2.heap.size ≤ gE) := ⟨HW.out.1.trans (hbE.mono HW.out.1.size), hrE, hcE, by assumption⟩
        have hQE := HW.out.2.1.below hbE HW.out.2.2.2
        have hPE := HW.out.2.2.1.below hbE (by have := HW.out.2.2.2; have := HHW.out; omega)
        have HQPE := hid (And.intro hQE hPE)
        clear hdd hcan hlast hbE hoE hrE hcE hQE hPE
        have HLOOP : ∀ (Z : Prop), Z → Z := fun _ h => h
        rcases hch with hch | ⟨hch, hch2⟩
        · go_wp2_with fail
          go_loopw [6] (fun i wr => ∃ j : Nat, dd ≤ j ∧ j ≤ 60 ∧ i = .int .i64 j ∧ wr = W2 ∧ Hid (∀ q, dd ≤ q → q < j → s q = 0)) (fun i _ => 60 - (intOf i).toNat)
          case atStart => exact ⟨dd, Nat.le_refl _, hd60, rfl, rfl, fun q h1 h2 => by omega⟩
          case round =>
            obtain ⟨j, hj1, hj2, rfl, rfl, HJ⟩ := hrel
            by_cases hj : j < 60
            · exfalso; omega
            · obtain rfl : j = 60 := by omega
              have hok : OkR s := ⟨HE0.out, hm, HCAN.out, fun q h1 h2 => HJ.out q (by have := HDD.out; omega) h2⟩
              obtain ⟨u0, u1, u2, u3, u4, p0, p1, p2, p3, p4⟩ := HQPE.out.1
              obtain ⟨t0, t1, t2, t3, t4, o0, o1, o2, o3, o4⟩ := HQPE.out.2
              clear d0 d1 d2 d3 d4 g0 g1' g2 g3 g4 c0 c1' c2 c3 c4 f0 f1 f2 f3 f4
              go_wp2_with (first
                | (at_builtin; refine wpList_append_run rfl _ _ 31 rfl _ _ rfl rfl hapE ?_; clear hapE))
              refine bodyPost_ret (v := .tuple #[.agg #[.int .i64 (genS s : Int), .int .i64 (num s : Int), .int .i64 (s 7 : Int), .bool (lst s), .slice (some ⟨gE, 0, none⟩) (cnt s) cE], .bool true]) ?_ rfl ?_
              · rw [results_cell_tmp rfl]; go_simp
              · refine ⟨fun h => absurd hok h, fun _ => ⟨gE, cE, rfl, ?_, ?_, HE5.out.2.2.1⟩⟩
                · exact below_five (HE5.out.1.setCell (p := ⟨w1.heap.size, 4, none⟩) (by show w.heap.size ≤ w1.heap.size; have := HHW.out; omega) _) (Nat.le_refl _) _ _ _ _ _
                · have hgE : w1.heap.size ≠ gE ∧ w.heap.size ≠ gE := by have := HE5.out.2.2.2; have := HW.out.2.2.2; have := HHW.out; omega
                  rcases HE5.out.2.1 with e | ⟨b', o', e1, e2, e3⟩
                  · exact .inl e
                  · injection e1 with e1
                    injection e1 with e1 e4 _
                    subst e1 e4
                    refine .inr ⟨_, _, rfl, by simpa [World.setCell] using e2, fun i hi => ?_⟩
                    rw [cell_off (by intro e; injection e; omega), cell_off (by intro e; injection e; omega), cell_off (by intro e; injection e; omega), cell_off (by intro e; injection e; omega), cell_off (by intro e; injection e; omega), cell_off (by intro e; injection e; omega)]
                    exact e3 i hi
        · rw [hch2] at d3
          have HLS := hid hch2
          clear hch2
          go_wp2_with fail
          go_loopw [6] (fun i wr => ∃ j : Nat, dd ≤ j ∧ j ≤ 60 ∧ i = .int .i64 j ∧ wr = W2 ∧ Hid (∀ q, dd ≤ q → q < j → s q = 0)) (fun i _ => 60 - (intOf i).toNat)
          case atStart => exact ⟨dd, Nat.le_refl _, hd60, rfl, rfl, fun q h1 h2 => by omega⟩
          case round =>
            obtain ⟨j, hj1, hj2, rfl, rfl, HJ⟩ := hrel
            by_cases hj : j < 60
            · have hj' : (j : Int) < 60 := by omega
              have rj := HCL.out wr HW.out.1 j (by omega)
              by_cases hz0 : s j = 0
              · rw [hz0] at rj
                have HN : Hid (∀ q, dd ≤ q → q < j + 1 → s q = 0) := fun q h1 h2 => by
                  by_cases e : q = j
                  · subst e; exact hz0
                  · exact HJ.out q h1 (by omega)
                go_wp2_with fail
                first
                  | exact ⟨⟨j + 1, by omega, by omega, by go_num, (by first | rfl | trivial), HN⟩, show 60 - ((j : Int) + 1).toNat < 60 - ((j : Int)).toNat by omega⟩
                  | (go_roundw
                     case rel => exact ⟨j + 1, by omega, by omega, by go_num, (by first | rfl | trivial), HN⟩
                     case measure => simp [intOf]; omega)
              · have hz0' : ((s j : Int) != 0) = true := by rw [bne_iff_ne]; omega
                have hno : ¬ OkR s := fun h => hz0 (h.zero j (by have := HDD.out; omega) hj)
                generalize s j = sj at *
                have HNO := hid hno
                clear hno
                go_wp2_with fail
                refine bodyPost_ret (v := .tuple #[noPartR, .bool false]) ?_ rfl ?_
                · rw [results_cell_tmp rfl]; go_simp; rfl
                · exact ⟨fun _ => ⟨rfl, below_five HW.out.1 (Nat.le_refl _) _ _ _ _ _⟩, fun h => absurd h HNO.out⟩
            · obtain rfl : j = 60 := by omega
              have hok : OkR s := ⟨HE0.out, hm, HCAN.out, fun q h1 h2 => HJ.out q (by have := HDD.out; omega) h2⟩
              obtain ⟨u0, u1, u2, u3, u4, p0, p1, p2, p3, p4⟩ := HQPE.out.1
              obtain ⟨t0, t1, t2, t3, t4, o0, o1, o2, o3, o4⟩ := HQPE.out.2
              rw [HLS.out] at u3
              clear d0 d1 d2 d3 d4 g0 g1' g2 g3 g4 c0 c1' c2 c3 c4 f0 f1 f2 f3 f4
              go_wp2_with (first
                | (at_builtin; refine wpList_append_run rfl _ _ 31 rfl _ _ rfl rfl hapE ?_; clear hapE))
              refine bodyPost_ret (v := .tuple #[.agg #[.int .i64 (genS s : Int), .int .i64 (num s : Int), .int .i64 (s 7 : Int), .bool (lst s), .slice (some ⟨gE, 0, none⟩) (cnt s) cE], .bool true]) ?_ rfl ?_
              · rw [results_cell_tmp rfl, HLS.out]; go_simp
              · refine ⟨fun h => absurd hok h, fun _ => ⟨gE, cE, rfl, ?_, ?_, HE5.out.2.2.1⟩⟩
                · exact below_five (HE5.out.1.setCell (p := ⟨w1.heap.size, 4, none⟩) (by show w.heap.size ≤ w1.heap.size; have := HHW.out; omega) _) (Nat.le_refl _) _ _ _ _ _
                · have hgE : w1.heap.size ≠ gE ∧ w.heap.size ≠ gE := by have := HE5.out.2.2.2; have := HW.out.2.2.2; have := HHW.out; omega
                  rcases HE5.out.2.1 with e | ⟨b', o', e1, e2, e3⟩
                  · exact .inl e
                  · injection e1 with e1
                    injection e1 with e1 e4 _
                    subst e1 e4
                    refine .inr ⟨_, _, rfl, by simpa [World.setCell] using e2, fun i hi => ?_⟩
                    rw [cell_off (by intro e; injection e; omega), cell_off (by intro e; injection e; omega), cell_off (by intro e; injection e; omega), cell_off (by intro e; injection e; omega), cell_off (by intro e; injection e; omega), cell_off (by intro e; injection e; omega)]
                    exact e3 i hi
  · have hno : ¬ OkR s := fun h => by
      have := h.mark
      rw [bne_iff_ne] at hm
      omega
    go_enter Try.func36, Try.ntmps36
    go_wp2_with fail
    refine wp_region_held_drew (S := fun v => (convert 31 9 (.slice (some ⟨b, o, none⟩) 64 c)).run Try.prog v = .ok (.string Ss) v ∧ v.cell? ⟨b, o, none⟩ = some (.int .u8 (s 0 : Int))) (by kernel_rfl) ⟨v0, k0⟩ (fun hHeld => ?_)
    refine wpAnyH_take (i := 0) (v := ?_) rfl (by kernel_rfl) (by kernel_rfl) (by kernel_rfl) (fun _ _ _ h => h) (Or.inl ⟨by rfl, ?_⟩) (by assumption) ?_
    case refine_2 => (intro w hSw; (try dsimp only at hSw); go_simp; (try with_reducible rfl))
    (try simp only [Act.put, List.getElem_toArray, List.getElem_cons_succ, List.getElem_cons_zero, List.setIfInBounds_toArray, List.set_cons_zero, List.set_cons_succ])
    refine wpAnyH_take (i := 1) (v := ?_) rfl (by kernel_rfl) (by kernel_rfl) (by kernel_rfl) (fun _ _ _ h => h) (Or.inl ⟨by rfl, ?_⟩) (by assumption) ?_
    case refine_2 => (intro w hSw; (try dsimp only at hSw); go_simp; (try with_reducible rfl))
    (try simp only [Act.put, List.getElem_toArray, List.getElem_cons_succ, List.getElem_cons_zero, List.setIfInBounds_toArray, List.set_cons_zero, List.set_cons_succ])
    refine wpAnyH_take (i := 2) (v := ?_) rfl (by kernel_rfl) (by kernel_rfl) (by kernel_rfl) (fun _ _ _ h => h) (Or.inl ⟨by rfl, ?_⟩) (by assumption) ?_
    case refine_2 => (intro w hSw; (try dsimp only at hSw); go_simp; (try with_reducible rfl))
    (try simp only [Act.put, List.getElem_toArray, List.getElem_cons_succ, List.getElem_cons_zero, List.setIfInBounds_toArray, List.set_cons_zero, List.set_cons_succ])
    refine wpAnyH_take (i := 3) (v := ?_) rfl (by kernel_rfl) (by kernel_rfl) (by kernel_rfl) (fun _ _ _ h => h) (Or.inl ⟨by rfl, ?_⟩) (by assumption) ?_
    case refine_2 => (intro w hSw; (try dsimp only at hSw); go_simp; (try with_reducible rfl))
    (try simp only [Act.put, List.getElem_toArray, List.getElem_cons_succ, List.getElem_cons_zero, List.setIfInBounds_toArray, List.set_cons_zero, List.set_cons_succ])
    refine wpAnyH_take (i := 4) (v := ?_) rfl (by kernel_rfl) (by kernel_rfl) (by kernel_rfl) (fun _ _ _ h => h) (Or.inl ⟨by rfl, ?_⟩) (by assumption) ?_
    case refine_2 => (intro w hSw; (try dsimp only at hSw); go_simp; (try with_reducible rfl))
    (try simp only [Act.put, List.getElem_toArray, List.getElem_cons_succ, List.getElem_cons_zero, List.setIfInBounds_toArray, List.set_cons_zero, List.set_cons_succ])
    refine wpAnyH_take (i := 5) (v := ?_) rfl (by kernel_rfl) (by kernel_rfl) (by kernel_rfl) (fun _ _ _ h => h) (Or.inl ⟨by rfl, ?_⟩) (by assumption) ?_
    case refine_2 => (intro w hSw; (try dsimp only at hSw); go_simp; (try with_reducible rfl))
    (try simp only [Act.put, List.getElem_toArray, List.getElem_cons_succ, List.getElem_cons_zero, List.setIfInBounds_toArray, List.set_cons_zero, List.set_cons_succ])
    refine wpAnyH_take (i := 8) (v := ?_) rfl (by kernel_rfl) (by kernel_rfl) (by kernel_rfl) (fun _ _ _ h => h) (Or.inl ⟨by rfl, ?_⟩) (by assumption) ?_
    case refine_2 => (intro w hSw; (try dsimp only at hSw); go_simp; (try with_reducible rfl))
    (try simp only [Act.put, List.getElem_toArray, List.getElem_cons_succ, List.getElem_cons_zero, List.setIfInBounds_toArray, List.set_cons_zero, List.set_cons_succ])
    refine wpAnyH_take (i := 9) (v := ?_) rfl (by kernel_rfl) (by kernel_rfl) (by kernel_rfl) (fun _ _ _ h => h) (Or.inl ⟨by rfl, ?_⟩) (by assumption) ?_
    case refine_2 => (intro w hSw; (try dsimp only at hSw); go_simp; (try with_reducible rfl))
    (try simp only [Act.put, List.getElem_toArray, List.getElem_cons_succ, List.getElem_cons_zero, List.setIfInBounds_toArray, List.set_cons_zero, List.set_cons_succ])
    refine wpAnyH_ready (rs := [6]) (by kernel_rfl) (by simp) ?_
    refine AllReadyH.cons rfl (fun K hK => ?_) AllReadyH.nil
    go_simp
    refine hap.mono ?_
    rintro e w1 ⟨g1, c1, rfl, hb1, hr1⟩
    have hr1' : RowAt w1 (some ⟨g1, 0, none⟩) 64 (sumd s) := hr1
    have hbz : Below (zPartR w).heap.size (zPartR w) w1 := ⟨hb1.os, hb1.tape, hb1.output, hb1.size, hb1.block⟩
    have v1 := HCV.out w1 hbz
    have v2 : (convert 31 9 (.slice (some ⟨g1, 0, none⟩) 64 c1)).run Try.prog w1 = .ok (.string Ss) w1 := by rw [HSS.out, ← str_congr HE.out]; exact conv_row _ _ _ _ _ hr1'
    have hbw : Below w.heap.size w w1 := HB0.out.trans (hbz.mono (by have := HZS.out; omega))
    have k1 := HCL.out w1 hbw 0 (by omega)
    rw [Nat.add_zero] at k1
    refine hK.out _ _ ⟨v1, k1⟩ (fun hHeld => ?_)
    clear hK K
    refine wpAnyH_ready (rs := [7]) (by kernel_rfl) (by simp) ?_
    refine AllReadyH.cons rfl (fun K hK => ?_) AllReadyH.nil
    go_simp
    refine hK.out _ _ ⟨v1, k1⟩ (fun hHeld => ?_)
    clear hK K
    refine wpAnyH_take (i := 10) (v := ?_) rfl (by kernel_rfl) (by kernel_rfl) (by kernel_rfl) (fun _ _ _ h => h) (Or.inl ⟨by rfl, ?_⟩) (by assumption) ?_
    case refine_2 => (intro w hSw; (try dsimp only at hSw); go_simp; (try with_reducible rfl))
    (try simp only [Act.put, List.getElem_toArray, List.getElem_cons_succ, List.getElem_cons_zero, List.setIfInBounds_toArray, List.set_cons_zero, List.set_cons_succ])
    refine wpAnyH_take (i := 11) (v := ?_) rfl (by kernel_rfl) (by kernel_rfl) (by kernel_rfl) (fun _ _ _ h => h) (Or.inl ⟨by rfl, ?_⟩) (by assumption) ?_
    case refine_2 => (intro w hSw; (try dsimp only at hSw); go_simp; (try with_reducible rfl))
    (try simp only [Act.put, List.getElem_toArray, List.getElem_cons_succ, List.getElem_cons_zero, List.setIfInBounds_toArray, List.set_cons_zero, List.set_cons_succ])
    refine wpAnyH_take (i := 12) (v := ?_) rfl (by kernel_rfl) (by kernel_rfl) (by kernel_rfl) (fun _ _ _ h => h) (Or.inl ⟨by rfl, ?_⟩) (by assumption) ?_
    case refine_2 => (intro w hSw; (try dsimp only at hSw); go_simp; (try with_reducible rfl))
    (try simp only [Act.put, List.getElem_toArray, List.getElem_cons_succ, List.getElem_cons_zero, List.setIfInBounds_toArray, List.set_cons_zero, List.set_cons_succ])
    refine wpAnyH_take (i := 13) (v := ?_) rfl (by kernel_rfl) (by kernel_rfl) (by kernel_rfl) (fun _ _ _ h => h) (Or.inl ⟨by rfl, ?_⟩) (by assumption) ?_
    case refine_2 => (intro w hSw; (try dsimp only at hSw); go_simp; (try with_reducible rfl))
    (try simp only [Act.put, List.getElem_toArray, List.getElem_cons_succ, List.getElem_cons_zero, List.setIfInBounds_toArray, List.set_cons_zero, List.set_cons_succ])
    refine wpAnyH_take (i := 14) (v := ?_) rfl (by kernel_rfl) (by kernel_rfl) (by kernel_rfl) (fun _ _ _ h => h) (Or.inl ⟨by rfl, ?_⟩) (by assumption) ?_
    case refine_2 => (intro w hSw; (try dsimp only at hSw); go_simp; (try with_reducible rfl))
    (try simp only [Act.put, List.getElem_toArray, List.getElem_cons_succ, List.getElem_cons_zero, List.setIfInBounds_toArray, List.set_cons_zero, List.set_cons_succ])
    refine wpAnyH_take (i := 15) (v := ?_) rfl (by kernel_rfl) (by kernel_rfl) (by kernel_rfl) (fun _ _ _ h => h) (Or.inl ⟨by rfl, ?_⟩) (by assumption) ?_
    case refine_2 => (intro w hSw; (try dsimp only at hSw); go_simp; (try with_reducible rfl))
    (try simp only [Act.put, List.getElem_toArray, List.getElem_cons_succ, List.getElem_cons_zero, List.setIfInBounds_toArray, List.set_cons_zero, List.set_cons_succ])
    refine wpAnyH_take (i := 16) (v := ?_) rfl (by kernel_rfl) (by kernel_rfl) (by kernel_rfl) (fun _ _ _ h => h) (Or.inl ⟨by rfl, ?_⟩) (by assumption) ?_
    case refine_2 => (intro w hSw; (try dsimp only at hSw); go_simp; (try with_reducible rfl))
    (try simp only [Act.put, List.getElem_toArray, List.getElem_cons_succ, List.getElem_cons_zero, List.setIfInBounds_toArray, List.set_cons_zero, List.set_cons_succ])
    refine wpAnyH_take (i := 17) (v := ?_) rfl (by kernel_rfl) (by kernel_rfl) (by kernel_rfl) (fun _ _ _ h => h) (Or.inl ⟨by rfl, ?_⟩) (by assumption) ?_
    case refine_2 => (intro w hSw; (try dsimp only at hSw); go_simp; (try with_reducible rfl))
    (try simp only [Act.put, List.getElem_toArray, List.getElem_cons_succ, List.getElem_cons_zero, List.setIfInBounds_toArray, List.set_cons_zero, List.set_cons_succ])
    refine wpAnyH_done (by kernel_rfl) ?_ _
    rw [HZS.out] at hbz
    obtain ⟨c0, c1', c2, c3, c4, f0, f1, f2, f3, f4⟩ := HFV.out w1 hbz
    have HBW := hid hbw
    clear hHeld hap hb1 hr1 hr1' v1 v2 hbz hbw k1 v0 k0
    have HNO := hid hno
    clear hno
    go_wp2_with fail
    refine bodyPost_ret (v := .tuple #[noPartR, .bool false]) ?_ rfl ?_
    · rw [results_cell_tmp rfl]; go_simp; rfl
    · exact ⟨fun _ => ⟨rfl, below_five HBW.out (Nat.le_refl _) _ _ _ _ _⟩, fun h => absurd h HNO.out⟩

theorem rread_no (b o c : Nat) (s : Nat → Nat) (w : World) (hs : ∀ i, s i < 256) (hc : 64 ≤ c) (h : RowAt w (some ⟨b, o, none⟩) 64 s) (hno : ¬ OkR s) :
    Calls Try.prog 36 #[.slice (some ⟨b, o, none⟩) 64 c] w fun e w' => e = .returned (.tuple #[noPartR, .bool false]) ∧ Below w.heap.size w w' := by
  by_cases he : Ends s 60
  · exact (rread_rest b o c s w hs hc h he).mono fun e w' h => h.1 hno
  · exact rread_sum b o c s w hs hc h he

theorem rread_yes (b o c : Nat) (s : Nat → Nat) (w : World) (hs : ∀ i, s i < 256) (hc : 64 ≤ c) (h : RowAt w (some ⟨b, o, none⟩) 64 s) (hok : OkR s) :
    Calls Try.prog 36 #[.slice (some ⟨b, o, none⟩) 64 c] w fun e w' => ∃ y cy, e = .returned (.tuple #[.agg #[.int .i64 (genS s : Int), .int .i64 (num s : Int), .int .i64 (s 7 : Int), .bool (lst s), .slice (some ⟨y, 0, none⟩) (cnt s) cy], .bool true]) ∧ Below w.heap.size w w' ∧ RowAt w' (some ⟨y, 0, none⟩) (cnt s) (fun i => s (9 + i)) ∧ cnt s ≤ cy :=
  (rread_rest b o c s w hs hc h hok.ends).mono fun e w' h => h.2 hok

end Go.Proofs.Ythfpljfndnjcnaa
