/-
  What reduce of package matrix does: a contract over plain numbers.
  Conditions: no more than 1000 rows and columns; the rows are the call's own.
-/
import Derived.Test.YtmlaloadeeohbaaMxLead
import Derived.Test.YtmlaloadeeohbaaMxScale
import Derived.Test.YtmlaloadeeohbaaMxSweep
namespace Go.Proofs.Ytmlaloadeeohbaa
open Go.RowKit Gf
set_option linter.unusedVariables false

structure Redd (base : Nat) (w wr : World) (b n m : Nat) (d : Nat) (f : Nat → Nat → Nat) : Prop where
  below : Below base w wr
  own : ∃ G C, Own base wr b n m G C f

theorem own_swapped {base : Nat} {w : World} {b n m d i : Nat} {G C : Nat → Nat} {F : Nat → Nat → Nat} (h : Own base w b n m G C F) (hd : d < n) (hi : i < n) :
    ∃ G1 C1, Own base ((w.setCell ⟨b, d, none⟩ (.slice (some ⟨G i, 0, none⟩) m (C i))).setCell ⟨b, i, none⟩ (.slice (some ⟨G d, 0, none⟩) m (C d))).drew b n m G1 C1 (fun s => F (swp d i s)) := by
  refine ⟨_, _, (h.swap hd hi (w' := (w.setCell ⟨b, d, none⟩ (.slice (some ⟨G i, 0, none⟩) m (C i))).setCell ⟨b, i, none⟩ (.slice (some ⟨G d, 0, none⟩) m (C d))) (((Touch.refl b w).setCell (p := ⟨b, d, none⟩) rfl _).setCell (p := ⟨b, i, none⟩) rfl _) (fun j => by simpa using h.fb j) (fun s hs => ?_)).drew⟩
  have hi' : (w.setCell ⟨b, d, none⟩ (.slice (some ⟨G i, 0, none⟩) m (C i))).cell? ⟨b, i, none⟩ ≠ none := by
    by_cases e : d = i
    · subst e; rw [World.cell?_setCell_same _ _ _ (h.top d hd)]; simp
    · rw [World.cell?_setCell_other _ _ _ _ (fun h => e (by injection h with _ h2 _)), h.top i hi]; simp
  obtain ⟨u, hu⟩ := Option.ne_none_iff_exists'.1 hi'
  unfold swp
  by_cases e1 : s = i
  · subst e1
    rw [World.cell?_setCell_same _ _ _ hu]
    by_cases e2 : s = d
    · subst e2; rw [if_pos rfl, h.top s hs]
    · rw [if_neg e2, if_pos rfl, h.top d hd]
  · rw [World.cell?_setCell_other _ _ _ _ (fun h => e1 (by injection h with _ h2 _; exact h2.symm))]
    by_cases e2 : s = d
    · subst e2; rw [World.cell?_setCell_same _ _ _ (h.top s hs), if_pos rfl, h.top i hi]
    · rw [World.cell?_setCell_other _ _ _ _ (fun h => e2 (by injection h with _ h2 _; exact h2.symm)), if_neg e2, if_neg e1]

theorem own_scaled {base : Nat} {w w' : World} {b n m d k : Nat} {G C : Nat → Nat} {F : Nat → Nat → Nat} (h : Own base w b n m G C F) (hd : d < n) (hs : Scaled (G d) m k (F d) w w' m) : Own base w' b n m G C (scaleF F d k) := by
  refine (h.touch (f' := fun j => tmul (F d j) (tinv (F d k))) hd hs.touch hs.frozen (fun j hj => ?_) (fun j => tmul_lt _ _ (h.lt _ _) (tinv_lt _))).congr (fun s hs j hj => rfl) (scaleF_lt d k h.lt)
  have := hs.cell j hj
  rwa [if_pos hj] at this

set_option maxHeartbeats 1000000 in
set_option maxRecDepth 100000 in
theorem reduce_any (base b n m cols cp : Nat) (G C : Nat → Nat) (f : Nat → Nat → Nat) (w : World) (h : Own base w b n m G C f) (hn : n ≤ 1000) (hm : m ≤ 1000) (hc : cols ≤ m) :
    Calls Try.prog 53 #[.slice (some ⟨b, 0, none⟩) n cp, .int .i64 cols] w fun e w' => e = .returned (.int .i64 ((red n f cols).1 : Int)) ∧ Below base w w' ∧ ∃ G' C', Own base w' b n m G' C' (red n f cols).2 := by
  have hf := h.lt
  have hstart : Redd base w w b n m 0 f := ⟨Below.refl _ _, G, C, h⟩
  clear h
  go_enter Try.func53, Try.ntmps53
  go_wp2_with fail
  go_loopw [5, 10] (fun s i wr => ∃ k d : Nat, k ≤ cols ∧ d ≤ n ∧ s = .int .i64 d ∧ i = .int .i64 k ∧ Hid (∃ F, red n f k = (d, F) ∧ Redd base w wr b n m d F)) (fun _ i _ => cols - (intOf i).toNat)
  case atStart => exact ⟨0, 0, by omega, by omega, rfl, rfl, f, rfl, hstart⟩
  case round =>
    clear hstart G C
    obtain ⟨k, d, hk, hd, rfl, rfl, HW⟩ := hrel
    by_cases hlt : k < cols
    · obtain ⟨F, hF, hbel, G, C, ho⟩ := HW.out
      clear HW
      have hkc : (k : Int) < (cols : Int) := by omega
      have HF : Hid (red n f k = (d, F)) := hF
      cases hL : lead F k n d with
      | none =>
        have hz := lead_none hL
        have HN : Hid (∃ F, red n f (k + 1) = (d, F) ∧ Redd base w wr b n m d F) := ⟨F, by unfold red; rw [redStep_none (by rw [hF]; exact hL), hF], hbel, G, C, ho⟩
        have hl := leader_none b 0 n m d k cp G (fun _ => 0) C F wr ho.mat hn hm (by omega) hd hz
        clear hL hF ho hbel hz hf
        go_wp2_with (go_at_call 56; refine hl.mono ?_; rintro e w' ⟨rfl, rfl⟩)
        go_roundw
        case rel => exact ⟨k + 1, d, by omega, hd, rfl, by go_num, HN⟩
        case measure => simp [intOf]; omega
      | some i =>
        obtain ⟨h1, h2, h3, h4⟩ := lead_some hL
        have hl := leader_some b 0 n m d k i cp G (fun _ => 0) C F wr ho.mat hn hm (by omega) h1 h2 h4 h3
        have HL : Hid (lead F k n d = some i) := hL
        have HB : Hid (Below base w wr) := hbel
        have HO : Hid (Own base wr b n m G C F) := ho
        have htd := ho.top d (by omega)
        have hti := ho.top i (by omega)
        have hfd := ho.fb d
        have hfi := ho.fb i
        have hdn : (d : Int) < (n : Int) := by omega
        have hin : (i : Int) < (n : Int) := by omega
        clear hL hF ho hbel h4 hf
        by_cases hdi : d = i
        · have hii : F d k ≠ 0 := by rw [hdi]; exact h3
          subst hdi
          go_wp2_with (go_at_call 56; refine hl.mono ?_; rintro e w' ⟨rfl, rfl⟩)
          go_region
          have HX : Hid (∃ G1 C1, Own base ((w'.setCell ⟨b, d, none⟩ (.slice (some ⟨G d, 0, none⟩) m (C d))).setCell ⟨b, d, none⟩ (.slice (some ⟨G d, 0, none⟩) m (C d))).drew b n m G1 C1 (fun s => F (swp d d s))) := own_swapped HO.out (by omega) (by omega)
          have HY : Hid (Below base w ((w'.setCell ⟨b, d, none⟩ (.slice (some ⟨G d, 0, none⟩) m (C d))).setCell ⟨b, d, none⟩ (.slice (some ⟨G d, 0, none⟩) m (C d))).drew) := ((HB.out.setCell HO.out.hb.1 _).setCell HO.out.hb.1 _).drew
          generalize ((w'.setCell ⟨b, d, none⟩ (.slice (some ⟨G d, 0, none⟩) m (C d))).setCell ⟨b, d, none⟩ (.slice (some ⟨G d, 0, none⟩) m (C d))).drew = w1 at HX HY ⊢
          obtain ⟨F1, hF1⟩ : ∃ F1 : Nat → Nat → Nat, F1 = fun s => F (swp d d s) := ⟨_, rfl⟩
          rw [← hF1] at HX
          have HF1 : Hid (F1 = fun s => F (swp d d s)) := hF1
          have h5 : F1 d k ≠ 0 := by rw [hF1]; simpa [swp] using h3
          obtain ⟨G1, C1, ho1⟩ := HX.out
          have HO1 : Hid (Own base w1 b n m G1 C1 F1) := ho1
          have ht1 := ho1.top d (by omega)
          have hsc := scale_any (G1 d) m (C1 d) k (F1 d) w1 hm (by omega) (ho1.lt d) h5 (ho1.fG d (by omega)) (ho1.cell d (by omega))
          clear HX hF1 ho1 h3 hii h5 htd hti hfd hfi hl HB HO
          go_wp2_with (first | (go_at_call 57; refine hsc.mono ?_; rintro e w2 ⟨rfl, hs2⟩; have HO2 : Hid (Own base w2 b n m G1 C1 (scaleF F1 d k)) := own_scaled HO1.out (by omega) hs2; have HY2 : Hid (Below base w w2) := HY.out.trans (hs2.touch.below (HO1.out.hG d (by omega)).1); clear hs2) | (go_at_call 58; refine (sweep_any base b n m d k cp _ _ _ _ HO2.out hn hm (by omega) (by omega)).mono ?_; rintro e w3 ⟨rfl, hb3, G3, C3, ho3⟩; have HO3 : Hid (∃ F, red n f (k + 1) = (d + 1, F) ∧ Redd base w w3 b n m (d + 1) F) := ⟨_, by unfold red; rw [redStep_some (by rw [HF.out]; exact HL.out), HF.out], HY2.out.trans hb3, G3, C3, by rw [HF1.out] at ho3; exact ho3⟩; clear hb3 ho3))
          go_roundw
          case rel => exact ⟨k + 1, d + 1, by omega, by omega, by go_num, by go_num, HO3⟩
          case measure => simp [intOf]; omega
        · have hne : (⟨b, d, none⟩ : Addr) ≠ ⟨b, i, none⟩ := by intro h; injection h with _ h2 _; exact hdi h2
          have hne' : (⟨b, i, none⟩ : Addr) ≠ ⟨b, d, none⟩ := fun h => hne h.symm
          go_wp2_with (go_at_call 56; refine hl.mono ?_; rintro e w' ⟨rfl, rfl⟩)
          go_region
          have HX : Hid (∃ G1 C1, Own base ((w'.setCell ⟨b, d, none⟩ (.slice (some ⟨G i, 0, none⟩) m (C i))).setCell ⟨b, i, none⟩ (.slice (some ⟨G d, 0, none⟩) m (C d))).drew b n m G1 C1 (fun s => F (swp d i s))) := own_swapped HO.out (by omega) h2
          have HY : Hid (Below base w ((w'.setCell ⟨b, d, none⟩ (.slice (some ⟨G i, 0, none⟩) m (C i))).setCell ⟨b, i, none⟩ (.slice (some ⟨G d, 0, none⟩) m (C d))).drew) := ((HB.out.setCell HO.out.hb.1 _).setCell HO.out.hb.1 _).drew
          generalize ((w'.setCell ⟨b, d, none⟩ (.slice (some ⟨G i, 0, none⟩) m (C i))).setCell ⟨b, i, none⟩ (.slice (some ⟨G d, 0, none⟩) m (C d))).drew = w1 at HX HY ⊢
          obtain ⟨F1, hF1⟩ : ∃ F1 : Nat → Nat → Nat, F1 = fun s => F (swp d i s) := ⟨_, rfl⟩
          rw [← hF1] at HX
          have HF1 : Hid (F1 = fun s => F (swp d i s)) := hF1
          have h5 : F1 d k ≠ 0 := by rw [hF1]; simpa [swp] using h3
          obtain ⟨G1, C1, ho1⟩ := HX.out
          have HO1 : Hid (Own base w1 b n m G1 C1 F1) := ho1
          have ht1 := ho1.top d (by omega)
          have hsc := scale_any (G1 d) m (C1 d) k (F1 d) w1 hm (by omega) (ho1.lt d) h5 (ho1.fG d (by omega)) (ho1.cell d (by omega))
          clear HX hF1 ho1 h3 h5 htd hti hfd hfi hne hne' hl HB HO
          go_wp2_with (first | (go_at_call 57; refine hsc.mono ?_; rintro e w2 ⟨rfl, hs2⟩; have HO2 : Hid (Own base w2 b n m G1 C1 (scaleF F1 d k)) := own_scaled HO1.out (by omega) hs2; have HY2 : Hid (Below base w w2) := HY.out.trans (hs2.touch.below (HO1.out.hG d (by omega)).1); clear hs2) | (go_at_call 58; refine (sweep_any base b n m d k cp _ _ _ _ HO2.out hn hm (by omega) (by omega)).mono ?_; rintro e w3 ⟨rfl, hb3, G3, C3, ho3⟩; have HO3 : Hid (∃ F, red n f (k + 1) = (d + 1, F) ∧ Redd base w w3 b n m (d + 1) F) := ⟨_, by unfold red; rw [redStep_some (by rw [HF.out]; exact HL.out), HF.out], HY2.out.trans hb3, G3, C3, by rw [HF1.out] at ho3; exact ho3⟩; clear hb3 ho3))
          go_roundw
          case rel => exact ⟨k + 1, d + 1, by omega, by omega, by go_num, by go_num, HO3⟩
          case measure => simp [intOf]; omega
    · have hk2 : k = cols := by omega
      subst hk2
      go_wp2_with fail
      go_ret
      obtain ⟨F, hF, hbel, G, C, ho⟩ := HW.out
      rw [hF]
      exact ⟨rfl, hbel, G, C, ho⟩

end Go.Proofs.Ytmlaloadeeohbaa
