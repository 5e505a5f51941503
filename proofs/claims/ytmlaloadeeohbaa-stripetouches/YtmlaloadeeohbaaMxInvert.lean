/-
  What Inverse of package matrix does: contracts over plain numbers.
  Conditions: rows that are looked at lie in memory.
-/
import Derived.Test.YtmlaloadeeohbaaMxReduce
import Derived.Test.YtmlaloadeeohbaaMxCheck
import Derived.Test.YtmlaloadeeohbaaMxCopy
namespace Go.Proofs.Ytmlaloadeeohbaa
open Go.RowKit Gf
set_option linter.unusedVariables false

def aug (f : Nat → Nat → Nat) (n : Nat) : Nat → Nat → Nat := fun s j => if j < n then f s j else if j = n + s then 1 else 0
def augTo (f : Nat → Nat → Nat) (n k : Nat) : Nat → Nat → Nat := fun s j => if s < k then aug f n s j else 0

theorem aug_lt {f : Nat → Nat → Nat} (hf : ∀ r j, f r j < 256) (n s j : Nat) : aug f n s j < 256 := by
  unfold aug
  split
  · exact hf _ _
  · split <;> omega

theorem augTo_lt {f : Nat → Nat → Nat} (hf : ∀ r j, f r j < 256) (n k s j : Nat) : augTo f n k s j < 256 := by
  unfold augTo
  split
  · exact aug_lt hf _ _ _
  · omega

theorem aug_step {base : Nat} {wr w1 : World} {b n m k : Nat} {G C : Nat → Nat} {f : Nat → Nat → Nat} (hf : ∀ r j, f r j < 256) (h : Own base wr b n m G C (augTo f n k)) (hk : k < n) (hc : Copied (G k) 0 n (f k) wr w1) :
    Own base (w1.setCell ⟨G k, n + k, none⟩ (.int .u8 1)) b n m G C (augTo f n (k + 1)) := by
  refine (h.touch (f' := aug f n k) hk (hc.touch.setCell (p := ⟨G k, n + k, none⟩) rfl _) (fun j => by simpa using hc.frozen j) (fun j hj => ?_) (aug_lt hf n k)).congr (fun s hs j hj => ?_) (augTo_lt hf n _)
  · unfold aug
    by_cases e : j < n
    · rw [World.cell?_setCell_other _ _ _ _ (fun h => by injection h with _ h2 _; omega)]
      have := hc.cell j e
      rw [Nat.zero_add] at this
      rw [this, if_pos e]
    · have h0 : w1.cell? ⟨G k, j, none⟩ = some (.int .u8 0) := by
        rw [hc.old j (by omega), h.cell k hk j hj]
        simp [augTo]
      rw [if_neg e]
      by_cases e2 : j = n + k
      · rw [← e2, World.cell?_setCell_same _ _ _ h0, if_pos rfl]; rfl
      · rw [World.cell?_setCell_other _ _ _ _ (fun h => e2 (by injection h with _ h2 _; exact h2.symm)), h0, if_neg e2]; rfl
  · unfold augTo
    by_cases e : s = k
    · subst e; simp
    · rw [if_neg e]
      by_cases hlt : s < k
      · rw [if_pos hlt, if_pos (by omega)]
      · rw [if_neg hlt, if_neg (by omega)]

def rightTo (F : Nat → Nat → Nat) (n k : Nat) : Nat → Nat → Nat := fun s j => if s < k then F s (n + j) else 0

theorem rightTo_lt {F : Nat → Nat → Nat} (hf : ∀ r j, F r j < 256) (n k s j : Nat) : rightTo F n k s j < 256 := by
  unfold rightTo
  split
  · exact hf _ _
  · omega

theorem right_step {base : Nat} {wr w1 : World} {b n k : Nat} {G C : Nat → Nat} {F : Nat → Nat → Nat} (hf : ∀ r j, F r j < 256) (h : Own base wr b n n G C (rightTo F n k)) (hk : k < n) (hc : Copied (G k) 0 n (fun j => F k (n + j)) wr w1) :
    Own base w1 b n n G C (rightTo F n (k + 1)) := by
  refine (h.touch (f' := fun j => F k (n + j)) hk hc.touch hc.frozen (fun j hj => ?_) (fun j => hf _ _)).congr (fun s hs j hj => ?_) (rightTo_lt hf n _)
  · have := hc.cell j hj
    rwa [Nat.zero_add] at this
  · unfold rightTo
    by_cases e : s = k
    · subst e; simp
    · rw [if_neg e]
      by_cases hlt : s < k
      · rw [if_pos hlt, if_pos (by omega)]
      · rw [if_neg hlt, if_neg (by omega)]

/- Not a square, or no matrix. -/
theorem inverse_out (x : Option Addr) (n c : Nat) (A : Nat → Option Addr) (L C : Nat → Nat) (w : World) (h : Tops w x n A L C) (hx : ¬ MayN n L ∨ n ≠ L 0) :
    Calls Try.prog 45 #[.slice x n c] w fun e w' => e = .returned (.tuple #[.slice none 0 0, .int .i64 1]) ∧ w' = w := by
  by_cases hm : MayN n L
  · have hne : ((n : Int) != (L 0 : Int)) = true := by
      rcases hx with hx | hx
      · exact absurd hm hx
      · simp; omega
    have hck := check_yes x n c A L C w h hm
    have hm' := hm
    obtain ⟨h1, h2, h3, h4, _⟩ := hm'
    rcases h with h | ⟨b, o, rfl, _, ht⟩
    · omega
    · have h0 : w.cell? ⟨b, o, none⟩ = some (.slice (A 0) (L 0) (C 0)) := ht 0 (by omega)
      have hn : (0 : Int) < (n : Int) := by omega
      clear ht hx hm
      go_enter Try.func45, Try.ntmps45
      go_wp2_with (go_at_call 52; refine hck.mono ?_; rintro e w' ⟨rfl, rfl⟩)
      go_ret2
      exact ⟨rfl, rfl⟩
  · have hck := check_no x n c A L C w h hm
    clear hx hm h
    go_enter Try.func45, Try.ntmps45
    go_wp2_with (go_at_call 52; refine hck.mono ?_; rintro e w' ⟨rfl, rfl⟩)
    go_ret2
    exact ⟨rfl, rfl⟩

structure Aug (w wr : World) (n m k : Nat) (f : Nat → Nat → Nat) : Prop where
  below : Below w.heap.size w wr
  own : ∃ G C, Own w.heap.size wr w.heap.size n m G C (augTo f n k)

structure Rgt (w wr : World) (H K n m k : Nat) (F : Nat → Nat → Nat) : Prop where
  below : Below w.heap.size w wr
  rows : ∃ G C, Own w.heap.size wr H n m G C F ∧ H < K ∧ ∀ r, r < n → G r < K
  le : w.heap.size ≤ K
  own : ∃ G C, Own K wr K n n G C (rightTo F n k)

set_option maxHeartbeats 1000000 in
set_option maxRecDepth 100000 in
theorem inverse_any (b o n c : Nat) (G O C : Nat → Nat) (f : Nat → Nat → Nat) (w : World) (h : Mat w b o n n G O C f) (h1 : 1 ≤ n) (h2 : n ≤ 255) :
    Calls Try.prog 45 #[.slice (some ⟨b, o, none⟩) n c] w fun e w' => Below w.heap.size w w' ∧
      (((red n (aug f n) n).1 < n ∧ e = .returned (.tuple #[.slice none 0 0, .int .i64 4])) ∨
       ((red n (aug f n) n).1 = n ∧ ∃ B G' C', e = .returned (.tuple #[.slice (some ⟨B, 0, none⟩) n n, .int .i64 0]) ∧ Own w.heap.size w' B n n G' C' (fun r j => (red n (aug f n) n).2 r (n + j)))) := by
  have hf := h.lt
  have hck := check_yes (some ⟨b, o, none⟩) n c _ _ C w h.tops ⟨h1, h2, h1, h2, fun r _ => rfl⟩
  have h0 : w.cell? ⟨b, o, none⟩ = some (.slice (some ⟨G 0, O 0, none⟩) n (C 0)) := h.top 0 (by omega)
  have hn : (0 : Int) < (n : Int) := by omega
  obtain ⟨m, hm⟩ : ∃ m, m = 2 * n := ⟨_, rfl⟩
  have hz := zero_any n m w (by omega) (by omega)
  have hw2 : (2 : Int) * (n : Int) = (m : Int) := by omega
  have hm5 : m ≤ 510 := by omega
  have HM2 : Hid (m = 2 * n) := hm
  clear hm
  have HM : Hid (Mat w b o n n G O C f) := h
  clear h
  go_enter Try.func45, Try.ntmps45
  go_wp2_with (first | (go_at_call 52; refine hck.mono ?_; rintro e w' ⟨rfl, rfl⟩) | (go_at_call 42; refine hz.mono ?_; rintro e w0 ⟨rfl, hb0, hs0, ho0⟩))
  have HA : Hid (Aug w' w0 n m 0 f) := ⟨hb0, _, _, ho0.congr (fun r _ j _ => by simp [augTo]) (augTo_lt hf n 0)⟩
  clear hb0 hs0 ho0 hz hck h0
  go_loopw [31] (fun i wr => ∃ k : Nat, k ≤ n ∧ i = .int .i64 k ∧ Hid (Aug w' wr n m k f)) (fun i _ => n - (intOf i).toNat)
  case atStart => exact ⟨0, by omega, rfl, HA⟩
  case round =>
    clear HA
    obtain ⟨k, hk, rfl, HW⟩ := hrel
    by_cases hlt : k < n
    · obtain ⟨hbel, G1, C1, ho⟩ := HW.out
      have HB : Hid (Below w'.heap.size w' wr) := hbel
      have HO : Hid (Own w'.heap.size wr w'.heap.size n m G1 C1 (augTo f n k)) := ho
      have hM := HM.out.below (Nat.le_refl _) hbel
      have hkn : (k : Int) < (n : Int) := by omega
      have ht1 := ho.top k hlt
      have ht2 := hM.top k hlt
      have hsrc := hM.cell k hlt
      have hmn := HM2.out
      have hdst : ∀ j, j < n → (wr.cell? ⟨G1 k, 0 + j, none⟩).isSome = true := fun j hj => by rw [Nat.zero_add, ho.cell k hlt j (by omega)]; rfl
      have hfr := ho.fG k hlt
      obtain ⟨q, hq⟩ : ∃ q, q = n + k := ⟨_, rfl⟩
      have hq1 : (n : Int) + (k : Int) = (q : Int) := by omega
      have hq2 : (q : Int) < (m : Int) := by omega
      have hq3 : wr.cell? ⟨G1 k, q, none⟩ = some (.int .u8 0) := by
        rw [ho.cell k hlt q (by omega)]
        simp [augTo]
      have HQ : Hid (q = n + k) := hq
      have hmin : Hid (n = Nat.min n m) := (Nat.min_eq_left (by omega)).symm
      obtain ⟨w1, hrun, hc1⟩ := copy_run wr 3 (G1 k) 0 m (C1 k) (G k) (O k) n (C k) (f k) n hmin.out hsrc hdst hfr
      have hst1 : w1.cell? ⟨G1 k, q, none⟩ = some (.int .u8 0) := (hc1.old q (by omega)).trans hq3
      have hst2 : w1.frozen? ⟨G1 k, q, none⟩ = false := hc1.frozen q
      have HN : Hid (Aug w' (w1.setCell ⟨G1 k, q, none⟩ (.int .u8 1)) n m (k + 1) f) := ⟨(hbel.trans (hc1.touch.below (ho.hG k hlt).1)).setCell (ho.hG k hlt).1 _, G1, C1, by rw [hq]; exact aug_step hf ho hlt hc1⟩
      clear HW ho hbel hM hmn hq hc1 hsrc hdst hfr hmin
      go_wp2_with fail
      go_roundw
      case rel => exact ⟨k + 1, by omega, by go_num, HN⟩
      case measure => simp [intOf]; omega
    · obtain rfl : k = n := by omega
      obtain ⟨hbel, G1, C1, ho⟩ := HW.out
      have ho' : Own w'.heap.size wr w'.heap.size k m G1 C1 (aug f k) := ho.congr (fun r hr j _ => by simp [augTo, hr]) (aug_lt hf k)
      have hmn := HM2.out
      have hred := reduce_any w'.heap.size w'.heap.size k m k k G1 C1 (aug f k) wr ho' (by omega) (by omega) (by omega)
      have hRlt := red_lt k (aug f k) (aug_lt hf k) k
      have hRle := red_le k (aug f k) k
      generalize hR : red k (aug f k) k = R at hred hRlt hRle
      obtain ⟨d, F⟩ := R
      have HB : Hid (Below w'.heap.size w' wr) := hbel
      clear ho ho' hbel HW hmn HM hf
      by_cases hd : d < k
      · have hdk : (d : Int) < (k : Int) := by omega
        go_wp2_with (go_at_call 53; refine hred.mono ?_; rintro e w2 ⟨rfl, hb2, _⟩)
        go_ret2
        rw [hR]
        exact ⟨HB.out.trans hb2, .inl ⟨hd, rfl⟩⟩
      · obtain rfl : d = k := by simp only at hRle; omega
        go_wp2_with (first | (go_at_call 53; refine hred.mono ?_; rintro e w2 ⟨rfl, hb2, G2, C2, ho2⟩) | (go_at_call 42; refine (zero_any _ _ _ (by omega) (by omega)).mono ?_; rintro e w3 ⟨rfl, hb3, hs3, ho3⟩))
        have HA : Hid (Rgt w' w3 w'.heap.size w2.heap.size d m 0 F) := ⟨(HB.out.trans hb2).trans (hb3.mono (Nat.le_trans HB.out.size hb2.size)), ⟨G2, C2, ho2.below (Nat.le_refl _) hb3, ho2.hb.2, fun r hr => (ho2.hG r hr).2.1⟩, Nat.le_trans HB.out.size hb2.size, _, _, ho3.congr (fun r _ j _ => by simp [rightTo]) (rightTo_lt hRlt d 0)⟩
        clear ho2 ho3 hs3 hb2 hb3 hred
        go_loopw [58] (fun i wr => ∃ k : Nat, k ≤ d ∧ i = .int .i64 k ∧ Hid (Rgt w' wr w'.heap.size w2.heap.size d m k F)) (fun i _ => d - (intOf i).toNat)
        case atStart => exact ⟨0, by omega, rfl, HA⟩
        case round =>
          clear HA G1 C1 G2 C2 HB
          obtain ⟨k, hk, rfl, HW⟩ := hrel
          by_cases hlt : k < d
          · obtain ⟨hbel, ⟨G2, C2, ho2, hHK, hGK⟩, hle, G3, C3, ho3⟩ := HW.out
            have hkn : (k : Int) < (d : Int) := by omega
            have ht1 := ho2.top k hlt
            have ht2 := ho3.top k hlt
            have hcap := ho2.cap k hlt
            have hmn := HM2.out
            have hlow : (d : Int) ≤ (m : Int) := by omega
            have hcut : (Instr.slice 22 (.slice (some ⟨G2 k, 0, none⟩) m (C2 k)) (some (.int .i64 (d : Int))) none none).run Try.prog wr = .ok (.slice (some ⟨G2 k, d, none⟩) (m - d) (C2 k - d)) wr := by
              have := cut_row (G2 k) 0 m (C2 k) d wr (by omega) (by omega)
              rwa [Nat.zero_add] at this
            have hsrc : ∀ j, j < d → wr.cell? ⟨G2 k, d + j, none⟩ = some (.int .u8 ((F k (d + j) : Nat) : Int)) := fun j hj => ho2.cell k hlt (d + j) (by omega)
            have hdst : ∀ j, j < d → (wr.cell? ⟨G3 k, 0 + j, none⟩).isSome = true := fun j hj => by rw [Nat.zero_add, ho3.cell k hlt j hj]; rfl
            obtain ⟨w1, hrun, hc1⟩ := copy_run wr 3 (G3 k) 0 d (C3 k) (G2 k) d (m - d) (C2 k - d) (fun j => F k (d + j)) d (by rw [hmn]; simp [Nat.min_def]; omega) hsrc hdst (ho3.fG k hlt)
            have hbk : Below w2.heap.size wr w1 := hc1.touch.below (ho3.hG k hlt).1
            have HN : Hid (Rgt w' w1 w'.heap.size w2.heap.size d m (k + 1) F) := ⟨hbel.trans (hbk.mono hle), ⟨G2, C2, ho2.under hHK hGK hbk, hHK, hGK⟩, hle, G3, C3, right_step hRlt ho3 hlt hc1⟩
            clear HW ho2 ho3 hsrc hdst hc1 hbel hmn hcap hle hbk hHK hGK
            go_wp2_with fail
            go_roundw
            case rel => exact ⟨k + 1, by omega, by go_num, HN⟩
            case measure => simp [intOf]; omega
          · obtain rfl : k = d := by omega
            go_wp2_with fail
            go_ret2
            obtain ⟨hbel, _, hle, G3, C3, ho3⟩ := HW.out
            refine ⟨hbel, .inr ⟨by rw [hR], _, G3, C3, rfl, ?_⟩⟩
            rw [hR]
            exact ⟨⟨Nat.le_trans hle ho3.hb.1, ho3.hb.2⟩, fun r hr => ⟨Nat.le_trans hle (ho3.hG r hr).1, (ho3.hG r hr).2⟩, ho3.inj, ho3.fb, ho3.fG, ho3.top, fun r hr j hj => by have := ho3.cell r hr j hj; simpa [rightTo, hr] using this, fun r j => hRlt _ _, ho3.cap⟩

end Go.Proofs.Ytmlaloadeeohbaa
