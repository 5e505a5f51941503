/-
  What the document's Cauchy does: contracts over plain numbers.
  Conditions: none.
-/
import Derived.Test.YtmlaloadeeohbaaMxCauchy
namespace Go.Proofs.Ytmlaloadeeohbaa
open Go.RowKit Gf
set_option linter.unusedVariables false

theorem rcauchy_no (a b : Int) (w : World) (h : ¬ CauchyN a b) : Calls Try.prog 39 #[.int .i64 a, .int .i64 b] w fun e w' => e = .returned (.tuple #[.slice none 0 0, .int .i64 1]) ∧ w' = w := by
  unfold CauchyN at h
  by_cases h1 : a < 1
  · go_enter Try.func39, Try.ntmps39
    go_wp2_with fail
    go_ret2
    exact ⟨rfl, rfl⟩
  · by_cases h2 : b < 1
    · go_enter Try.func39, Try.ntmps39
      go_wp2_with fail
      go_ret2
      exact ⟨rfl, rfl⟩
    · by_cases h3 : 254 < a
      · go_enter Try.func39, Try.ntmps39
        go_wp2_with fail
        go_ret2
        exact ⟨rfl, rfl⟩
      · have h4 : 255 - a < b := by omega
        have h5 : 0 ≤ 255 - a := by omega
        have h6 : 255 - a ≤ 255 := by omega
        clear h
        go_enter Try.func39, Try.ntmps39
        go_wp2_with fail
        go_ret2
        exact ⟨rfl, rfl⟩

theorem Grow.congr {base : Nat} {w wr : World} {V : Value} {k m : Nat} {G C : Nat → Nat} {f g : Nat → Nat → Nat} (h : Grow base w wr V k m G C f) (e : ∀ r, r < k → ∀ j, j < m → f r j = g r j) (l : ∀ r j, g r j < 256) : Grow base w wr V k m G C g :=
  ⟨h.below, h.le, h.own, h.hG, h.inj, h.fG, fun r hr j hj => by rw [← e r hr j hj]; exact h.cell r hr j hj, l, h.cap, h.ty⟩

set_option maxHeartbeats 4000000 in
set_option maxRecDepth 100000 in
theorem rcauchy_yes (k m : Nat) (w : World) (h1 : 1 ≤ k) (h2 : 1 ≤ m) (h3 : k + m ≤ 255) : Calls Try.prog 39 #[.int .i64 k, .int .i64 m] w fun e w' => Below w.heap.size w w' ∧
    ∃ B c G1 C1, e = .returned (.tuple #[.slice (some ⟨B, 0, none⟩) (k + m) c, .int .i64 0]) ∧ Own w.heap.size w' B (k + m) k G1 C1 (cauchyF k m) := by
  have g1 : ¬ ((k : Int) < 1) := by omega
  have g2 : ¬ ((m : Int) < 1) := by omega
  have g3 : ¬ ((254 : Int) < (k : Int)) := by omega
  have g4 : ¬ (255 - (k : Int) < (m : Int)) := by omega
  have g5 : 0 ≤ 255 - (k : Int) := by omega
  go_enter Try.func39, Try.ntmps39
  go_wp2_with (go_at_call 48; refine (rident_any k _ h1 (by omega)).mono ?_; rintro e x1 ⟨V1, Gi, Ci, rfl, hgr⟩)
  have HA : Hid (∃ G1 C1, Grow w.heap.size w x1 V1 (k + 0) k G1 C1 (cauchyF k m)) := ⟨Gi, Ci, hgr.congr (fun r hr j hj => by simp [cauchyF, hr]) (cauchyF_lt k m)⟩
  clear hgr Gi Ci g1 g2 g3 g4 g5
  go_loopw [6, 7] (fun V i wr => ∃ q : Nat, q ≤ m ∧ i = .int .i64 q ∧ Hid (∃ G1 C1, Grow w.heap.size w wr V (k + q) k G1 C1 (cauchyF k m))) (fun _ i _ => m - (intOf i).toNat)
  case atStart => exact ⟨0, by omega, rfl, HA⟩
  case round =>
    clear HA
    obtain ⟨q, hq, rfl, HW⟩ := hrel
    obtain ⟨wo, hwo⟩ : ∃ wo, wo = wr := ⟨_, rfl⟩
    subst hwo
    by_cases hlt : q < m
    · have hqm : (q : Int) < (m : Int) := by omega
      have HR0 : Hid (RowOf wo (wo.alloc (.cells #[] 5)) (.slice (some ⟨wo.heap.size, 0, none⟩) 0 0) 0 (cauchyF k m (k + q))) := rowOf_start wo _
      go_wp2_with fail
      go_loopw [8, 9] (fun R i wr => ∃ j : Nat, j ≤ k ∧ i = .int .i64 j ∧ Hid (RowOf wo wr R j (cauchyF k m (k + q)))) (fun _ i _ => k - (intOf i).toNat)
      case atStart => exact ⟨0, by omega, rfl, HR0⟩
      case round =>
        clear HR0
        obtain ⟨j, hj, rfl, HR⟩ := hrel
        by_cases hlt2 : j < k
        · have hjk : (j : Int) < (k : Int) := by omega
          obtain ⟨a, ha⟩ : ∃ a, a = m + j := ⟨_, rfl⟩
          have hai : (m : Int) + (j : Int) = (a : Int) := by omega
          have ha2 : a < 256 := by omega
          have hq2 : q < 256 := by omega
          have hxo := i64_xor_nat q a (by omega) (by omega)
          have hxl := xor_lt q a hq2 ha2
          have hx0 : q ^^^ a ≠ 0 := xor_ne (by omega)
          have hpush := push_byte wr wo.heap.size u8 j (cauchyF k m (k + q)) HR.out.own (by omega) HR.out.below.size
          rw [show cauchyF k m (k + q) j = tinv (q ^^^ a) by unfold cauchyF; rw [if_neg (by omega), show k + q - k = q by omega, ha]] at hpush
          obtain ⟨R', w3, hrun, ho3, hb3⟩ := hpush
          have HN : Hid (RowOf wo w3 R' (j + 1) (cauchyF k m (k + q))) := ⟨HR.out.below.trans hb3, ho3⟩
          have e1 := conv_byte wr (q ^^^ a) hxl
          have hinv : ∀ v : World, Calls Try.prog 49 #[.int .u8 ((q ^^^ a : Nat) : Int)] v fun e w' => e = .returned (.tuple #[.int .u8 (tinv (q ^^^ a) : Int), .bool true]) ∧ w' = v := fun v => by
            have := rinv_any (q ^^^ a) v hxl
            rwa [show ((q ^^^ a) != 0) = true by simp [hx0]] at this
          clear ho3 hb3 HR ha hx0
          generalize q ^^^ a = X at *
          go_wp2_with (first | (go_at_call 49; refine (hinv _).mono ?_; rintro e w5 ⟨rfl, rfl⟩) | (at_builtin; refine wpList_append_run rfl _ _ 22 rfl _ _ rfl rfl hrun ?_; clear hrun))
          go_roundw
          case rel => exact ⟨j + 1, by omega, by go_num, HN⟩
          case measure => simp [intOf]; omega
        · obtain rfl : j = k := by omega
          obtain ⟨G1, C1, hG⟩ := HW.out
          obtain ⟨gR, cR, hR, _⟩ := own_slice HR.out.own (by omega)
          subst hR
          obtain ⟨V', w3, hrun, G2, C2, hG2⟩ := grow_push hG HR.out.below (by omega) (by omega) HR.out.own
          have HN : Hid (∃ G1 C1, Grow w.heap.size w w3 V' (j + (q + 1)) j G1 C1 (cauchyF j m)) := ⟨G2, C2, by rw [← Nat.add_assoc]; exact hG2⟩
          clear hG hG2 HR HW
          go_wp2_with (at_builtin; refine wpList_append_run rfl _ _ 28 rfl _ _ rfl rfl hrun ?_; clear hrun)
          go_roundw
          case rel => exact ⟨q + 1, by omega, by go_num, HN⟩
          case measure => simp [intOf]; omega
    · obtain rfl : q = m := by omega
      obtain ⟨G1, C1, hG⟩ := HW.out
      obtain ⟨B, c2, hV, ho⟩ := grow_own hG (by omega)
      subst hV
      have HO : Hid (Own w.heap.size wo B (k + q) k G1 C1 (cauchyF k q) ∧ Below w.heap.size w wo) := ⟨ho, hG.below⟩
      clear hG HW ho
      go_wp2_with fail
      go_ret2
      exact ⟨HO.out.2, B, c2, G1, C1, rfl, HO.out.1⟩

end Go.Proofs.Ytmlaloadeeohbaa
