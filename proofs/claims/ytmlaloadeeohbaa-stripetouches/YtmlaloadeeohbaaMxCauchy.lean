/-
  What Cauchy of package matrix does: contracts over plain numbers.
  Conditions: none.
-/
import Derived.Test.YtmlaloadeeohbaaMxIdRank
import Derived.Test.YtmlaloadeeohbaaMxCauchyP
namespace Go.Proofs.Ytmlaloadeeohbaa
open Go.RowKit Gf
set_option linter.unusedVariables false

theorem conv_byte (w : World) (i : Nat) (h : i < 256) : (convert 3 5 (.int .i64 (i : Int))).run Try.prog w = .ok (.int .u8 (i : Int)) w := by
  have e : IntKind.u8.wrap (i : Int) = (i : Int) := IntWalk.u8_in _ (by omega)
  have hk : Try.prog.intKind 5 = .u8 := by kernel_rfl
  rw [run_convert_int w 3 5 .i64 (i : Int) (by rw [Try.underlying3]; rfl) (by rw [hk]; exact Try.underlying5), hk, e]

theorem elem_top : Try.prog.underlying 28 = some (.slice (Try.prog.elem 28)) := by kernel_rfl
theorem elem_top_is : Try.prog.elem 28 = 22 := by kernel_rfl
theorem size_top (w : World) : (sizeOf 22).run Try.prog w = .ok 1 w := by kernel_rfl

theorem cut_top (g o m c d : Nat) (w : World) (h1 : d ≤ m) (h2 : d < c) :
    (Instr.slice 28 (.slice (some ⟨g, o, none⟩) m c) (some (.int .i64 (d : Int))) none none).run Try.prog w = .ok (.slice (some ⟨g, o + d, none⟩) (m - d) (c - d)) w := by
  rw [run_slice_l w 28 _ _ _ elem_top .i64 (d : Int) (by omega) (by omega), elem_top_is, size_top]
  simp only [Result.andThen, sliced, Int.toNat_natCast, Nat.mul_one, Option.map]
  rw [if_neg (by omega)]
  have hadd : (⟨g, o, none⟩ : Addr).add d = ⟨g, o + d, none⟩ := by unfold Addr.add; split <;> simp_all
  rw [hadd]

def CauchyN (a b : Int) : Prop := 1 ≤ a ∧ 1 ≤ b ∧ a + b ≤ 255

theorem cauchy_no (a b : Int) (w : World) (h : ¬ CauchyN a b) : Calls Try.prog 28 #[.int .i64 a, .int .i64 b] w fun e w' => e = .returned (.tuple #[.slice none 0 0, .int .i64 1]) ∧ w' = w := by
  unfold CauchyN at h
  by_cases h1 : a < 1 ∨ 255 < a
  · go_enter Try.func28, Try.ntmps28
    go_wp2_with (go_at_call 41; refine (fits_no _ _ h1).mono ?_; rintro e w' ⟨rfl, rfl⟩)
    go_ret2
    exact ⟨rfl, rfl⟩
  · have y1 := fits_yes a w (by omega) (by omega)
    by_cases h2 : b < 1 ∨ 255 < b
    · have y2 := fits_no b w h2
      go_enter Try.func28, Try.ntmps28
      go_wp2_with (first | (go_at_call 41; refine y1.mono ?_; rintro e w' ⟨rfl, rfl⟩; clear y1) | (go_at_call 41; refine y2.mono ?_; rintro e w' ⟨rfl, rfl⟩; clear y2))
      go_ret2
      exact ⟨rfl, rfl⟩
    · have y2 := fits_yes b w (by omega) (by omega)
      have y3 := fits_no (a + b) w (by omega)
      have hb1 : -1000 ≤ a + b := by omega
      have hb2 : a + b ≤ 1000 := by omega
      go_enter Try.func28, Try.ntmps28
      go_wp2_with (first | (go_at_call 41; refine y1.mono ?_; rintro e w' ⟨rfl, rfl⟩; clear y1) | (go_at_call 41; refine y2.mono ?_; rintro e w' ⟨rfl, rfl⟩; clear y2) | (go_at_call 41; refine y3.mono ?_; rintro e w' ⟨rfl, rfl⟩; clear y3))
      go_ret2
      exact ⟨rfl, rfl⟩

theorem id_step2 {base : Nat} {wr : World} {b n m k : Nat} {G C : Nat → Nat} (h : Own base wr b n m G C (rowsTo delta k)) (hk : k < n) (hm : k < m) : Own base (wr.setCell ⟨G k, k, none⟩ (.int .u8 1)) b n m G C (rowsTo delta (k + 1)) := by
  refine (h.store hk hm (v := 1) (by omega)).congr (fun s hs j hj => ?_) (rowsTo_lt delta_lt _)
  unfold rowsTo delta
  by_cases e : s = k
  · subst e
    by_cases e2 : j = s
    · subst e2; simp
    · have e3 : ¬ s = j := fun h => e2 h.symm
      simp [e2, e3]
  · by_cases hlt : s < k
    · have : s < k + 1 := by omega
      simp [e, hlt, this]
    · have : ¬ s < k + 1 := by omega
      simp [e, hlt, this]

set_option maxHeartbeats 4000000 in
set_option maxRecDepth 100000 in
theorem cauchy_yes (k m : Nat) (w : World) (h1 : 1 ≤ k) (h2 : 1 ≤ m) (h3 : k + m ≤ 255) : Calls Try.prog 28 #[.int .i64 k, .int .i64 m] w fun e w' => Below w.heap.size w w' ∧
    ∃ B G1 C1, e = .returned (.tuple #[.slice (some ⟨B, 0, none⟩) (k + m) (k + m), .int .i64 0]) ∧ Own w.heap.size w' B (k + m) k G1 C1 (cauchyF k m) := by
  obtain ⟨s, hs⟩ : ∃ s, s = k + m := ⟨_, rfl⟩
  have hz := zero_any s k w (by omega) (by omega)
  have y1 := fits_yes (k : Int) w (by omega) (by omega)
  have y2 := fits_yes (m : Int) w (by omega) (by omega)
  have y3 := fits_yes (s : Int) w (by omega) (by omega)
  have hsi : (k : Int) + (m : Int) = (s : Int) := by omega
  have hs5 : s ≤ 255 := by omega
  rw [← hs]
  have HS : Hid (s = k + m) := hs
  clear hs
  go_enter Try.func28, Try.ntmps28
  go_wp2_with (first | (go_at_call 41; refine y1.mono ?_; rintro e w' ⟨rfl, rfl⟩; clear y1) | (go_at_call 41; refine y2.mono ?_; rintro e w' ⟨rfl, rfl⟩; clear y2) | (go_at_call 41; refine y3.mono ?_; rintro e w' ⟨rfl, rfl⟩; clear y3) | (go_at_call 42; refine hz.mono ?_; rintro e w0 ⟨rfl, hb0, hs0, ho0⟩))
  obtain ⟨G1, hG1⟩ : ∃ G1 : Nat → Nat, G1 = fun r => w'.heap.size + 1 + r := ⟨_, rfl⟩
  obtain ⟨C1, hC1⟩ : ∃ C1 : Nat → Nat, C1 = fun _ => k := ⟨_, rfl⟩
  rw [← hG1, ← hC1] at ho0
  have HA : Hid (Cop w' w0 s k 0 G1 C1 delta) := ⟨hb0, ho0.congr (fun r _ j _ => by simp [rowsTo]) (rowsTo_lt delta_lt 0)⟩
  clear hb0 hs0 ho0 hz hG1 hC1
  go_loopw [32] (fun i wr => ∃ t : Nat, t ≤ k ∧ i = .int .i64 t ∧ Hid (Cop w' wr s k t G1 C1 delta)) (fun i _ => k - (intOf i).toNat)
  case atStart => exact ⟨0, by omega, rfl, HA⟩
  case round =>
    clear HA
    obtain ⟨t, ht, rfl, HC⟩ := hrel
    have hmn := HS.out
    by_cases hlt : t < k
    · have htn : (t : Int) < (k : Int) := by omega
      have hts : (t : Int) < (s : Int) := by omega
      have t1 := HC.out.own.top t (by omega)
      have t2 := HC.out.own.cell t (by omega) t hlt
      have t3 := HC.out.own.fG t (by omega) t
      have HN : Hid (Cop w' (wr.setCell ⟨G1 t, t, none⟩ (.int .u8 1)) s k (t + 1) G1 C1 delta) := ⟨HC.out.below.setCell (HC.out.own.hG t (by omega)).1 _, id_step2 HC.out.own (by omega) hlt⟩
      clear HC hmn
      go_wp2_with fail
      go_roundw
      case rel => exact ⟨t + 1, by omega, by go_num, HN⟩
      case measure => simp [intOf]; omega
    · obtain rfl : t = k := by omega
      have hcut : ∀ v : World, (Instr.slice 28 (.slice (some ⟨w'.heap.size, 0, none⟩) s s) (some (.int .i64 (t : Int))) none none).run Try.prog v = .ok (.slice (some ⟨w'.heap.size, t, none⟩) m m) v := fun v => by
        have := cut_top w'.heap.size 0 s s t v (by omega) (by omega)
        rwa [Nat.zero_add, show s - t = m by omega] at this
      have HF : Hid (Fill w' wr w'.heap.size s t t 0 G1 C1 (cauchyF t m)) := ⟨HC.out.below, HC.out.own.congr (fun r hr j hj => by
        unfold rowsTo fillTo cauchyF
        by_cases e : r < t
        · simp [e]
        · simp [e]) (fillTo_lt (cauchyF_lt t m) t 0)⟩
      clear HC hmn
      go_wp2_with fail
      go_loopw [46] (fun i wr => ∃ q : Nat, q ≤ m ∧ i = .int .i64 q ∧ Hid (Fill w' wr w'.heap.size s t (t + q) 0 G1 C1 (cauchyF t m))) (fun i _ => m - (intOf i).toNat)
      case atStart => exact ⟨0, by omega, rfl, HF⟩
      case round =>
        clear HF hcut
        obtain ⟨q, hq, rfl, HW⟩ := hrel
        have hmn := HS.out
        by_cases hlt2 : q < m
        · have hqm : (q : Int) < (m : Int) := by omega
          have t1 : wr.cell? ⟨w'.heap.size, t + q, none⟩ = some (.slice (some ⟨G1 (t + q), 0, none⟩) t (C1 (t + q))) := HW.out.own.top (t + q) (by omega)
          have hcq := conv_byte
          clear hmn
          go_wp2_with fail
          go_loopw [53] (fun i wr => ∃ j : Nat, j ≤ t ∧ i = .int .i64 j ∧ Hid (Fill w' wr w'.heap.size s t (t + q) j G1 C1 (cauchyF t m))) (fun i _ => t - (intOf i).toNat)
          case atStart => exact ⟨0, by omega, rfl, HW⟩
          case round =>
            clear HW t1
            obtain ⟨j, hj, rfl, HW⟩ := hrel
            have hmn := HS.out
            by_cases hlt3 : j < t
            · have hjt : (j : Int) < (t : Int) := by omega
              have c2 := HW.out.own.cell (t + q) (by omega) j hlt3
              have c3 := HW.out.own.fG (t + q) (by omega) j
              obtain ⟨a, ha⟩ : ∃ a, a = m + j := ⟨_, rfl⟩
              have hai : (m : Int) + (j : Int) = (a : Int) := by omega
              have ha2 : a < 256 := by omega
              have hq2 : q < 256 := by omega
              have e1 := hcq wr q hq2
              have e2 := hcq wr a ha2
              have hxo := u8_xor_nat q a hq2 ha2
              have hxl := xor_lt q a hq2 ha2
              have hx0 : q ^^^ a ≠ 0 := xor_ne (by omega)
              have hinv : ∀ v : World, Calls Try.prog 43 #[.int .u8 ((q ^^^ a : Nat) : Int)] v fun e w' => e = .returned (.tuple #[.int .u8 (tinv (q ^^^ a) : Int), .bool true]) ∧ w' = v := fun v => by
                have := inv_any (q ^^^ a) v hxl
                rwa [show ((q ^^^ a) != 0) = true by simp [hx0]] at this
              have HN : Hid (Fill w' (wr.setCell ⟨G1 (t + q), j, none⟩ (.int .u8 ((tinv (q ^^^ a) : Nat) : Int))) w'.heap.size s t (t + q) (j + 1) G1 C1 (cauchyF t m)) := by
                have := fill_step (Z := cauchyF t m) (cauchyF_lt t m) HW.out.own (by omega) hlt3
                rw [show cauchyF t m (t + q) j = tinv (q ^^^ a) by unfold cauchyF; rw [if_neg (by omega), show t + q - t = q by omega, ha]] at this
                exact ⟨HW.out.below.setCell (HW.out.own.hG (t + q) (by omega)).1 _, this⟩
              clear HW hmn hcq ha hx0
              generalize q ^^^ a = X at *
              go_wp2_with (go_at_call 43; refine (hinv _).mono ?_; rintro e w5 ⟨rfl, rfl⟩)
              go_roundw
              case rel => exact ⟨j + 1, by omega, by go_num, HN⟩
              case measure => simp [intOf]; omega
            · obtain rfl : j = t := by omega
              have HN : Hid (Fill w' wr w'.heap.size s j (j + (q + 1)) 0 G1 C1 (cauchyF j m)) := ⟨HW.out.below, by have := fill_row (Z := cauchyF j m) (cauchyF_lt j m) HW.out.own; rwa [Nat.add_assoc] at this⟩
              clear HW hmn hcq
              go_wp2_with fail
              go_roundw
              case rel => exact ⟨q + 1, by omega, by go_num, HN⟩
              case measure => simp [intOf]; omega
        · obtain rfl : q = m := by omega
          clear hmn
          go_wp2_with fail
          go_ret2
          have hmn := HS.out
          exact ⟨HW.out.below, _, G1, C1, rfl, HW.out.own.congr (fun r hr j _ => by unfold fillTo; rw [if_pos (by omega)]) (cauchyF_lt t q)⟩

end Go.Proofs.Ytmlaloadeeohbaa
