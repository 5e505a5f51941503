/-
  What Mul of package matrix does: contracts over plain numbers.
  Conditions: rows that are looked at lie in memory.
-/
import Derived.Test.YtkdjjmjfpembpaaMxCheck
namespace Go.Proofs.Ytkdjjmjfpembpaa
open Go.RowKit Gf
set_option linter.unusedVariables false

/- Rows that are filled, one cell after the other. -/
def fillTo (Z : Nat → Nat → Nat) (k i : Nat) : Nat → Nat → Nat := fun s j => if s < k then Z s j else if s = k ∧ j < i then Z s j else 0

theorem fillTo_lt {Z : Nat → Nat → Nat} (hZ : ∀ r j, Z r j < 256) (k i s j : Nat) : fillTo Z k i s j < 256 := by
  unfold fillTo
  split
  · exact hZ _ _
  · split
    · exact hZ _ _
    · omega

theorem fill_step {base : Nat} {w : World} {b n m k i : Nat} {G C : Nat → Nat} {Z : Nat → Nat → Nat} (hZ : ∀ r j, Z r j < 256) (h : Own base w b n m G C (fillTo Z k i)) (hk : k < n) (hi : i < m) :
    Own base (w.setCell ⟨G k, i, none⟩ (.int .u8 ((Z k i : Nat) : Int))) b n m G C (fillTo Z k (i + 1)) := by
  refine (h.store hk hi (hZ k i)).congr (fun s hs j hj => ?_) (fillTo_lt hZ k _)
  unfold fillTo
  by_cases e : s = k
  · subst e
    by_cases e2 : j = i
    · subst e2; simp
    · by_cases e3 : j < i
      · simp [e2, e3]; omega
      · simp [e2, e3]; omega
  · simp [e]

theorem fill_row {base : Nat} {w : World} {b n m k : Nat} {G C : Nat → Nat} {Z : Nat → Nat → Nat} (hZ : ∀ r j, Z r j < 256) (h : Own base w b n m G C (fillTo Z k m)) : Own base w b n m G C (fillTo Z (k + 1) 0) := by
  refine h.congr (fun s hs j hj => ?_) (fillTo_lt hZ _ _)
  unfold fillTo
  by_cases e : s < k
  · rw [if_pos e, if_pos (by omega)]
  · rw [if_neg e]
    by_cases e2 : s = k
    · rw [if_pos ⟨e2, hj⟩, if_pos (by omega)]
    · rw [if_neg (by omega), if_neg (by omega), if_neg (by omega)]

structure Fill (w wr : World) (b n m k i : Nat) (G C : Nat → Nat) (Z : Nat → Nat → Nat) : Prop where
  below : Below w.heap.size w wr
  own : Own w.heap.size wr b n m G C (fillTo Z k i)

set_option maxHeartbeats 1000000 in
set_option maxRecDepth 100000 in
theorem transposed_any (b o n m c : Nat) (G O C : Nat → Nat) (f : Nat → Nat → Nat) (w : World) (h : Mat w b o n m G O C f) (h1 : 1 ≤ n) (h2 : n ≤ 255) (h3 : 1 ≤ m) (h4 : m ≤ 255) :
    Calls Try.prog 24 #[.slice (some ⟨b, o, none⟩) n c] w fun e w' => e = .returned (.slice (some ⟨w.heap.size, 0, none⟩) m m) ∧ Below w.heap.size w w' ∧ ∃ G' C', Own w.heap.size w' w.heap.size m n G' C' (fun r j => f j r) := by
  have hf : ∀ r j, (fun r j => f j r) r j < 256 := fun r j => h.lt j r
  have h0 : w.cell? ⟨b, o, none⟩ = some (.slice (some ⟨G 0, O 0, none⟩) m (C 0)) := h.top 0 (by omega)
  have hn : (0 : Int) < (n : Int) := by omega
  have hz := zero_any m n w (by omega) (by omega)
  have HM : Hid (Mat w b o n m G O C f) := h
  clear h
  go_enter Try.func24, Try.ntmps24
  go_wp2_with (go_at_call 25; refine hz.mono ?_; rintro e w0 ⟨rfl, hb0, hs0, ho0⟩)
  obtain ⟨G1, hG1⟩ : ∃ G1 : Nat → Nat, G1 = fun r => w.heap.size + 1 + r := ⟨_, rfl⟩
  obtain ⟨C1, hC1⟩ : ∃ C1 : Nat → Nat, C1 = fun _ => n := ⟨_, rfl⟩
  rw [← hG1, ← hC1] at ho0
  have HA : Hid (Fill w w0 w.heap.size m n 0 0 G1 C1 (fun r j => f j r)) := ⟨hb0, ho0.congr (fun r _ j _ => by simp [fillTo]) (fillTo_lt hf 0 0)⟩
  clear hb0 hs0 ho0 hz h0 hG1 hC1
  go_loopw [16] (fun i wr => ∃ k : Nat, k ≤ m ∧ i = .int .i64 k ∧ Hid (Fill w wr w.heap.size m n k 0 G1 C1 (fun r j => f j r))) (fun i _ => m - (intOf i).toNat)
  case atStart => exact ⟨0, by omega, rfl, HA⟩
  case round =>
    clear HA
    obtain ⟨k, hk, rfl, HW⟩ := hrel
    by_cases hlt : k < m
    · have hkn : (k : Int) < (m : Int) := by omega
      have ht1 := HW.out.own.top k hlt
      go_wp2_with fail
      go_loopw [23] (fun i wr => ∃ q : Nat, q ≤ n ∧ i = .int .i64 q ∧ Hid (Fill w wr w.heap.size m n k q G1 C1 (fun r j => f j r))) (fun i _ => n - (intOf i).toNat)
      case atStart => exact ⟨0, by omega, rfl, HW⟩
      case round =>
        clear HW ht1
        obtain ⟨q, hq, rfl, HW⟩ := hrel
        by_cases hlt2 : q < n
        · have hqn : (q : Int) < (n : Int) := by omega
          have hM := HM.out.below (Nat.le_refl _) HW.out.below
          have ht2 := hM.top q hlt2
          have ht3 := hM.cell q hlt2 k hlt
          have hst1 := HW.out.own.cell k hlt q hlt2
          have hst2 := HW.out.own.fG k hlt q
          have HN : Hid (Fill w (wr.setCell ⟨G1 k, q, none⟩ (.int .u8 ((f q k : Nat) : Int))) w.heap.size m n k (q + 1) G1 C1 (fun r j => f j r)) := ⟨HW.out.below.setCell (HW.out.own.hG k hlt).1 _, fill_step (Z := fun r j => f j r) hf HW.out.own hlt hlt2⟩
          clear hM HW
          go_wp2_with fail
          go_roundw
          case rel => exact ⟨q + 1, by omega, by go_num, HN⟩
          case measure => simp [intOf]; omega
        · obtain rfl : q = n := by omega
          have HN : Hid (Fill w wr w.heap.size m q (k + 1) 0 G1 C1 (fun r j => f j r)) := ⟨HW.out.below, fill_row (Z := fun r j => f j r) hf HW.out.own⟩
          clear HW
          go_wp2_with fail
          go_roundw
          case rel => exact ⟨k + 1, by omega, by go_num, HN⟩
          case measure => simp [intOf]; omega
    · obtain rfl : k = m := by omega
      go_wp2_with fail
      go_ret
      exact ⟨rfl, HW.out.below, G1, C1, HW.out.own.congr (fun r hr j _ => by simp [fillTo, hr]) (fun r j => hf r j)⟩

end Go.Proofs.Ytkdjjmjfpembpaa
