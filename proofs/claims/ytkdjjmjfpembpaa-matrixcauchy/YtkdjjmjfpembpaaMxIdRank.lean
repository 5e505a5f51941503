/-
  What Identity and Rank of package matrix do: contracts over plain numbers.
  Conditions: rows that are looked at lie in memory.
-/
import Derived.Test.YtkdjjmjfpembpaaMxRowsOf
import Derived.Test.YtkdjjmjfpembpaaMxRefId
namespace Go.Proofs.Ytkdjjmjfpembpaa
open Go.RowKit Gf
set_option linter.unusedVariables false

theorem ident_no (z : Int) (w : World) (h : z < 1 ∨ 255 < z) : Calls Try.prog 16 #[.int .i64 z] w fun e w' => e = .returned (.tuple #[.slice none 0 0, .int .i64 1]) ∧ w' = w := by
  go_enter Try.func16, Try.ntmps16
  go_wp2_with (go_at_call 28; refine (fits_no _ _ h).mono ?_; rintro e w' ⟨rfl, rfl⟩)
  go_ret2
  exact ⟨rfl, rfl⟩

theorem id_step {base : Nat} {wr : World} {b n k : Nat} {G C : Nat → Nat} (h : Own base wr b n n G C (rowsTo delta k)) (hk : k < n) : Own base (wr.setCell ⟨G k, k, none⟩ (.int .u8 1)) b n n G C (rowsTo delta (k + 1)) := by
  refine (h.store hk hk (v := 1) (by omega)).congr (fun s hs j hj => ?_) (rowsTo_lt delta_lt _)
  unfold rowsTo delta
  by_cases e : s = k
  · subst e
    by_cases e2 : j = s
    · subst e2; simp
    · have e3 : ¬ s = j := fun h => e2 h.symm
      simp [e2, e3]
  · by_cases hlt : s < k
    · have : s < k + 1 := by omega
      simp [e, hlt, this]
    · have : ¬ s < k + 1 := by omega
      simp [e, hlt, this]

set_option maxHeartbeats 1000000 in
set_option maxRecDepth 100000 in
theorem ident_yes (n : Nat) (w : World) (h1 : 1 ≤ n) (h2 : n ≤ 255) : Calls Try.prog 16 #[.int .i64 n] w fun e w' => Below w.heap.size w w' ∧
    ∃ B G1 C1, e = .returned (.tuple #[.slice (some ⟨B, 0, none⟩) n n, .int .i64 0]) ∧ Own w.heap.size w' B n n G1 C1 delta := by
  have hz := zero_any n n w (by omega) (by omega)
  go_enter Try.func16, Try.ntmps16
  go_wp2_with (first | (go_at_call 28; refine (fits_yes _ _ (by omega) (by omega)).mono ?_; rintro e w' ⟨rfl, rfl⟩) | (go_at_call 25; refine hz.mono ?_; rintro e w0 ⟨rfl, hb0, hs0, ho0⟩))
  obtain ⟨G1, hG1⟩ : ∃ G1 : Nat → Nat, G1 = fun r => w'.heap.size + 1 + r := ⟨_, rfl⟩
  obtain ⟨C1, hC1⟩ : ∃ C1 : Nat → Nat, C1 = fun _ => n := ⟨_, rfl⟩
  rw [← hG1, ← hC1] at ho0
  have HA : Hid (Cop w' w0 n n 0 G1 C1 delta) := ⟨hb0, ho0.congr (fun r _ j _ => by simp [rowsTo]) (rowsTo_lt delta_lt 0)⟩
  clear hb0 hs0 ho0 hz hG1 hC1
  go_loopw [15] (fun i wr => ∃ t : Nat, t ≤ n ∧ i = .int .i64 t ∧ Hid (Cop w' wr n n t G1 C1 delta)) (fun i _ => n - (intOf i).toNat)
  case atStart => exact ⟨0, by omega, rfl, HA⟩
  case round =>
    clear HA
    obtain ⟨t, ht, rfl, HC⟩ := hrel
    by_cases hlt : t < n
    · have htn : (t : Int) < (n : Int) := by omega
      have t1 := HC.out.own.top t hlt
      have t2 := HC.out.own.cell t hlt t hlt
      have t3 := HC.out.own.fG t hlt t
      have HN : Hid (Cop w' (wr.setCell ⟨G1 t, t, none⟩ (.int .u8 1)) n n (t + 1) G1 C1 delta) := ⟨HC.out.below.setCell (HC.out.own.hG t hlt).1 _, id_step HC.out.own hlt⟩
      clear HC
      go_wp2_with fail
      go_roundw
      case rel => exact ⟨t + 1, by omega, by go_num, HN⟩
      case measure => simp [intOf]; omega
    · obtain rfl : t = n := by omega
      go_wp2_with fail
      go_ret2
      exact ⟨HC.out.below, _, G1, C1, rfl, cop_end delta_lt HC.out⟩

theorem rank_no (x : Option Addr) (n c : Nat) (A : Nat → Option Addr) (L C : Nat → Nat) (w : World) (h : Tops w x n A L C) (hm : ¬ MayN n L) :
    Calls Try.prog 19 #[.slice x n c] w fun e w' => e = .returned (.tuple #[.int .i64 0, .int .i64 1]) ∧ w' = w := by
  have hck := check_no x n c A L C w h hm
  clear hm h
  go_enter Try.func19, Try.ntmps19
  go_wp2_with (go_at_call 12; refine hck.mono ?_; rintro e w' ⟨rfl, rfl⟩; clear hck)
  go_ret2
  exact ⟨rfl, rfl⟩

set_option maxHeartbeats 2000000 in
set_option maxRecDepth 100000 in
theorem rank_yes (b o n m c : Nat) (G O C : Nat → Nat) (f : Nat → Nat → Nat) (w : World) (h : Mat w b o n m G O C f) (n1 : 1 ≤ n) (n2 : n ≤ 255) (n3 : 1 ≤ m) (n4 : m ≤ 255) :
    Calls Try.prog 19 #[.slice (some ⟨b, o, none⟩) n c] w fun e w' => e = .returned (.tuple #[.int .i64 ((red n f m).1 : Int), .int .i64 0]) ∧ Below w.heap.size w w' := by
  have hf := h.lt
  have hck := check_yes (some ⟨b, o, none⟩) n c _ _ C w h.tops ⟨n1, n2, n3, n4, fun r _ => rfl⟩
  have h0 : w.cell? ⟨b, o, none⟩ = some (.slice (some ⟨G 0, O 0, none⟩) m (C 0)) := h.top 0 (by omega)
  have hn : (0 : Int) < (n : Int) := by omega
  have hz := zero_any n m w (by omega) (by omega)
  have HM : Hid (Mat w b o n m G O C f) := h
  clear h
  go_enter Try.func19, Try.ntmps19
  go_wp2_with (first | (go_at_call 12; refine hck.mono ?_; rintro e w' ⟨rfl, rfl⟩; clear hck) | (go_at_call 25; refine hz.mono ?_; rintro e w0 ⟨rfl, hb0, hs0, ho0⟩))
  obtain ⟨G1, hG1⟩ : ∃ G1 : Nat → Nat, G1 = fun r => w'.heap.size + 1 + r := ⟨_, rfl⟩
  obtain ⟨C1, hC1⟩ : ∃ C1 : Nat → Nat, C1 = fun _ => m := ⟨_, rfl⟩
  rw [← hG1, ← hC1] at ho0
  have HA : Hid (Cop w' w0 n m 0 G1 C1 f) := ⟨hb0, ho0.congr (fun r _ j _ => by simp [rowsTo]) (rowsTo_lt hf 0)⟩
  clear hb0 hs0 ho0 hz h0 hG1 hC1
  go_loopw [19] (fun i wr => ∃ t : Nat, t ≤ n ∧ i = .int .i64 t ∧ Hid (Cop w' wr n m t G1 C1 f)) (fun i _ => n - (intOf i).toNat)
  case atStart => exact ⟨0, by omega, rfl, HA⟩
  case round =>
    clear HA
    obtain ⟨t, ht, rfl, HC⟩ := hrel
    by_cases hlt2 : t < n
    · have htk : (t : Int) < (n : Int) := by omega
      have hM := HM.out.below (Nat.le_refl _) HC.out.below
      have t1 := HC.out.own.top t hlt2
      have t3 := hM.top t hlt2
      obtain ⟨w1, hrun, hc1⟩ := copy_run wr 3 (G1 t) 0 m (C1 t) (G t) (O t) m (C t) (f t) m (Nat.min_self m).symm (hM.cell t hlt2) (fun j hj => by rw [Nat.zero_add, HC.out.own.cell t hlt2 j hj]; rfl) (HC.out.own.fG t hlt2)
      have HN : Hid (Cop w' w1 n m (t + 1) G1 C1 f) := ⟨HC.out.below.trans (hc1.touch.below (HC.out.own.hG t hlt2).1), rows_step hf HC.out.own hlt2 hc1⟩
      clear hM hc1 HC
      go_wp2_with fail
      go_roundw
      case rel => exact ⟨t + 1, by omega, by go_num, HN⟩
      case measure => simp [intOf]; omega
    · obtain rfl : t = n := by omega
      have hM := HM.out.below (Nat.le_refl _) HC.out.below
      have ht0 : wr.cell? ⟨b, o, none⟩ = some (.slice (some ⟨G 0, O 0, none⟩) m (C 0)) := hM.top 0 (by omega)
      have hred := reduce_any w'.heap.size w'.heap.size t m m t G1 C1 f wr (cop_end hf HC.out) (by omega) (by omega) (Nat.le_refl _)
      have HB : Hid (Below w'.heap.size w' wr) := HC.out.below
      clear hM HC hf
      go_wp2_with (go_at_call 29; refine hred.mono ?_; rintro e w2 ⟨rfl, hb2, _⟩)
      go_ret2
      exact ⟨rfl, HB.out.trans hb2⟩

end Go.Proofs.Ytkdjjmjfpembpaa
