/-
  What the document's Identity does: a contract over plain numbers.
  Conditions: 1 to 255 rows.
-/
import Derived.Test.YtmlaloadeeohbaaMxRefMul
import Derived.Test.YtmlaloadeeohbaaMxElim
namespace Go.Proofs.Ytmlaloadeeohbaa
open Go.RowKit Gf
set_option linter.unusedVariables false

theorem own_of_rowIs {w : World} {base g n : Nat} {f : Nat → Nat} (h : w.rowIs g 5 n (fun j => .int .u8 (f j : Int))) (hb : base ≤ g) (hn : n ≤ 1000) :
    w.ownsRow base 5 1 (.slice (some ⟨g, 0, none⟩) n n) n (bytesOf f n) := by
  obtain ⟨c, hc, hs, hcell⟩ := h
  refine ⟨by simp [bytesOf], .inr ⟨g, n, c, rfl, hb, hc, Nat.le_refl _, by unfold maxLen; omega, by omega, ?_⟩⟩
  refine List.ext_getElem? fun i => ?_
  by_cases hi : i < n
  · rw [List.getElem?_take_of_lt (by omega), Array.getElem?_toList, hcell i hi]
    simp [bytesOf, hi]
  · rw [List.getElem?_eq_none (by simp; omega), List.getElem?_eq_none (by simp [bytesOf]; omega)]

theorem delta_lt (r j : Nat) : delta r j < 256 := by unfold delta; split <;> omega

theorem unit_row (wr : World) (n k : Nat) (hn : n ≤ 1000) :
    ((wr.alloc (.cells (madeCells #[.int .u8 0] n) 5)).setCell ⟨wr.heap.size, k, none⟩ (.int .u8 1)).ownsRow wr.heap.size 5 1 (.slice (some ⟨wr.heap.size, 0, none⟩) n n) n (bytesOf (delta k) n) := by
  refine own_of_rowIs (((World.rowIs_made wr (.int .u8 0) n 5).set k (.int .u8 1)).congr (fun j hj => ?_)) (Nat.le_refl _) hn
  unfold delta
  by_cases e : j = k
  · subst e; simp
  · have e' : ¬ k = j := fun h => e h.symm
    rw [if_neg e, if_neg e']; rfl

theorem unit_row' (wr : World) (n k : Nat) (hn : n ≤ 1000) :
    (wr.alloc (.cells ((madeCells #[.int .u8 0] n).setIfInBounds k (.int .u8 1)) 5)).ownsRow wr.heap.size 5 1 (.slice (some ⟨wr.heap.size, 0, none⟩) n n) n (bytesOf (delta k) n) := by
  have := unit_row wr n k hn
  rwa [World.setCell_alloc_new] at this

set_option maxHeartbeats 1000000 in
set_option maxRecDepth 100000 in
theorem rident_any (n : Nat) (w : World) (h1 : 1 ≤ n) (h2 : n ≤ 255) :
    Calls Try.prog 48 #[.int .i64 n] w fun e w' => ∃ V G C, e = .returned V ∧ Grow w.heap.size w w' V n n G C delta := by
  have hmk := run_make_row' (P := Try.prog) 22 5 (.int .u8 0) 1 Try.underlying22 info_byte rfl .i64 .i64 n (by omega) (by omega)
  have HA : Hid (∃ G C, Grow w.heap.size w (w.alloc (.cells #[] 22)) (.slice (some ⟨w.heap.size, 0, none⟩) 0 0) 0 n G C delta) := ⟨fun _ => 0, fun _ => 0, grow_start w n _ _ delta delta_lt⟩
  go_enter Try.func48, Try.ntmps48
  go_wp2_with fail
  go_loopw [3, 4] (fun V i wr => ∃ k : Nat, k ≤ n ∧ i = .int .i64 k ∧ Hid (∃ G C, Grow w.heap.size w wr V k n G C delta)) (fun _ i _ => n - (intOf i).toNat)
  case atStart => exact ⟨0, by omega, rfl, HA⟩
  case round =>
    clear HA
    obtain ⟨k, hk, rfl, HW⟩ := hrel
    by_cases hlt : k < n
    · obtain ⟨G, C, hG⟩ := HW.out
      have hkn : (k : Int) < (n : Int) := by omega
      have hnew := World.rowIs_made wr (.int .u8 0) n 5
      have hst1 : (wr.alloc (.cells (madeCells #[.int .u8 0] n) 5)).cell? ⟨wr.heap.size, k, none⟩ = some (.int .u8 0) := hnew.cell hlt
      have hst2 : (wr.alloc (.cells (madeCells #[.int .u8 0] n) 5)).frozen? ⟨wr.heap.size, k, none⟩ = false := hnew.frozen k
      have hb1 : Below wr.heap.size wr (wr.alloc (.cells ((madeCells #[.int .u8 0] n).setIfInBounds k (.int .u8 1)) 5)) := (Below.refl _ _).alloc (Nat.le_refl _) _
      have hrow := unit_row' wr n k (by omega)
      have hn0 : 0 < n := by omega
      have hk0 : k ≤ 1000 := by omega
      obtain ⟨V', w3, hrun, G2, C2, hG2⟩ := grow_push (f := delta) (m := n) (k := k) (R := .slice (some ⟨wr.heap.size, 0, none⟩) n n) (w1 := wr.alloc (.cells ((madeCells #[.int .u8 0] n).setIfInBounds k (.int .u8 1)) 5)) hG hb1 hn0 hk0 hrow
      rw [show (wr.alloc (.cells ((madeCells #[.int .u8 0] n).setIfInBounds k (.int .u8 1)) 5)).heap.size = wr.heap.size + 1 by simp] at hrun
      clear hrow hn0 hk0
      have HN : Hid (∃ G C, Grow w.heap.size w w3 V' (k + 1) n G C delta) := ⟨G2, C2, hG2⟩
      clear hG hG2 HW hnew hb1
      go_wp2_with (at_builtin; refine wpList_append_run rfl _ _ 28 rfl _ _ rfl rfl hrun ?_; clear hrun)
      go_roundw
      case rel => exact ⟨k + 1, by omega, by go_num, HN⟩
      case measure => simp [intOf]; omega
    · obtain rfl : k = n := by omega
      clear hmk
      go_wp2_with fail
      go_ret
      obtain ⟨G, C, hG⟩ := HW.out
      exact ⟨_, G, C, rfl, hG⟩

end Go.Proofs.Ytmlaloadeeohbaa
