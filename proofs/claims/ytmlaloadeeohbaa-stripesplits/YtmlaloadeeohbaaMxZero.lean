/-
  What fits and zero of package matrix do: contracts over plain numbers.
  Conditions: of zero: no more than 1000 rows and columns.
-/
import Derived.Test.YtmlaloadeeohbaaMxMem
namespace Go.Proofs.Ytmlaloadeeohbaa
open Go.RowKit Gf
set_option linter.unusedVariables false

theorem info_row : (Try.prog.info? 22).map (fun i => (i.zero, i.size, i.bytes)) = some (some (.slice none 0 0), 1, 24) := by kernel_rfl

theorem fits_yes (z : Int) (w : World) (h1 : 1 ≤ z) (h2 : z ≤ 255) : Calls Try.prog 41 #[.int .i64 z] w fun e w' => e = .returned (.bool true) ∧ w' = w := by
  go_enter Try.func41, Try.ntmps41
  go_wp2_with fail
  go_ret
  exact ⟨rfl, rfl⟩

theorem fits_no (z : Int) (w : World) (h : z < 1 ∨ 255 < z) : Calls Try.prog 41 #[.int .i64 z] w fun e w' => e = .returned (.bool false) ∧ w' = w := by
  rcases h with h | h
  · have h1 : ¬ (1 ≤ z) := by omega
    go_enter Try.func41, Try.ntmps41
    go_wp2_with fail
    go_ret
    exact ⟨rfl, rfl⟩
  · have h1 : 1 ≤ z := by omega
    have h2 : ¬ (z ≤ 255) := by omega
    go_enter Try.func41, Try.ntmps41
    go_wp2_with fail
    go_ret
    exact ⟨rfl, rfl⟩

structure Made (w wr : World) (n m k : Nat) : Prop where
  below : Below w.heap.size w wr
  size : wr.heap.size = w.heap.size + 1 + k
  top : wr.rowIs w.heap.size 22 n (fun r => if r < k then .slice (some ⟨w.heap.size + 1 + r, 0, none⟩) m m else .slice none 0 0)
  done : ∀ r, r < k → wr.rowIs (w.heap.size + 1 + r) 5 m (fun _ => .int .u8 0)

theorem made_start (w : World) (n m : Nat) : Made w (w.alloc (.cells (madeCells #[.slice none 0 0] n) 22)) n m 0 :=
  ⟨(Below.refl _ _).alloc (Nat.le_refl _) _, by simp, (World.rowIs_made w _ n _).congr (fun j _ => by simp), fun j hj => absurd hj (Nat.not_lt_zero _)⟩

theorem made_step {w wr : World} {n m k : Nat} (h : Made w wr n m k) :
    Made w ((wr.alloc (.cells (madeCells #[.int .u8 0] m) 5)).setCell ⟨w.heap.size, k, none⟩ (.slice (some ⟨wr.heap.size, 0, none⟩) m m)) n m (k + 1) := by
  have hnew := World.rowIs_made wr (.int .u8 0) m 5
  rw [h.size] at hnew ⊢
  refine ⟨(h.below.alloc (by rw [h.size]; omega) _).setCell (Nat.le_refl _) _, by simp [h.size]; omega, ((h.top.alloc _).set k _).congr (fun j _ => ?_), fun j hj => ?_⟩
  · by_cases e : j = k
    · subst e; simp
    · rw [if_neg e]
      by_cases hlt : j < k
      · rw [if_pos hlt, if_pos (by omega)]
      · rw [if_neg hlt, if_neg (by omega)]
  · by_cases e : j = k
    · subst e; exact hnew.setOther (by show w.heap.size + 1 + j ≠ w.heap.size; omega) _
    · exact ((h.done j (by omega)).alloc _).setOther (by show w.heap.size + 1 + j ≠ w.heap.size; omega) _

theorem made_own {w wr : World} {n m : Nat} (h : Made w wr n m n) : Own w.heap.size wr w.heap.size n m (fun r => w.heap.size + 1 + r) (fun _ => m) (fun _ _ => 0) :=
  ⟨⟨Nat.le_refl _, by rw [h.size]; omega⟩, fun r hr => ⟨by omega, by rw [h.size]; omega, by omega⟩, fun r s _ _ e => by omega, fun i => h.top.frozen i, fun r hr j => (h.done r hr).frozen j,
    fun r hr => by rw [h.top.cell hr, if_pos hr], fun r hr j hj => (h.done r hr).cell hj, fun _ _ => by omega, fun _ _ => Nat.le_refl _⟩

set_option maxHeartbeats 400000 in
set_option maxRecDepth 100000 in
theorem zero_any (n m : Nat) (w : World) (hn : n ≤ 1000) (hm : m ≤ 1000) :
    Calls Try.prog 42 #[.int .i64 n, .int .i64 m] w fun e w' => e = .returned (.slice (some ⟨w.heap.size, 0, none⟩) n n) ∧ Below w.heap.size w w' ∧ w'.heap.size = w.heap.size + 1 + n ∧
      Own w.heap.size w' w.heap.size n m (fun r => w.heap.size + 1 + r) (fun _ => m) (fun _ _ => 0) := by
  have hmk := run_make_row' (P := Try.prog) 28 22 (.slice none 0 0) 24 Try.underlying28 info_row rfl .i64 .i64 n (by omega) (by omega)
  go_enter Try.func42, Try.ntmps42
  go_wp2_with fail
  clear hmk
  go_loopw [11] (fun i wr => ∃ k : Nat, k ≤ n ∧ i = .int .i64 k ∧ Hid (Made w wr n m k)) (fun i _ => n - (intOf i).toNat)
  case atStart => exact ⟨0, by omega, rfl, made_start w n m⟩
  case round =>
    obtain ⟨k, hk, rfl, HW⟩ := hrel
    by_cases hlt : k < n
    · have hmk2 := run_make_row' (P := Try.prog) 22 5 (.int .u8 0) 1 Try.underlying22 info_byte rfl .i64 .i64 m (by omega) (by omega)
      have hz : (k : Int) < (n : Int) := by omega
      have hst1 : ∀ o, (wr.alloc o).cell? ⟨w.heap.size, k, none⟩ = some (.slice none 0 0) := fun o => by
        have := (HW.out.top.alloc o).cell hlt
        simpa using this
      have hst2 : ∀ o, (wr.alloc o).frozen? ⟨w.heap.size, k, none⟩ = false := fun o => (HW.out.top.alloc o).frozen k
      go_wp2_with fail
      go_roundw
      case rel => exact ⟨k + 1, by omega, by go_num, made_step HW.out⟩
      case measure => simp [intOf]; omega
    · have hk2 : k = n := by omega
      subst hk2
      go_wp2_with fail
      go_ret
      exact ⟨rfl, HW.out.below, HW.out.size, made_own HW.out⟩

end Go.Proofs.Ytmlaloadeeohbaa
