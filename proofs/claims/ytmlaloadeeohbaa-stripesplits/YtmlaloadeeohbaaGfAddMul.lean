/-
  What AddMul of package gf does: a contract over plain numbers.
  Conditions: the elements are below 256; the slices lie in memory, and take at most what any slice takes.
-/
import Derived.Test.YtmlaloadeeohbaaGfDots
import Derived.Deep.RegionHeld3
namespace Go.Proofs.Ytmlaloadeeohbaa
open Go.RowKit Gf

theorem info_byte : (Try.prog.info? 5).map (fun i => (i.zero, i.size, i.bytes)) = some (some (.int .u8 0), 1, 1) := by kernel_rfl

theorem held_set {wr : World} {H k n : Nat} {v : Value} {F : Nat → Int} (hk : k < n) (hv : v = .int .u8 (F k))
    (hthere : ∀ i, i < n → ∃ u, wr.cell? ⟨H, i, none⟩ = some u) (hdone : ∀ i, i < k → wr.cell? ⟨H, i, none⟩ = some (.int .u8 (F i))) :
    (∀ i, i < n → ∃ u, (wr.setCell ⟨H, k, none⟩ v).cell? ⟨H, i, none⟩ = some u) ∧ (∀ i, i < k + 1 → (wr.setCell ⟨H, k, none⟩ v).cell? ⟨H, i, none⟩ = some (.int .u8 (F i))) := by
  constructor
  · intro i hi
    obtain ⟨u, hu⟩ := hthere i hi
    exact cell?_setCell_some hu
  · intro i hi
    by_cases e : i = k
    · subst e
      obtain ⟨u, hu⟩ := hthere i hk
      rw [World.cell?_setCell_same _ _ _ hu, hv]
    · rw [World.cell?_setCell_other _ _ _ _ (fun h => e (by injection h with _ h2 _; exact h2.symm))]
      exact hdone i (by omega)

/- AddMul(dst, src, c), equally long, not empty. -/
set_option maxHeartbeats 1000000 in
set_option maxRecDepth 100000 in
theorem addmul_pos (b1 o1 b2 o2 n c1 c2 c : Nat) (f g : Nat → Nat) (w : World) (hc : c < 256) (hf : ∀ i, f i < 256) (hg : ∀ i, g i < 256) (hn : n ≤ 140737488351232)
    (hb1 : b1 < w.heap.size) (hb2 : b2 < w.heap.size)
    (hx : ∀ i, i < n → w.cell? ⟨b1, o1 + i, none⟩ = some (.int .u8 (f i : Int))) (hy : ∀ i, i < n → w.cell? ⟨b2, o2 + i, none⟩ = some (.int .u8 (g i : Int))) :
    Calls Try.prog 37 #[.slice (some ⟨b1, o1, none⟩) n c1, .slice (some ⟨b2, o2, none⟩) n c2, .int .u8 c] w fun e w' => e = .returned (.tuple #[.slice (some ⟨w.heap.size, 0, none⟩) n n, .bool true]) ∧
      Below w.heap.size w w' ∧ w.heap.size < w'.heap.size ∧ (∀ i, i < n → w'.cell? ⟨w.heap.size, i, none⟩ = some (.int .u8 ((f i ^^^ tmul c (g i) : Nat) : Int))) ∧ ∀ i, w'.frozen? ⟨w.heap.size, i, none⟩ = false := by
  obtain ⟨i0, hi, hz0, hz1, hz2⟩ := info_parts info_byte
  go_enter Try.func37, Try.ntmps37
  go_wp2_with (at_make; refine wpList_make_full _ rfl _ _ 22 rfl w.heap.size 5 i0 (.int .u8 0) 1 Try.underlying22 hi hz0 hz1 .i64 .i64 _ _ n rfl rfl rfl rfl (by rw [hz2]; omega) (by unfold maxLen; omega) (Nat.le_refl _) ?_; intro w1 hown hgrow)
  have hz : w.heap.size < w1.heap.size := by
    rcases hown.2 with ⟨h, _⟩ | ⟨gg, cap, cur, h, _, hh, _⟩
    · simp at h
    · simp at h
      have := (Array.getElem?_eq_some_iff.1 hh).1
      omega
  have hmade : ∀ i, i < n → ∃ u, w1.cell? ⟨w.heap.size, i, none⟩ = some u := by
    intro i hi'
    have hl := hown.1
    rw [hown.cellAt i (by omega)]
    exact ⟨_, List.getElem?_eq_getElem (by rw [hl]; omega)⟩
  have hfree : ∀ i, w1.frozen? ⟨w.heap.size, i, none⟩ = false := fun i => hown.frozenAt i
  have hbel : Below w.heap.size w w1 := (Below.refl _ _).grown hgrow (Nat.le_refl _) (fun k h => by cases h)
  clear hown hgrow hi hz0 hz1 hz2
  go_loopw [20] (fun i wr => ∃ k : Nat, k ≤ n ∧ i = .int .i64 k ∧ Hid (Below w.heap.size w wr ∧ w.heap.size < wr.heap.size ∧ (∀ i, wr.frozen? ⟨w.heap.size, i, none⟩ = false) ∧ (∀ i, i < n → ∃ u, wr.cell? ⟨w.heap.size, i, none⟩ = some u) ∧ ∀ i, i < k → wr.cell? ⟨w.heap.size, i, none⟩ = some (.int .u8 ((f i ^^^ tmul c (g i) : Nat) : Int)))) (fun i _ => n - (intOf i).toNat)
  case atStart => exact ⟨0, by omega, rfl, hbel, hz, hfree, hmade, fun i h => by omega⟩
  case round =>
    obtain ⟨k, hk, rfl, HW⟩ := hrel
    clear hbel hz hfree hmade
    by_cases hlt : k < n
    · have hx1 : wr.cell? ⟨b1, o1 + k, none⟩ = some (.int .u8 (f k : Int)) := (HW.out.1.cell (by exact hb1)).trans (hx k hlt)
      have hy1 : wr.cell? ⟨b2, o2 + k, none⟩ = some (.int .u8 (g k : Int)) := (HW.out.1.cell (by exact hb2)).trans (hy k hlt)
      have hfr : wr.frozen? ⟨w.heap.size, k, none⟩ = false := HW.out.2.2.1 k
      obtain ⟨u, hu⟩ := HW.out.2.2.2.1 k hlt
      have hlo : (0 : Int) ≤ (k : Int) := by omega
      have hli : (k : Int) < (n : Int) := by omega
      have hfk := hf k
      have hgk := hg k
      have ht := tmul_lt _ _ hc hgk
      have hl := xor_lt _ _ hfk ht
      have hn1 : (⟨w.heap.size, k, none⟩ : Addr) ≠ ⟨b1, o1 + k, none⟩ := by intro h; injection h with h2 _ _; omega
      have hn2 : (⟨w.heap.size, k, none⟩ : Addr) ≠ ⟨b2, o2 + k, none⟩ := by intro h; injection h with h2 _ _; omega
      clear hx hy hf hg
      go_wp2_with fail
      go_region_held3 (fun w' => w'.cell? ⟨b1, o1 + k, none⟩ = some (.int .u8 (f k : Int)) ∧ w'.cell? ⟨b2, o2 + k, none⟩ = some (.int .u8 (g k : Int))) (first | exact ⟨(World.cell?_setCell_other _ _ _ _ hn1).trans hx1, (World.cell?_setCell_other _ _ _ _ hn2).trans hy1⟩ | go_keep) (first | (go_at_call 47; refine (mul_any _ _ _ hc hgk).mono ?_; rintro e w' ⟨rfl, rfl⟩) | (go_at_call 46; refine (add_any _ _ _ hfk ht).mono ?_; rintro e w' ⟨rfl, rfl⟩))
      go_wp2_with fail
      go_roundw
      case rel =>
        have R := held_set (F := fun i => ((f i ^^^ tmul c (g i) : Nat) : Int)) hlt rfl HW.out.2.2.2.1 HW.out.2.2.2.2
        refine ⟨k + 1, by omega, by go_num, ?_, ?_, ?_, R.1, R.2⟩
        · exact (HW.out.1.setCell (Nat.le_refl _) _).drew
        · simpa using HW.out.2.1
        · intro i
          simpa using HW.out.2.2.1 i
      case measure => simp [intOf]; omega
    · have hk2 : k = n := by omega
      subst hk2
      clear hx hy hf hg
      go_wp2_with fail
      go_ret2
      exact ⟨rfl, HW.out.1, HW.out.2.1, HW.out.2.2.2.2, HW.out.2.2.1⟩

end Go.Proofs.Ytmlaloadeeohbaa
