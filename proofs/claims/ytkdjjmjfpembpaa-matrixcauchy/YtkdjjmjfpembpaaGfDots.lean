/-
  What Dot of package gf, and the document's, does: contracts over plain numbers.
  Conditions: the elements are below 256; the slices lie in memory.
-/
import Derived.Test.YtkdjjmjfpembpaaGfAwake
import Derived.Deep.QuietTactic
import Derived.BigQuiet
namespace Go.Proofs.Ytkdjjmjfpembpaa
open Go.RowKit Gf

def dot (f g : Nat → Nat) : Nat → Nat
  | 0 => 0
  | k + 1 => dot f g k ^^^ tmul (f k) (g k)

theorem dot_lt (f g : Nat → Nat) (hf : ∀ i, f i < 256) (hg : ∀ i, g i < 256) : ∀ k, dot f g k < 256
  | 0 => by unfold dot; omega
  | k + 1 => by unfold dot; exact xor_lt _ _ (dot_lt f g hf hg k) (tmul_lt _ _ (hf k) (hg k))

theorem drewN_more {w wr : World} {n : Nat} (h : ∃ m, wr = w.drewN m) : ∃ m, wr.drewN n = w.drewN m := by
  obtain ⟨m, rfl⟩ := h
  exact ⟨m + n, by rw [World.drewN_drewN]⟩

/- Dot(a, b), equally long, not empty. -/
set_option maxHeartbeats 400000 in
set_option maxRecDepth 100000 in
theorem dot_pos (b1 o1 b2 o2 n c1 c2 : Nat) (f g : Nat → Nat) (w : World) (hf : ∀ i, f i < 256) (hg : ∀ i, g i < 256) (hn : n ≤ 9223372036854775807)
    (hx : ∀ i, i < n → w.cell? ⟨b1, o1 + i, none⟩ = some (.int .u8 (f i : Int))) (hy : ∀ i, i < n → w.cell? ⟨b2, o2 + i, none⟩ = some (.int .u8 (g i : Int))) :
    Calls Try.prog 26 #[.slice (some ⟨b1, o1, none⟩) n c1, .slice (some ⟨b2, o2, none⟩) n c2] w fun e w' => e = .returned (.tuple #[.int .u8 (dot f g n : Int), .bool true]) ∧ ∃ m, w' = w.drewN m := by
  go_enter Try.func26, Try.ntmps26
  go_wp2_with fail
  go_loopw [6, 15] (fun s i wr => ∃ k S : Nat, k ≤ n ∧ S < 256 ∧ Hid (S = dot f g k) ∧ s = .int .u8 S ∧ i = .int .i64 k ∧ Hid (∃ m, wr = w.drewN m)) (fun _ i _ => n - (intOf i).toNat)
  case atStart => exact ⟨0, 0, by omega, by omega, rfl, rfl, rfl, ⟨0, rfl⟩⟩
  case round =>
    obtain ⟨k, S, hk, hS, HS, rfl, rfl, HW⟩ := hrel
    by_cases hlt : k < n
    · have hx1 : wr.cell? ⟨b1, o1 + k, none⟩ = some (.int .u8 (f k : Int)) := by obtain ⟨m, hm⟩ := HW.out; rw [hm]; exact hx k hlt
      have hy1 : wr.cell? ⟨b2, o2 + k, none⟩ = some (.int .u8 (g k : Int)) := by obtain ⟨m, hm⟩ := HW.out; rw [hm]; exact hy k hlt
      have hfk := hf k
      have hgk := hg k
      have ht := tmul_lt _ _ hfk hgk
      have hl := xor_lt S _ hS ht
      have HS1 : Hid (S ^^^ tmul (f k) (g k) = dot f g (k + 1)) := by rw [HS.out]; exact rfl
      clear HS hx hy hf hg
      go_wp2_with fail
      go_quiet (first | (go_at_call 34; exact Calls.quiet_of_same (mul_any _ _ _ hfk hgk)) | (go_at_call 33; exact Calls.quiet_of_same (add_any _ _ _ hS ht)))
      go_wp2_with fail
      go_roundw
      case rel => exact ⟨k + 1, S ^^^ tmul (f k) (g k), by omega, hl, HS1, rfl, by go_num, drewN_more HW.out⟩
      case measure => simp [intOf]; omega
    · have hk2 : k = n := by omega
      subst hk2
      clear hx hy hf hg
      go_wp2_with fail
      go_ret2
      exact ⟨by rw [← HS.out]; rfl, HW.out⟩

end Go.Proofs.Ytkdjjmjfpembpaa
