/-
  What Dot of package gf, and the document's, does: contracts over plain numbers.
  Conditions: the elements are below 256; the slices lie in memory.
-/
import Derived.Test.YtmlaloadeeohbaaGfAwake
import Derived.Deep.QuietTactic
import Derived.BigQuiet
namespace Go.Proofs.Ytmlaloadeeohbaa
open Go.RowKit Gf

def dot (f g : Nat → Nat) : Nat → Nat
  | 0 => 0
  | k + 1 => dot f g k ^^^ tmul (f k) (g k)

theorem dot_lt (f g : Nat → Nat) (hf : ∀ i, f i < 256) (hg : ∀ i, g i < 256) : ∀ k, dot f g k < 256
  | 0 => by unfold dot; omega
  | k + 1 => by unfold dot; exact xor_lt _ _ (dot_lt f g hf hg k) (tmul_lt _ _ (hf k) (hg k))

theorem drewN_more {w wr : World} {n : Nat} (h : ∃ m, wr = w.drewN m) : ∃ m, wr.drewN n = w.drewN m := by
  obtain ⟨m, rfl⟩ := h
  exact ⟨m + n, by rw [World.drewN_drewN]⟩

end Go.Proofs.Ytmlaloadeeohbaa
