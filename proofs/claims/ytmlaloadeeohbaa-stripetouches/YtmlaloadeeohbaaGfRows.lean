/-
  What Dot, AddMul and Same do to slices of bytes, of any length: contracts over plain numbers.
  Conditions: the elements are below 256; a slice that is not empty lies in memory.
-/
import Derived.Test.YtmlaloadeeohbaaGfAddMul
import Derived.Laws.BytesArg
namespace Go.Proofs.Ytmlaloadeeohbaa
open Go.RowKit Gf

def RowAt (w : World) (x : Option Addr) (n : Nat) (f : Nat → Nat) : Prop :=
  n = 0 ∨ ∃ b o, x = some ⟨b, o, none⟩ ∧ b < w.heap.size ∧ ∀ i, i < n → w.cell? ⟨b, o + i, none⟩ = some (.int .u8 (f i : Int))

theorem RowAt.below {w w' : World} {x : Option Addr} {n : Nat} {f : Nat → Nat} (h : RowAt w x n f) (hb : Below w.heap.size w w') : RowAt w' x n f := by
  rcases h with h | ⟨b, o, h1, h2, h3⟩
  · exact .inl h
  · exact .inr ⟨b, o, h1, Nat.lt_of_lt_of_le h2 hb.size, fun i hi => (hb.cell (by exact h2)).trans (h3 i hi)⟩

theorem RowAt.drewN {w : World} {x : Option Addr} {n m : Nat} {f : Nat → Nat} (h : RowAt w x n f) : RowAt (w.drewN m) x n f := h

/- AddMul. -/
theorem addmul_ne (x y : Option Addr) (n m c1 c2 : Nat) (c : Int) (w : World) (h : n ≠ m) :
    Calls Try.prog 37 #[.slice x n c1, .slice y m c2, .int .u8 c] w fun e w' => e = .returned (.tuple #[.slice none 0 0, .bool false]) ∧ w' = w := by
  have hg : ((n : Int) != (m : Int)) = true := by simp; omega
  go_enter Try.func37, Try.ntmps37
  go_wp2_with fail
  go_ret2
  exact ⟨rfl, rfl⟩

theorem addmul_zero (x y : Option Addr) (c1 c2 : Nat) (c : Int) (w : World) :
    Calls Try.prog 37 #[.slice x 0 c1, .slice y 0 c2, .int .u8 c] w fun e w' => e = .returned (.tuple #[.slice (some ⟨w.heap.size, 0, none⟩) 0 0, .bool true]) ∧ Below w.heap.size w w' ∧ w.heap.size < w'.heap.size := by
  have hmk : ∀ w : World, (Instr.makeSlice 22 (.int .i64 0) (.int .i64 0)).run Try.prog w = .ok (.slice (some ⟨w.heap.size, 0, none⟩) 0 0) (w.alloc (.cells #[] 5)) := fun _ => by kernel_rfl
  go_enter Try.func37, Try.ntmps37
  go_wp2_with fail
  refine wp_loop_rounds 1 ?_
  rw [rounds_succ]
  go_wp2_with fail
  go_ret2
  exact ⟨rfl, (Below.refl _ _).alloc (Nat.le_refl _) _, by simp⟩

theorem addmul_eq (x y : Option Addr) (n c1 c2 c : Nat) (f g : Nat → Nat) (w : World) (hc : c < 256) (hf : ∀ i, f i < 256) (hg : ∀ i, g i < 256) (hn : n ≤ 140737488351232) (hx : RowAt w x n f) (hy : RowAt w y n g) :
    Calls Try.prog 37 #[.slice x n c1, .slice y n c2, .int .u8 c] w fun e w' => e = .returned (.tuple #[.slice (some ⟨w.heap.size, 0, none⟩) n n, .bool true]) ∧
      Below w.heap.size w w' ∧ w.heap.size < w'.heap.size ∧ ∀ i, i < n → w'.cell? ⟨w.heap.size, i, none⟩ = some (.int .u8 ((f i ^^^ tmul c (g i) : Nat) : Int)) := by
  by_cases h0 : n = 0
  · subst h0
    exact (addmul_zero x y c1 c2 c w).mono fun e w' h => ⟨h.1, h.2.1, h.2.2, fun i hi => by omega⟩
  · rcases hx with h | ⟨b1, o1, rfl, l1, hx⟩
    · exact absurd h h0
    · rcases hy with h | ⟨b2, o2, rfl, l2, hy⟩
      · exact absurd h h0
      · exact (addmul_pos b1 o1 b2 o2 n c1 c2 c f g w hc hf hg hn l1 l2 hx hy).mono fun e w' h => ⟨h.1, h.2.1, h.2.2.1, h.2.2.2.1⟩

end Go.Proofs.Ytmlaloadeeohbaa
