/-
  Write of a disk, whatever is handed in: what it leaves.
  Conditions: the disk is one that New gave.
-/
import Derived.Test.YtaaeppbkbkfphaaDkBump
import Derived.Test.YtaaeppbkbkfphaaDkItem
namespace Go.Proofs.Ytaaeppbkbkfphaa
open Go.RowKit By Dk
set_option linter.unusedVariables false
set_option linter.unusedSimpArgs false

theorem dwrite_no (B p n m l c : Nat) (F : Nat → Prop) (f A : Nat → Nat) (D : Nat → Nat → Nat) (x : Option Addr) (z : Int) (w0 w : World) (h : Dsk B w0 w F p n m f A D) (hno : ¬ (0 ≤ z ∧ z < n ∧ l = 64)) :
    Calls Try.prog 17 #[.pointer (some ⟨p, 0, none⟩), .int .i64 z, .slice x l c] w fun e w' => e = .returned (.int .i64 1) ∧ w' = w := by
  obtain ⟨t, ht⟩ : ∃ t : Bool, t = decide (0 ≤ z ∧ z < n) := ⟨_, rfl⟩
  obtain ⟨gs, gn, R, s, q, hd⟩ := h.pd
  refine write_no _ z x l c t w (has_any _ n z t w (size_any p n n _ w hd.c2) (fun h1 h2 => by rw [ht]; simpa using ⟨h1, h2⟩) (fun h1 => by rw [ht]; simpa using h1)) (fun h1 h2 => ?_)
  rw [ht] at h1
  have := of_decide_eq_true h1
  exact hno ⟨this.1, this.2, h2⟩

theorem dwrite_all (B p n m l c : Nat) (F : Nat → Prop) (f A g : Nat → Nat) (D : Nat → Nat → Nat) (x : Option Addr) (z : Int) (w0 w : World) (h : Dsk B w0 w F p n m f A D) (hx : RowAt w x l g) (hg : ∀ i, g i < 256) (hm : m < 1000) :
    Calls Try.prog 17 #[.pointer (some ⟨p, 0, none⟩), .int .i64 z, .slice x l c] w fun e w' => ∃ r : Int, e = .returned (.int .i64 r) ∧ ∃ F' m' A' D', Dsk B w0 w' F' p n m' f A' D' ∧ m' ≤ m + 1 ∧ ∀ i, i < m' → (i < m ∧ A' i = A i) ∨ (A' i : Int) = z := by
  by_cases hy : 0 ≤ z ∧ z < n ∧ l = 64
  · obtain ⟨h1, h2, rfl⟩ := hy
    obtain ⟨a, rfl⟩ : ∃ a : Nat, z = (a : Int) := ⟨z.toNat, by omega⟩
    refine (dwrite B p n m a c F f A g D x a rfl w0 w h (by omega) hx hg hm).mono fun e w' ⟨he, ht, hd⟩ => ⟨0, he, _, _, _, _, hd, Nat.le_refl _, fun i hi => ?_⟩
    by_cases e : i < m
    · exact .inl ⟨e, ext_old A m a e⟩
    · obtain rfl : i = m := by omega
      right
      rw [ext_new]
  · refine (dwrite_no B p n m l c F f A D x z w0 w h hy).mono fun e w' ⟨he, hw⟩ => ⟨1, he, F, m, A, D, ?_, by omega, fun i hi => .inl ⟨hi, rfl⟩⟩
    rw [hw]
    exact h

end Go.Proofs.Ytaaeppbkbkfphaa
