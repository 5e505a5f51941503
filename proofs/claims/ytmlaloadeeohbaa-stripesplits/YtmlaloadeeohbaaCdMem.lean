/-
  Lists of lists of bytes as a call makes them, list by list: each list is read alone once it is laid there.
  Conditions: none.
-/
import Derived.Test.YtmlaloadeeohbaaMxGrid
import Derived.Test.YtmlaloadeeohbaaMxRefCau
import Derived.Test.YtmlaloadeeohbaaCdPlain
namespace Go.Proofs.Ytmlaloadeeohbaa
open Go.RowKit Gf
set_option linter.unusedVariables false

structure Build (w0 w : World) (N i : Nat) (A : Nat → Option Addr) (L C : Nat → Nat) (f : Nat → Nat → Nat) : Prop where
  below : Below w0.heap.size w0 w
  hb : w0.heap.size < w.heap.size
  fb : ∀ j, w.frozen? ⟨w0.heap.size, j, none⟩ = false
  there : ∀ r, r < N → ∃ u, w.cell? ⟨w0.heap.size, r, none⟩ = some u
  top : ∀ r, r < i → w.cell? ⟨w0.heap.size, r, none⟩ = some (.slice (A r) (L r) (C r))
  row : ∀ r, r < i → L r = 0 ∨ ∃ g o, A r = some ⟨g, o, none⟩ ∧ g ≠ w0.heap.size ∧ g < w.heap.size ∧ ∀ j, j < L r → w.cell? ⟨g, o + j, none⟩ = some (.int .u8 (f r j : Int))
  lt : ∀ r j, f r j < 256

theorem build_start (w : World) (N : Nat) (A : Nat → Option Addr) (L C : Nat → Nat) (f : Nat → Nat → Nat) (hf : ∀ r j, f r j < 256) : Build w (w.alloc (.cells (madeCells #[.slice none 0 0] N) 22)) N 0 A L C f := by
  have h := World.rowIs_made w (.slice none 0 0) N 22
  exact ⟨(Below.refl _ _).alloc (Nat.le_refl _) _, by simp, fun j => h.frozen j, fun r hr => ⟨_, h.cell hr⟩, fun r hr => absurd hr (Nat.not_lt_zero _), fun r hr => absurd hr (Nat.not_lt_zero _), hf⟩

theorem Build.more {w0 w w' : World} {N i B : Nat} {A : Nat → Option Addr} {L C : Nat → Nat} {f : Nat → Nat → Nat} (h : Build w0 w N i A L C f) (hB : w.heap.size ≤ B) (k : Below B w w') : Build w0 w' N i A L C f := by
  have hb : w0.heap.size < B := Nat.lt_of_lt_of_le h.hb hB
  refine ⟨h.below.trans (k.mono (Nat.le_of_lt hb)), Nat.lt_of_lt_of_le h.hb k.size, fun j => (k.frozen (by exact hb)).trans (h.fb j), fun r hr => ?_, fun r hr => (k.cell (by exact hb)).trans (h.top r hr), fun r hr => ?_, h.lt⟩
  · obtain ⟨u, hu⟩ := h.there r hr
    exact ⟨u, (k.cell (by exact hb)).trans hu⟩
  · rcases h.row r hr with h0 | ⟨g, o, h1, h2, h3, h4⟩
    · exact .inl h0
    · exact .inr ⟨g, o, h1, h2, Nat.lt_of_lt_of_le h3 k.size, fun j hj => (k.cell (by exact Nat.lt_of_lt_of_le h3 hB)).trans (h4 j hj)⟩

theorem Build.congr {w0 w : World} {N i : Nat} {A : Nat → Option Addr} {L L' C : Nat → Nat} {f f' : Nat → Nat → Nat} (h : Build w0 w N i A L C f) (hL : ∀ r, r < i → L r = L' r) (hf : ∀ r, r < i → ∀ j, j < L r → f r j = f' r j) (lt : ∀ r j, f' r j < 256) : Build w0 w N i A L' C f' :=
  ⟨h.below, h.hb, h.fb, h.there, fun r hr => by rw [← hL r hr]; exact h.top r hr, fun r hr => by
    rcases h.row r hr with h0 | ⟨g, o, h1, h2, h3, h4⟩
    · exact .inl ((hL r hr).symm.trans h0)
    · exact .inr ⟨g, o, h1, h2, h3, fun j hj => by
        have hj' : j < L r := by rw [hL r hr]; exact hj
        rw [← hf r hr j hj']; exact h4 j hj'⟩, lt⟩

/- A list is laid at a place: a new one, or one anew. -/
theorem Build.put {w0 w : World} {N i : Nat} {A : Nat → Option Addr} {L C : Nat → Nat} {f : Nat → Nat → Nat} (h : Build w0 w N i A L C f) {r i' l c : Nat} {a : Option Addr} {f' : Nat → Nat} (hr : r < N) (hi : ∀ s, s < i' → s = r ∨ s < i)
    (hrow : l = 0 ∨ ∃ g o, a = some ⟨g, o, none⟩ ∧ g ≠ w0.heap.size ∧ g < w.heap.size ∧ ∀ j, j < l → w.cell? ⟨g, o + j, none⟩ = some (.int .u8 (f' j : Int))) (hl : ∀ j, f' j < 256) :
    Build w0 (w.setCell ⟨w0.heap.size, r, none⟩ (.slice a l c)) N i' (fun s => if s = r then a else A s) (fun s => if s = r then l else L s) (fun s => if s = r then c else C s) (fun s j => if s = r then f' j else f s j) := by
  have t : Touch w0.heap.size w (w.setCell ⟨w0.heap.size, r, none⟩ (.slice a l c)) := (Touch.refl _ w).setCell (p := ⟨w0.heap.size, r, none⟩) rfl _
  refine ⟨h.below.setCell (Nat.le_refl _) _, by simpa using h.hb, fun j => by simpa using h.fb j, fun s hs => ?_, fun s hs => ?_, fun s hs => ?_, fun s j => ?_⟩
  · obtain ⟨u, hu⟩ := h.there s hs
    exact cell?_setCell_some hu
  · by_cases e : s = r
    · subst e
      obtain ⟨u, hu⟩ := h.there s hr
      simpa using World.cell?_setCell_same _ _ _ hu
    · simp only [e, if_false]
      rw [World.cell?_setCell_other _ _ _ _ (fun h => e (by injection h with _ h2 _; exact h2.symm))]
      exact h.top s ((hi s hs).resolve_left e)
  · by_cases e : s = r
    · subst e
      simp only [if_true]
      rcases hrow with h0 | ⟨g, o, h1, h2, h3, h4⟩
      · exact .inl h0
      · exact .inr ⟨g, o, h1, h2, by simpa using h3, fun j hj => (t.cell h2).trans (h4 j hj)⟩
    · simp only [e, if_false]
      rcases h.row s ((hi s hs).resolve_left e) with h0 | ⟨g, o, h1, h2, h3, h4⟩
      · exact .inl h0
      · exact .inr ⟨g, o, h1, h2, by simpa using h3, fun j hj => (t.cell h2).trans (h4 j hj)⟩
  · by_cases e : s = r
    · simpa [e] using hl j
    · simpa [e] using h.lt s j

theorem Build.rowAt {w0 w : World} {N i : Nat} {A : Nat → Option Addr} {L C : Nat → Nat} {f : Nat → Nat → Nat} (h : Build w0 w N i A L C f) {r : Nat} (hr : r < i) : RowAt w (A r) (L r) (f r) := by
  rcases h.row r hr with h0 | ⟨g, o, h1, _, h3, h4⟩
  · exact .inl h0
  · exact .inr ⟨g, o, h1, h3, h4⟩

theorem Build.grid {w0 w : World} {N : Nat} {A : Nat → Option Addr} {L C : Nat → Nat} {f : Nat → Nat → Nat} (h : Build w0 w N N A L C f) : IsGrid w (some ⟨w0.heap.size, 0, none⟩) N A L C f :=
  ⟨.inr ⟨w0.heap.size, 0, rfl, h.hb, fun r hr => by rw [Nat.zero_add]; exact h.top r hr⟩, fun r hr => h.rowAt hr, h.lt⟩

theorem IsGrid.congr {w : World} {a : Option Addr} {n : Nat} {A : Nat → Option Addr} {L L' C : Nat → Nat} {f f' : Nat → Nat → Nat} (h : IsGrid w a n A L C f) (hL : ∀ r, r < n → L r = L' r) (hf : ∀ r, r < n → ∀ j, j < L r → f r j = f' r j) (lt : ∀ r j, f' r j < 256) : IsGrid w a n A L' C f' := by
  refine ⟨?_, fun r hr => ?_, lt⟩
  · rcases h.1 with h0 | ⟨b, o, h1, h2, h3⟩
    · exact .inl h0
    · exact .inr ⟨b, o, h1, h2, fun r hr => by rw [← hL r hr]; exact h3 r hr⟩
  · rcases h.2.1 r hr with h0 | ⟨g, o, h1, h2, h3⟩
    · exact .inl ((hL r hr).symm.trans h0)
    · exact .inr ⟨g, o, h1, h2, fun j hj => by
        have hj' : j < L r := by rw [hL r hr]; exact hj
        rw [← hf r hr j hj']; exact h3 j hj'⟩

/- The first ones alone; those from a place on. -/
theorem IsGrid.take {w : World} {a : Option Addr} {n k : Nat} {A : Nat → Option Addr} {L C : Nat → Nat} {f : Nat → Nat → Nat} (h : IsGrid w a n A L C f) (hk : k ≤ n) : IsGrid w a k A L C f := by
  refine ⟨?_, fun r hr => h.2.1 r (by omega), h.2.2⟩
  rcases h.1 with h0 | ⟨b, o, h1, h2, h3⟩
  · exact .inl (by omega)
  · exact .inr ⟨b, o, h1, h2, fun r hr => h3 r (by omega)⟩

theorem IsGrid.drop {w : World} {b o n k : Nat} {A : Nat → Option Addr} {L C : Nat → Nat} {f : Nat → Nat → Nat} (h : IsGrid w (some ⟨b, o, none⟩) n A L C f) (hk : k ≤ n) :
    IsGrid w (some ⟨b, o + k, none⟩) (n - k) (fun r => A (k + r)) (fun r => L (k + r)) (fun r => C (k + r)) (fun r => f (k + r)) := by
  refine ⟨?_, fun r hr => h.2.1 (k + r) (by omega), fun r j => h.2.2 _ j⟩
  rcases h.1 with h0 | ⟨b', o', h1, h2, h3⟩
  · exact .inl (by omega)
  · injection h1 with h1
    injection h1 with e1 e2 _
    subst e1; subst e2
    exact .inr ⟨b, o + k, rfl, h2, fun r hr => by rw [Nat.add_assoc]; exact h3 (k + r) (by omega)⟩

theorem IsGrid.below' {w w' : World} {a : Option Addr} {len B : Nat} {A : Nat → Option Addr} {L C : Nat → Nat} {f : Nat → Nat → Nat} (h : IsGrid w a len A L C f) (hB : w.heap.size ≤ B) (k : Below B w w') : IsGrid w' a len A L C f :=
  h.below (k.mono hB)

theorem Mat.grid {w : World} {b o n m : Nat} {G O C : Nat → Nat} {f : Nat → Nat → Nat} (h : Mat w b o n m G O C f) : IsGrid w (some ⟨b, o, none⟩) n (fun r => some ⟨G r, O r, none⟩) (fun _ => m) C f :=
  ⟨h.tops, fun r hr => h.row hr, h.lt⟩

theorem grid_tops {w : World} {b o n : Nat} {A : Nat → Option Addr} {L C : Nat → Nat} {f : Nat → Nat → Nat} (h : IsGrid w (some ⟨b, o, none⟩) n A L C f) {r : Nat} (hr : r < n) : w.cell? ⟨b, o + r, none⟩ = some (.slice (A r) (L r) (C r)) := by
  rcases h.1 with h0 | ⟨b', o', h1, h2, h3⟩
  · omega
  · injection h1 with h1
    injection h1 with e1 e2 _
    subst e1; subst e2
    exact h3 r hr

theorem grid_some {w : World} {a : Option Addr} {n : Nat} {A : Nat → Option Addr} {L C : Nat → Nat} {f : Nat → Nat → Nat} (h : IsGrid w a n A L C f) (hn : 0 < n) : ∃ b o, a = some ⟨b, o, none⟩ ∧ b < w.heap.size := by
  rcases h.1 with h0 | ⟨b, o, h1, h2, _⟩
  · omega
  · exact ⟨b, o, h1, h2⟩

theorem row_lt {w : World} {a : Option Addr} {n : Nat} {f : Nat → Nat} (h : RowAt w a n f) : n = 0 ∨ ∃ g o, a = some ⟨g, o, none⟩ ∧ g < w.heap.size ∧ ∀ j, j < n → w.cell? ⟨g, o + j, none⟩ = some (.int .u8 (f j : Int)) := h

end Go.Proofs.Ytmlaloadeeohbaa
