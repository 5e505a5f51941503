/-
  Matrices as they lie in memory: read ('Mat'), and owned by a call from a block on ('Own'), and what stores, new blocks and draws make of them.
  Conditions: none.
-/
import Derived.Test.YtmlaloadeeohbaaGfRows
import Derived.Test.YtmlaloadeeohbaaMxPlain
import Derived.Deep.OwnRows
namespace Go.Proofs.Ytmlaloadeeohbaa
open Go.RowKit Gf
set_option linter.unusedVariables false

structure Mat (w : World) (b o n m : Nat) (G O C : Nat → Nat) (f : Nat → Nat → Nat) : Prop where
  hb : b < w.heap.size
  hG : ∀ r, r < n → G r < w.heap.size
  top : ∀ r, r < n → w.cell? ⟨b, o + r, none⟩ = some (.slice (some ⟨G r, O r, none⟩) m (C r))
  cell : ∀ r, r < n → ∀ j, j < m → w.cell? ⟨G r, O r + j, none⟩ = some (.int .u8 (f r j : Int))
  lt : ∀ r j, f r j < 256

structure Own (base : Nat) (w : World) (b n m : Nat) (G C : Nat → Nat) (f : Nat → Nat → Nat) : Prop where
  hb : base ≤ b ∧ b < w.heap.size
  hG : ∀ r, r < n → base ≤ G r ∧ G r < w.heap.size ∧ G r ≠ b
  inj : ∀ r s, r < n → s < n → G r = G s → r = s
  fb : ∀ i, w.frozen? ⟨b, i, none⟩ = false
  fG : ∀ r, r < n → ∀ j, w.frozen? ⟨G r, j, none⟩ = false
  top : ∀ r, r < n → w.cell? ⟨b, r, none⟩ = some (.slice (some ⟨G r, 0, none⟩) m (C r))
  cell : ∀ r, r < n → ∀ j, j < m → w.cell? ⟨G r, j, none⟩ = some (.int .u8 (f r j : Int))
  lt : ∀ r j, f r j < 256
  cap : ∀ r, r < n → m ≤ C r

structure Touch (g : Nat) (w w' : World) : Prop where
  os : w'.os = w.os
  tape : w'.tape = w.tape
  output : w'.output = w.output
  size : w'.heap.size = w.heap.size
  block : ∀ k, k ≠ g → w'.heap[k]? = w.heap[k]?

theorem Touch.refl (g : Nat) (w : World) : Touch g w w := ⟨rfl, rfl, rfl, rfl, fun _ _ => rfl⟩

theorem Touch.trans {g : Nat} {a b c : World} (h : Touch g a b) (k : Touch g b c) : Touch g a c :=
  ⟨k.os.trans h.os, k.tape.trans h.tape, k.output.trans h.output, k.size.trans h.size, fun i hi => (k.block i hi).trans (h.block i hi)⟩

theorem Touch.drew {g : Nat} {a w : World} (h : Touch g a w) : Touch g a w.drew := ⟨h.os, h.tape, h.output, h.size, h.block⟩

theorem Touch.drewN {g : Nat} {a w : World} (h : Touch g a w) (n : Nat) : Touch g a (w.drewN n) := ⟨h.os, h.tape, h.output, h.size, h.block⟩

theorem Touch.setCell {g : Nat} {a w : World} (h : Touch g a w) {p : Addr} (hp : p.block = g) (u : Value) : Touch g a (w.setCell p u) :=
  h.trans ⟨rfl, rfl, rfl, by simp [World.setCell], fun k hk => Below.heap_setCell _ _ _ _ (by rw [hp]; exact hk)⟩

theorem Touch.below {g base : Nat} {w w' : World} (h : Touch g w w') (hg : base ≤ g) : Below base w w' :=
  ⟨h.os, h.tape, h.output, Nat.le_of_eq h.size.symm, fun k hk => h.block k (by omega)⟩

theorem Touch.cell {g : Nat} {w w' : World} (h : Touch g w w') {p : Addr} (hp : p.block ≠ g) : w'.cell? p = w.cell? p := World.cell?_of_block (w := w) (h.block p.block hp)

theorem Touch.frozen {g : Nat} {w w' : World} (h : Touch g w w') {p : Addr} (hp : p.block ≠ g) : w'.frozen? p = w.frozen? p := World.frozen?_of_block (w := w) (h.block p.block hp)

theorem below_drewN' {B : Nat} {a w : World} (h : Below B a w) (n : Nat) : Below B a (w.drewN n) := ⟨h.os, h.tape, h.output, h.size, h.block⟩

theorem Mat.below {w w' : World} {b o n m B : Nat} {G O C : Nat → Nat} {f : Nat → Nat → Nat} (h : Mat w b o n m G O C f) (hB : w.heap.size ≤ B) (k : Below B w w') : Mat w' b o n m G O C f :=
  ⟨Nat.lt_of_lt_of_le h.hb k.size, fun r hr => Nat.lt_of_lt_of_le (h.hG r hr) k.size,
    fun r hr => (k.cell (Nat.lt_of_lt_of_le h.hb hB)).trans (h.top r hr),
    fun r hr j hj => (k.cell (Nat.lt_of_lt_of_le (h.hG r hr) hB)).trans (h.cell r hr j hj), h.lt⟩

theorem Mat.row {w : World} {b o n m : Nat} {G O C : Nat → Nat} {f : Nat → Nat → Nat} (h : Mat w b o n m G O C f) {r : Nat} (hr : r < n) : RowAt w (some ⟨G r, O r, none⟩) m (f r) :=
  .inr ⟨G r, O r, rfl, h.hG r hr, h.cell r hr⟩

theorem Own.mat {base : Nat} {w : World} {b n m : Nat} {G C : Nat → Nat} {f : Nat → Nat → Nat} (h : Own base w b n m G C f) : Mat w b 0 n m G (fun _ => 0) C f :=
  ⟨h.hb.2, fun r hr => (h.hG r hr).2.1, fun r hr => by rw [Nat.zero_add]; exact h.top r hr, fun r hr j hj => by rw [Nat.zero_add]; exact h.cell r hr j hj, h.lt⟩

theorem Own.row {base : Nat} {w : World} {b n m : Nat} {G C : Nat → Nat} {f : Nat → Nat → Nat} (h : Own base w b n m G C f) {r : Nat} (hr : r < n) : RowAt w (some ⟨G r, 0, none⟩) m (f r) := h.mat.row hr

theorem Own.of_blocks {base : Nat} {w w' : World} {b n m : Nat} {G C : Nat → Nat} {f : Nat → Nat → Nat} (h : Own base w b n m G C f) (hs : w.heap.size ≤ w'.heap.size)
    (hk : ∀ k, k < w.heap.size → w'.heap[k]? = w.heap[k]?) : Own base w' b n m G C f :=
  ⟨⟨h.hb.1, Nat.lt_of_lt_of_le h.hb.2 hs⟩, fun r hr => ⟨(h.hG r hr).1, Nat.lt_of_lt_of_le (h.hG r hr).2.1 hs, (h.hG r hr).2.2⟩, h.inj,
    fun i => (World.frozen?_of_block (w := w) (hk b h.hb.2)).trans (h.fb i),
    fun r hr j => (World.frozen?_of_block (w := w) (hk _ (h.hG r hr).2.1)).trans (h.fG r hr j),
    fun r hr => (World.cell?_of_block (w := w) (hk b h.hb.2)).trans (h.top r hr),
    fun r hr j hj => (World.cell?_of_block (w := w) (hk _ (h.hG r hr).2.1)).trans (h.cell r hr j hj), h.lt, h.cap⟩

theorem Own.under {base K : Nat} {w w' : World} {b n m : Nat} {G C : Nat → Nat} {f : Nat → Nat → Nat} (h : Own base w b n m G C f) (hbK : b < K) (hGK : ∀ r, r < n → G r < K) (k : Below K w w') : Own base w' b n m G C f :=
  ⟨⟨h.hb.1, Nat.lt_of_lt_of_le h.hb.2 k.size⟩, fun r hr => ⟨(h.hG r hr).1, Nat.lt_of_lt_of_le (h.hG r hr).2.1 k.size, (h.hG r hr).2.2⟩, h.inj,
    fun i => (k.frozen (by exact hbK)).trans (h.fb i), fun r hr j => (k.frozen (by exact hGK r hr)).trans (h.fG r hr j),
    fun r hr => (k.cell (by exact hbK)).trans (h.top r hr), fun r hr j hj => (k.cell (by exact hGK r hr)).trans (h.cell r hr j hj), h.lt, h.cap⟩

theorem Own.below {base B : Nat} {w w' : World} {b n m : Nat} {G C : Nat → Nat} {f : Nat → Nat → Nat} (h : Own base w b n m G C f) (hB : w.heap.size ≤ B) (k : Below B w w') : Own base w' b n m G C f :=
  h.of_blocks k.size (fun i hi => k.block i (Nat.lt_of_lt_of_le hi hB))

theorem Own.drewN {base : Nat} {w : World} {b n m : Nat} {G C : Nat → Nat} {f : Nat → Nat → Nat} (h : Own base w b n m G C f) (k : Nat) : Own base (w.drewN k) b n m G C f := h.of_blocks (Nat.le_refl _) (fun _ _ => rfl)

theorem Own.drew {base : Nat} {w : World} {b n m : Nat} {G C : Nat → Nat} {f : Nat → Nat → Nat} (h : Own base w b n m G C f) : Own base w.drew b n m G C f := h.of_blocks (Nat.le_refl _) (fun _ _ => rfl)

theorem Own.congr {base : Nat} {w : World} {b n m : Nat} {G C : Nat → Nat} {f g : Nat → Nat → Nat} (h : Own base w b n m G C f) (e : ∀ r, r < n → ∀ j, j < m → f r j = g r j) (l : ∀ r j, g r j < 256) : Own base w b n m G C g :=
  ⟨h.hb, h.hG, h.inj, h.fb, h.fG, h.top, fun r hr j hj => by rw [← e r hr j hj]; exact h.cell r hr j hj, l, h.cap⟩

/- One row has turned. -/
theorem Own.touch {base : Nat} {w w' : World} {b n m : Nat} {G C : Nat → Nat} {f : Nat → Nat → Nat} (h : Own base w b n m G C f) {r : Nat} {f' : Nat → Nat} (hr : r < n) (t : Touch (G r) w w')
    (hf : ∀ j, w'.frozen? ⟨G r, j, none⟩ = false) (hc : ∀ j, j < m → w'.cell? ⟨G r, j, none⟩ = some (.int .u8 (f' j : Int))) (hl : ∀ j, f' j < 256) :
    Own base w' b n m G C (fun s j => if s = r then f' j else f s j) := by
  have hne := (h.hG r hr).2.2
  have hs : w'.heap.size = w.heap.size := t.size
  refine ⟨⟨h.hb.1, by rw [hs]; exact h.hb.2⟩, fun s hsn => ⟨(h.hG s hsn).1, by rw [hs]; exact (h.hG s hsn).2.1, (h.hG s hsn).2.2⟩, h.inj, fun i => (t.frozen (fun e => hne e.symm)).trans (h.fb i), fun s hsn j => ?_, fun s hsn => (t.cell (fun e => hne e.symm)).trans (h.top s hsn), fun s hsn j hj => ?_, fun s j => ?_, h.cap⟩
  · by_cases e : s = r
    · subst e; exact hf j
    · exact (t.frozen (fun e' => e (h.inj _ _ hsn hr e'))).trans (h.fG s hsn j)
  · by_cases e : s = r
    · subst e; simpa using hc j hj
    · simp only [e, if_false]
      exact (t.cell (fun e' => e (h.inj _ _ hsn hr e'))).trans (h.cell s hsn j hj)
  · by_cases e : s = r
    · simpa [e] using hl j
    · simpa [e] using h.lt s j

/- A store into a row. -/
theorem Own.store {base : Nat} {w : World} {b n m : Nat} {G C : Nat → Nat} {f : Nat → Nat → Nat} (h : Own base w b n m G C f) {r j v : Nat} (hr : r < n) (hj : j < m) (hv : v < 256) :
    Own base (w.setCell ⟨G r, j, none⟩ (.int .u8 (v : Int))) b n m G C (fun s i => if s = r ∧ i = j then v else f s i) := by
  have t : Touch (G r) w (w.setCell ⟨G r, j, none⟩ (.int .u8 (v : Int))) := (Touch.refl (G r) w).setCell (p := ⟨G r, j, none⟩) rfl _
  refine (h.touch (f' := fun i => if i = j then v else f r i) hr t (fun i => by simpa using h.fG r hr i) (fun i hi => ?_) (fun i => ?_)).congr (fun s _ i _ => ?_) (fun s i => ?_)
  · by_cases e : i = j
    · subst e; simpa using World.cell?_setCell_same _ _ _ (h.cell r hr i hi)
    · rw [World.cell?_setCell_other _ _ _ _ (fun h => e (by injection h with _ h2 _; exact h2.symm))]
      simpa [e] using h.cell r hr i hi
  · by_cases e : i = j
    · simpa [e] using hv
    · simpa [e] using h.lt r i
  · by_cases e : s = r
    · subst e
      by_cases e2 : i = j <;> simp [e2]
    · simp [e]
  · by_cases e : s = r ∧ i = j
    · simpa [e] using hv
    · simp only [e, if_false]; exact h.lt s i

/- A row is laid anew. -/
theorem Own.setTop {base : Nat} {w : World} {b n m : Nat} {G C : Nat → Nat} {f : Nat → Nat → Nat} (h : Own base w b n m G C f) {r g c : Nat} {f' : Nat → Nat} (hr : r < n) (hg : base ≤ g ∧ g < w.heap.size ∧ g ≠ b)
    (hnew : ∀ s, s < n → s ≠ r → G s ≠ g) (hf : ∀ j, w.frozen? ⟨g, j, none⟩ = false) (hc : ∀ j, j < m → w.cell? ⟨g, j, none⟩ = some (.int .u8 (f' j : Int))) (hl : ∀ j, f' j < 256) (hcap : m ≤ c) :
    Own base (w.setCell ⟨b, r, none⟩ (.slice (some ⟨g, 0, none⟩) m c)) b n m (fun s => if s = r then g else G s) (fun s => if s = r then c else C s) (fun s j => if s = r then f' j else f s j) := by
  have t : Touch b w (w.setCell ⟨b, r, none⟩ (.slice (some ⟨g, 0, none⟩) m c)) := (Touch.refl b w).setCell (p := ⟨b, r, none⟩) rfl _
  refine ⟨⟨h.hb.1, by simpa using h.hb.2⟩, fun s hs => ?_, fun s u hs hu => ?_, fun i => by simpa using h.fb i, fun s hs j => ?_, fun s hs => ?_, fun s hs j hj => ?_, fun s j => ?_, fun s hs => ?_⟩
  · by_cases e : s = r
    · simpa [e] using hg
    · simpa [e] using h.hG s hs
  · by_cases e : s = r
    · by_cases e2 : u = r
      · intro _; omega
      · simp only [e, e2, if_true, if_false]; intro h'; exact absurd h'.symm (hnew u hu e2)
    · by_cases e2 : u = r
      · simp only [e, e2, if_true, if_false]; intro h'; exact absurd h' (hnew s hs e)
      · simp only [e, e2, if_false]; exact h.inj s u hs hu
  · by_cases e : s = r
    · simpa [e] using hf j
    · simpa [e] using h.fG s hs j
  · by_cases e : s = r
    · subst e; simpa using World.cell?_setCell_same _ _ _ (h.top s hs)
    · simp only [e, if_false]
      rw [World.cell?_setCell_other _ _ _ _ (fun h => e (by injection h with _ h2 _; exact h2.symm))]
      exact h.top s hs
  · by_cases e : s = r
    · simp only [e, if_true]
      exact (t.cell hg.2.2).trans (hc j hj)
    · simp only [e, if_false]
      exact (t.cell (h.hG s hs).2.2).trans (h.cell s hs j hj)
  · by_cases e : s = r
    · simpa [e] using hl j
    · simpa [e] using h.lt s j
  · by_cases e : s = r
    · simpa [e] using hcap
    · simpa [e] using h.cap s hs

/- Two rows change places. -/
theorem swp_lt {d i s n : Nat} (hd : d < n) (hi : i < n) (hs : s < n) : swp d i s < n := by
  unfold swp
  by_cases e : s = d
  · simpa [e] using hi
  · by_cases e2 : s = i
    · subst e2; rw [if_neg e, if_pos rfl]; exact hd
    · simpa [e, e2] using hs

theorem swp_inj {d i s u : Nat} (h : swp d i s = swp d i u) : s = u := by
  unfold swp at h
  split at h <;> split at h <;> (try split at h) <;> (try split at h) <;> omega

theorem Own.swap {base : Nat} {w w' : World} {b n m : Nat} {G C : Nat → Nat} {f : Nat → Nat → Nat} (h : Own base w b n m G C f) {d i : Nat} (hd : d < n) (hi : i < n) (t : Touch b w w')
    (hf : ∀ j, w'.frozen? ⟨b, j, none⟩ = false) (hc : ∀ s, s < n → w'.cell? ⟨b, s, none⟩ = w.cell? ⟨b, swp d i s, none⟩) :
    Own base w' b n m (fun s => G (swp d i s)) (fun s => C (swp d i s)) (fun s => f (swp d i s)) := by
  refine ⟨⟨h.hb.1, by rw [t.size]; exact h.hb.2⟩, fun s hs => ?_, fun s u hs hu e => ?_, hf, fun s hs j => ?_, fun s hs => ?_, fun s hs j hj => ?_, fun s j => h.lt _ j, fun s hs => h.cap _ (swp_lt hd hi hs)⟩
  · have := h.hG _ (swp_lt hd hi hs)
    exact ⟨this.1, by rw [t.size]; exact this.2.1, this.2.2⟩
  · exact swp_inj (h.inj _ _ (swp_lt hd hi hs) (swp_lt hd hi hu) e)
  · exact (t.frozen (h.hG _ (swp_lt hd hi hs)).2.2).trans (h.fG _ (swp_lt hd hi hs) j)
  · rw [hc s hs]; exact h.top _ (swp_lt hd hi hs)
  · exact (t.cell (h.hG _ (swp_lt hd hi hs)).2.2).trans (h.cell _ (swp_lt hd hi hs) j hj)

end Go.Proofs.Ytmlaloadeeohbaa
