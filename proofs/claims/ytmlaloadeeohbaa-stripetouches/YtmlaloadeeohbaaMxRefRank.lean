/-
  What the document's Rank does: a contract over plain numbers.
  Conditions: the rows lie in memory, 1 to 255 of them, of 1 to 255 elements.
-/
import Derived.Test.YtmlaloadeeohbaaMxRefId
import Derived.Test.YtmlaloadeeohbaaMxReduce
import Derived.Test.YtmlaloadeeohbaaMxOrders
namespace Go.Proofs.Ytmlaloadeeohbaa
open Go.RowKit Gf
set_option linter.unusedVariables false
set_option linter.unusedSimpArgs false
set_option maxRecDepth 100000

/- All cells of a row, appended to nothing. -/
theorem push_all (w : World) (sb so m c : Nat) (f : Nat → Nat) (hm : m ≤ 1000) (hsrc : ∀ j, j < m → w.cell? ⟨sb, so + j, none⟩ = some (.int .u8 (f j : Int))) (hsb : sb < w.heap.size) :
    ∃ R' w', (Builtin.append_ #[22, 22] 22 #[.slice (some ⟨w.heap.size, 0, none⟩) 0 0, .slice (some ⟨sb, so, none⟩) m c]).run Try.prog (w.alloc (.cells #[] 5)) = .ok R' w' ∧
      w'.ownsRow w.heap.size 5 1 R' m (bytesOf f m) ∧ Below w.heap.size w w' := by
  obtain ⟨i0, hi, hz0, hz1, hz2⟩ := info_parts info_byte
  have hown := (rowOf_start w f).own
  obtain ⟨v', w', hr, h2, h3, h4⟩ := run_append_own (P := Try.prog) (w.alloc (.cells #[] 5)) w.heap.size 22 22 5 i0 (.int .u8 0) 1 1 Try.underlying22 hi hz0 hz1 hz2 rfl (by decide) _ 0 (bytesOf f 0) hown
    ⟨sb, so, none⟩ m c (bytesOf f m) (by simp [bytesOf]) (fun j u hj => by
      have hjm : j < m := by
        have := (List.getElem?_eq_some_iff.1 hj).1
        simpa [bytesOf] using this
      have e : u = .int .u8 (f j : Int) := by simp [bytesOf, hjm] at hj; exact hj.symm
      have hadd : (⟨sb, so, none⟩ : Addr).add j = ⟨sb, so + j, none⟩ := by unfold Addr.add; split <;> simp_all
      rw [e, hadd]
      exact ((Below.refl w.heap.size w).alloc (Nat.le_refl _) _ |>.cell (by exact hsb)).trans (hsrc j hjm)) (fun u hu => by
      simp [bytesOf] at hu
      obtain ⟨j, _, rfl⟩ := hu
      rfl) (by unfold maxLen; omega) (by omega) (by simp)
  refine ⟨v', w', hr, ?_, ((Below.refl w.heap.size w).alloc (Nat.le_refl _) _).grown h3 (by simp) (fun k hk => (hown.lt k hk).1)⟩
  have e0 : bytesOf f 0 = [] := rfl
  rw [e0, List.nil_append, Nat.zero_add] at h2
  exact h2

theorem Grow.drewN {base : Nat} {w wr : World} {V : Value} {k m : Nat} {G C : Nat → Nat} {f : Nat → Nat → Nat} (h : Grow base w wr V k m G C f) (n : Nat) : Grow base w (wr.drewN n) V k m G C f :=
  ⟨below_drewN' h.below n, h.le, h.own, h.hG, h.inj, h.fG, h.cell, h.lt, h.cap, h.ty⟩

/- Rows that are done, and part of the next. -/
def elimTo (E : Nat → Nat → Nat) (d c i k : Nat) : Nat → Nat → Nat := fun s j => if s < i then elimF E d c s j else if s = i ∧ j < k then elimF E d c s j else E s j

theorem elimTo_lt {E : Nat → Nat → Nat} (hE : ∀ r j, E r j < 256) (d c i k s j : Nat) : elimTo E d c i k s j < 256 := by
  unfold elimTo
  split
  · exact elimF_lt d c hE s j
  · split
    · exact elimF_lt d c hE s j
    · exact hE s j

theorem elimTo_self (E : Nat → Nat → Nat) (d c i k j : Nat) (h : k ≤ j) : elimTo E d c i k i j = E i j := by
  unfold elimTo
  rw [if_neg (Nat.lt_irrefl _), if_neg (by omega)]

theorem elimTo_d (E : Nat → Nat → Nat) (d c i k j : Nat) (h : d < i) : elimTo E d c i k d j = E d j := by
  unfold elimTo elimF
  rw [if_pos h, if_neg (Nat.lt_irrefl _)]

theorem elim_step {base : Nat} {w : World} {b n m d c i k : Nat} {G C : Nat → Nat} {E : Nat → Nat → Nat} (hE : ∀ r j, E r j < 256) (h : Own base w b n m G C (elimTo E d c i k)) (hi : i < n) (hk : k < m) (hd : d < i) :
    Own base (w.setCell ⟨G i, k, none⟩ (.int .u8 ((E i k ^^^ tmul (tmul (E i c) (tinv (E d c))) (E d k) : Nat) : Int))) b n m G C (elimTo E d c i (k + 1)) := by
  have e0 : E i k ^^^ tmul (tmul (E i c) (tinv (E d c))) (E d k) = elimF E d c i k := by unfold elimF; rw [if_pos hd]
  rw [e0]
  refine (h.store hi hk (elimF_lt d c hE i k)).congr (fun s hs j hj => ?_) (elimTo_lt hE d c i _)
  unfold elimTo
  by_cases e : s = i
  · subst e
    by_cases e2 : j = k
    · subst e2; simp
    · by_cases e3 : j < k
      · simp [e2, e3]; intro h'; omega
      · simp [e2, e3]; intro h'; omega
  · simp [e]

theorem elim_row {base : Nat} {w : World} {b n m d c i : Nat} {G C : Nat → Nat} {E : Nat → Nat → Nat} (hE : ∀ r j, E r j < 256) (h : Own base w b n m G C (elimTo E d c i m)) : Own base w b n m G C (elimTo E d c (i + 1) 0) := by
  refine h.congr (fun s hs j hj => ?_) (elimTo_lt hE d c _ _)
  unfold elimTo
  by_cases e : s < i
  · rw [if_pos e, if_pos (by omega)]
  · rw [if_neg e]
    by_cases e2 : s = i
    · rw [if_pos ⟨e2, hj⟩, if_pos (by omega)]
    · rw [if_neg (by omega), if_neg (by omega), if_neg (by omega)]

theorem elim_start {base : Nat} {w : World} {b n m d c : Nat} {G C : Nat → Nat} {E : Nat → Nat → Nat} (h : Own base w b n m G C E) : Own base w b n m G C (elimTo E d c (d + 1) 0) := by
  refine h.congr (fun s hs j hj => ?_) (elimTo_lt h.lt d c _ _)
  unfold elimTo elimF
  by_cases e : s < d + 1
  · rw [if_pos e, if_neg (by omega)]
  · rw [if_neg e, if_neg (by omega)]

theorem elim_end {base : Nat} {w : World} {b n m d c : Nat} {G C : Nat → Nat} {E : Nat → Nat → Nat} (hE : ∀ r j, E r j < 256) (h : Own base w b n m G C (elimTo E d c n 0)) : Own base w b n m G C (elimF E d c) := by
  refine h.congr (fun s hs j hj => ?_) (elimF_lt d c hE)
  unfold elimTo
  rw [if_pos hs]

structure Rnk (base : Nat) (w wr : World) (b n m : Nat) (F : Nat → Nat → Nat) : Prop where
  below : Below base w wr
  own : ∃ G C, Own base wr b n m G C F

end Go.Proofs.Ytmlaloadeeohbaa
