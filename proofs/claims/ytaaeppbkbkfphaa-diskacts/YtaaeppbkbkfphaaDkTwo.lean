/-
  Both disks side by side: what each call leaves of both.
  Conditions: none.
-/
import Derived.Test.YtaaeppbkbkfphaaDkRefRot
namespace Go.Proofs.Ytaaeppbkbkfphaa
open Go.RowKit By Dk
set_option linter.unusedVariables false
set_option linter.unusedSimpArgs false

structure Two (B : Nat) (w0 w : World) (F G : Nat → Prop) (p r n m1 : Nat) (f1 A1 : Nat → Nat) (D1 : Nat → Nat → Nat) (m2 : Nat) (f2 A2 : Nat → Nat) (D2 : Nat → Nat → Nat) : Prop where
  bel : Below B w0 w
  size : B ≤ w.heap.size
  fF : ∀ k, F k → B ≤ k
  fG : ∀ k, G k → B ≤ k
  dis : ∀ k, F k → ¬ G k
  pd : Pd w F p n m1 f1 A1 D1
  rd : Rd w G r n m2 f2 A2 D2

section
variable {B : Nat} {w0 w w' : World} {F G F' G' : Nat → Prop} {p r n m1 : Nat} {f1 A1 : Nat → Nat} {D1 : Nat → Nat → Nat} {m2 : Nat} {f2 A2 : Nat → Nat} {D2 : Nat → Nat → Nat} {m : Nat} {f A : Nat → Nat} {D : Nat → Nat → Nat}

theorem Two.prog (h : Two B w0 w F G p r n m1 f1 A1 D1 m2 f2 A2 D2) (T : Turns F w w') (hp : Pd w' F' p n m f A D) (hF : ∀ k, F' k → F k ∨ w.heap.size ≤ k) : Two B w0 w' F' G p r n m f A D m2 f2 A2 D2 :=
  ⟨h.bel.trans (T.below h.fF h.size), Nat.le_trans h.size T.size, fun k hk => by
    rcases hF k hk with e | e
    · exact h.fF k e
    · exact Nat.le_trans h.size e, h.fG, fun k hk hg => by
    rcases hF k hk with e | e
    · exact h.dis k e hg
    · have := h.rd.flt k hg
      omega, hp, h.rd.turns T (fun k hg hf => h.dis k hf hg)⟩

theorem Two.ref (h : Two B w0 w F G p r n m1 f1 A1 D1 m2 f2 A2 D2) (T : Turns G w w') (hr : Rd w' G' r n m f A D) (hG : ∀ k, G' k → G k ∨ w.heap.size ≤ k) : Two B w0 w' F G' p r n m1 f1 A1 D1 m f A D :=
  ⟨h.bel.trans (T.below h.fG h.size), Nat.le_trans h.size T.size, h.fF, fun k hk => by
    rcases hG k hk with e | e
    · exact h.fG k e
    · exact Nat.le_trans h.size e, fun k hf hk => by
    rcases hG k hk with e | e
    · exact h.dis k hf e
    · have := h.pd.flt k hf
      omega, h.pd.turns T (fun k hf hg => h.dis k hf hg), hr⟩

theorem Two.below (h : Two B w0 w F G p r n m1 f1 A1 D1 m2 f2 A2 D2) (t : Below w.heap.size w w') : Two B w0 w' F G p r n m1 f1 A1 D1 m2 f2 A2 D2 :=
  ⟨h.bel.trans (t.mono h.size), Nat.le_trans h.size t.size, h.fF, h.fG, h.dis, h.pd.below t, h.rd.below t⟩

theorem Two.turns {H : Nat → Prop} (h : Two B w0 w F G p r n m1 f1 A1 D1 m2 f2 A2 D2) (t : Turns H w w') (hB : ∀ k, H k → B ≤ k) (h1 : ∀ k, F k → ¬ H k) (h2 : ∀ k, G k → ¬ H k) : Two B w0 w' F G p r n m1 f1 A1 D1 m2 f2 A2 D2 :=
  ⟨h.bel.trans (t.below hB h.size), Nat.le_trans h.size t.size, h.fF, h.fG, h.dis, h.pd.turns t h1, h.rd.turns t h2⟩

theorem Two.drew (h : Two B w0 w F G p r n m1 f1 A1 D1 m2 f2 A2 D2) : Two B w0 w.drew F G p r n m1 f1 A1 D1 m2 f2 A2 D2 :=
  ⟨⟨h.bel.os, h.bel.tape, h.bel.output, h.bel.size, h.bel.block⟩, h.size, h.fF, h.fG, h.dis, h.pd.drewN 1, h.rd.drewN 1⟩

theorem Two.drewN (h : Two B w0 w F G p r n m1 f1 A1 D1 m2 f2 A2 D2) (k : Nat) : Two B w0 (w.drewN k) F G p r n m1 f1 A1 D1 m2 f2 A2 D2 :=
  ⟨⟨h.bel.os, h.bel.tape, h.bel.output, h.bel.size, h.bel.block⟩, h.size, h.fF, h.fG, h.dis, h.pd.drewN k, h.rd.drewN k⟩

theorem Two.free (h : Two B w0 w F G p r n m1 f1 A1 D1 m2 f2 A2 D2) {k : Nat} (hk : w.heap.size ≤ k) : ¬ F k ∧ ¬ G k :=
  ⟨fun e => by have := h.pd.flt k e; omega, fun e => by have := h.rd.flt k e; omega⟩

end

def Both (B : Nat) (w0 w : World) (p r n m : Nat) : Prop := ∃ F G f A D, Two B w0 w F G p r n m f A D m f A D

theorem kept_fun {f A : Nat → Nat} {D : Nat → Nat → Nat} {c c' : Nat → Bool} (m : Nat) (h : ∀ i, c i = c' i) : kept f A D c m = kept f A D c' m := by
  have : c = c' := funext h
  rw [this]

/- A copy of a list of bools. -/
theorem info_b : (Try.prog.info? 4).map (fun i => (i.zero, i.size, i.bytes)) = some (some (.bool false), 1, 1) := by kernel_rfl

def boolsOf (h : Nat → Bool) (n : Nat) : List Value := (List.range n).map fun i => Value.bool (h i)

theorem bools_copy (w : World) (x : Option Addr) (p c : Nat) (h : Nat → Bool) (hl : BoolsAt w x p h) (hp : p ≤ 140737488351232) (hnil : x = none → p = 0 ∧ c = 0) :
    ∃ y cy w', (Builtin.append_ #[33, 33] 33 #[.slice (some ⟨w.heap.size, 0, none⟩) 0 0, .slice x p c]).run Try.prog (w.alloc (.cells #[] 4)) = .ok (.slice y p cy) w' ∧ Below w.heap.size w w' ∧ BoolsAt w' y p h ∧ (∀ a, y = some a → w.heap.size ≤ a.block) := by
  obtain ⟨i0, hi, hz0, hz1, hz2⟩ := info_parts info_b
  have hown : (w.alloc (.cells #[] 4)).ownsRow w.heap.size 4 1 (.slice (some ⟨w.heap.size, 0, none⟩) 0 0) 0 [] := ⟨rfl, .inr ⟨w.heap.size, 0, #[], rfl, Nat.le_refl _, heap_alloc_new _ _, Nat.le_refl _, Nat.zero_le _, rfl, rfl⟩⟩
  cases x with
  | none =>
    obtain ⟨rfl, rfl⟩ := hnil rfl
    have hr := run_append_owned_none (P := Try.prog) (w.alloc (.cells #[] 4)) w.heap.size 33 33 4 i0 1 Try.underlying33 hi _ 0 [] hown
    exact ⟨_, 0, _, hr, (Below.refl _ _).alloc (Nat.le_refl _) _, .inl rfl, fun a ha => by cases ha; exact Nat.le_refl _⟩
  | some ad =>
    obtain ⟨v', w', hr, h2, h3, h4⟩ := run_append_own (P := Try.prog) (w.alloc (.cells #[] 4)) w.heap.size 33 33 4 i0 (.bool false) 1 1 Try.underlying33 hi hz0 hz1 hz2 rfl (by decide) _ 0 [] hown
      ad p c (boolsOf h p) (by simp [boolsOf]) (fun j u hj => by
        have hjm : j < p := by
          have := (List.getElem?_eq_some_iff.1 hj).1
          simpa [boolsOf] using this
        have e : u = .bool (h j) := by simp [boolsOf, hjm] at hj; exact hj.symm
        rcases hl with hl | ⟨b, o, hx, hb, hc⟩
        · omega
        · injection hx with hx
          subst hx
          rw [e, add_at]
          exact ((Below.refl w.heap.size w).alloc (Nat.le_refl _) _ |>.cell (by exact hb)).trans (hc j hjm)) (fun u hu => by
        simp [boolsOf] at hu
        obtain ⟨j, _, rfl⟩ := hu
        rfl) (by unfold maxLen; omega) (by omega) (by simp)
    rw [Nat.zero_add, List.nil_append] at h2
    have hb : Below w.heap.size w w' := ((Below.refl w.heap.size w).alloc (Nat.le_refl _) _).grown h3 (by simp) (fun k hk => (hown.lt k hk).1)
    rcases h2.2 with ⟨hv, h0⟩ | ⟨g, cy, cur, hv, h5, h6, _⟩
    · subst hv
      subst h0
      exact ⟨none, 0, w', hr, hb, .inl rfl, fun a ha => by cases ha⟩
    · subst hv
      refine ⟨_, cy, w', hr, hb, .inr ⟨g, 0, rfl, (Array.getElem?_eq_some_iff.1 h6).1, fun i hi => ?_⟩, fun a ha => by cases ha; exact h5⟩
      rw [Nat.zero_add, h2.cellAt i (by omega)]
      simp [boolsOf, hi]

end Go.Proofs.Ytaaeppbkbkfphaa
