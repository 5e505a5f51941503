/-
  Ballots and acceptors as they lie in memory; what the smallest calls answer.
  Conditions: none.
-/
import Derived.Test.YtlfeafbpknbbfaaFlBase
import Derived.Test.YtlfeafbpknbbfaaMxOrders
import Derived.Test.YtlfeafbpknbbfaaBaPlain
import Derived.Laws.StructEq
namespace Go.Proofs.Ytlfeafbpknbbfaa.Ba
open Go.RowKit By Fl
set_option linter.unusedVariables false
set_option linter.unusedSimpArgs false
set_option maxRecDepth 100000

def wfi (a : Int) : Prop := (Lit.int .i64 a).wf = true

theorem keep {w v : World} {b o : Nat} {x : Value} (hb : Below w.heap.size w v) (h : w.cell? ⟨b, o, none⟩ = some x) : v.cell? ⟨b, o, none⟩ = some x := (hb.cell (p := ⟨b, o, none⟩) (cell_lt' h)).trans h

theorem on {a b c : World} (h : Below a.heap.size a b) (k : Below b.heap.size b c) : Below a.heap.size a c := h.trans (k.mono h.size)

theorem nz (n : Nat) : ((n : Int) == 0) = decide (n = 0) := by
  by_cases h : n = 0
  · subst h; rfl
  · have h2 : ¬ (n : Int) = 0 := by omega
    simp [h, h2]

def bt (b : Bt) : Value := .agg #[.int .i64 b.1, .int .i64 b.2]

def ltb (a b : Bt) : Bool := if a.1 = b.1 then decide (a.2 < b.2) else decide (a.1 < b.1)
def mayb (b : Bt) : Bool := decide (1 ≤ b.1) && decide (b.1 ≤ 2147483647) && decide (0 ≤ b.2) && decide (b.2 < 7)
def zb (b : Bt) : Bool := decide (b.1 = 0) && decide (b.2 = 0)
def mzb (b : Bt) : Bool := zb b || mayb b

theorem eq_bt (a b c d : Int) (w : World) : (binOp .eql 23 (.agg #[.int .i64 a, .int .i64 b]) (.agg #[.int .i64 c, .int .i64 d])).run Try.prog w = .ok (.bool (decide (a = c) && decide (b = d))) w := by
  go_simp
  by_cases e1 : a = c <;> by_cases e2 : b = d <;> simp [e1, e2]

theorem less_any (a b : Bt) (w : World) : Calls Try.prog 8 #[bt a, bt b] w fun e w' => e = .returned (.bool (ltb a b)) ∧ Below w.heap.size w w' := by
  obtain ⟨r, m⟩ := a
  obtain ⟨s, n⟩ := b
  unfold ltb bt
  have hB : ∀ x y, Below w.heap.size w ((w.alloc x).alloc y) := fun x y => ((Below.refl _ w).alloc (Nat.le_refl _) _).alloc (by simp) _
  by_cases h : r = s
  · subst h
    go_enter Try.func8, Try.ntmps8
    go_wp2_with fail
    go_ret
    exact ⟨by simp, hB _ _⟩
  · have h2 : r ≠ s := h
    go_enter Try.func8, Try.ntmps8
    go_wp2_with fail
    go_ret
    exact ⟨by simp [h], hB _ _⟩

theorem may_any (b : Bt) (w : World) : Calls Try.prog 21 #[bt b] w fun e w' => e = .returned (.bool (mayb b)) ∧ Below w.heap.size w w' := by
  obtain ⟨r, m⟩ := b
  unfold mayb bt
  dsimp only
  have hB : ∀ x, Below w.heap.size w (w.alloc x) := fun x => (Below.refl _ w).alloc (Nat.le_refl _) _
  by_cases h1 : 1 ≤ r
  · by_cases h2 : r ≤ 2147483647
    · by_cases h3 : 0 ≤ m
      · go_enter Try.func21, Try.ntmps21
        go_wp2_with fail
        go_ret
        exact ⟨by simp [h1, h2, h3], hB _⟩
      · go_enter Try.func21, Try.ntmps21
        go_wp2_with fail
        go_ret
        exact ⟨by simp [h1, h2, h3]; omega, hB _⟩
    · go_enter Try.func21, Try.ntmps21
      go_wp2_with fail
      go_ret
      exact ⟨by simp [h1, h2]; omega, hB _⟩
  · go_enter Try.func21, Try.ntmps21
    go_wp2_with fail
    go_ret
    exact ⟨by simp [h1]; omega, hB _⟩

theorem none_any (b : Bt) (w : World) : Calls Try.prog 23 #[bt b] w fun e w' => e = .returned (.bool (zb b)) ∧ Below w.heap.size w w' := by
  obtain ⟨r, m⟩ := b
  unfold zb bt
  dsimp only
  have hB : ∀ x, Below w.heap.size w (w.alloc x) := fun x => (Below.refl _ w).alloc (Nat.le_refl _) _
  have hE := fun W => eq_bt r m 0 0 W
  go_enter Try.func23, Try.ntmps23
  go_wp2_with fail
  go_ret
  exact ⟨rfl, hB _⟩

theorem mzb_any (b : Bt) (w : World) : Calls Try.prog 20 #[bt b] w fun e w' => e = .returned (.bool (mzb b)) ∧ Below w.heap.size w w' := by
  obtain ⟨r, m⟩ := b
  have hN := fun W => none_any (r, m) W
  have hM := fun W => may_any (r, m) W
  unfold mzb
  generalize zb (r, m) = z at *
  generalize mayb (r, m) = t at *
  unfold bt at *
  dsimp only at *
  have b0 : ∀ x, Below w.heap.size w (w.alloc x) := fun x => (Below.refl _ w).alloc (Nat.le_refl _) _
  cases z with
  | true =>
    go_enter Try.func20, Try.ntmps20
    go_wp2_with (go_at_call 23; refine (hN _).mono ?_; rintro e w1 ⟨rfl, hb1⟩; clear hN)
    go_ret
    exact ⟨rfl, on (b0 _) hb1⟩
  | false =>
    go_enter Try.func20, Try.ntmps20
    go_wp2_with (first
      | (go_at_call 23; refine (hN _).mono ?_; rintro e w1 ⟨rfl, hb1⟩; clear hN
         have k0 := keep hb1 (b := w.heap.size) (o := 0) (x := .int .i64 r) (by go_simp)
         have k1 := keep hb1 (b := w.heap.size) (o := 1) (x := .int .i64 m) (by go_simp)
         have B1 := on (b0 _) hb1; clear hb1)
      | (go_at_call 21; refine (hM _).mono ?_; rintro e w2 ⟨rfl, hb2⟩; clear hM))
    go_ret
    exact ⟨by simp, on B1 hb2⟩

end Go.Proofs.Ytlfeafbpknbbfaa.Ba
