/-
  The document's own Accept, Next and Same.
  Conditions: none.
-/
import Derived.Test.YtlfeafbpknbbfaaBaRef
namespace Go.Proofs.Ytlfeafbpknbbfaa.Ba
open Go.RowKit By Fl
set_option linter.unusedVariables false
set_option linter.unusedSimpArgs false
set_option maxRecDepth 100000

/- append([]byte{}, v...) -/
theorem copy_vl (w : World) (x : Option Addr) (n c : Nat) (l : List Nat) (hl : Sl w x n c l) (hn : n ≤ 140737488355328) :
    ∃ g cy w', (Builtin.append_ #[24, 24] 24 #[.slice (some ⟨w.heap.size, 0, none⟩) 0 0, .slice x n c]).run Try.prog (w.alloc (.cells #[] 5)) = .ok (.slice (some ⟨g, 0, none⟩) n cy) w' ∧ Hid (Vl w w' (some ⟨g, 0, none⟩) n cy l ∧ ∀ j, w'.frozen? ⟨g, j, none⟩ = false) := by
  obtain ⟨g, cy, w', hrun, h1, h0, h2, h3, h4, h5⟩ := bytes_copy w x n c (gl l) hl.row hl.nil' hn
  have hcy : n ≤ cy ∧ Tb w' g 5 ∧ ∀ j, w'.frozen? ⟨g, j, none⟩ = false := by
    rcases h0.2 with ⟨h, _⟩ | ⟨g', c', cur, h, _, hg, hc, _⟩
    · cases h
    · injection h with h _ e
      injection h with h
      injection h with h _ _
      subst h
      subst e
      exact ⟨hc, ⟨_, _, hg⟩, fun j => by simp [World.frozen?, hg]⟩
  exact ⟨g, cy, w', hrun, ⟨h1, ⟨hl.len, hcy.1, (fun h => by cases h), h5, hl.lt⟩, fun a ha => by cases ha; exact ⟨h2, hcy.2.1⟩⟩, hcy.2.2⟩

theorem wp_copy {w : World} {ops : Array Oper} {rest : List Oper} {o : Oper} {a : Act} {Q : Exit → Act → World → Prop} (hgd : o.guard = none) (s x : Operand) (ho : o.op = .call { callee := .builtin .append, args := #[s, x], argTypes := #[24, 24] }) (hty : o.type = 24)
    (k : Nat) (hs : a.eval s = .slice (some ⟨k, 0, none⟩) 0 0) (hk : w.heap.size = k) (vx : Option Addr) (n c : Nat) (l : List Nat) (hx : a.eval x = .slice vx n c) (hl : Sl w vx n c l) (hn : n ≤ 140737488355328)
    (h : ∀ g cy w', Hid (Vl w w' (some ⟨g, 0, none⟩) n cy l ∧ ∀ j, w'.frozen? ⟨g, j, none⟩ = false) → wpList Try.prog ops Q rest (a.put o.dst (.slice (some ⟨g, 0, none⟩) n cy)) w') : wpList Try.prog ops Q (o :: rest) a (w.alloc (.cells #[] 5)) := by
  subst hk
  obtain ⟨g, cy, w', hrun, H⟩ := copy_vl w vx n c l hl hn
  exact wpList_append_run hgd s x 24 ho _ _ hs hx (by rw [hty]; exact hrun) (h g cy w' H)

theorem below2 {B : Nat} {a w : World} (h : Below B a w) (g : Nat) (hg : B ≤ g) (u0 u1 : Value) : Below B a ((w.setCell ⟨g, 0, none⟩ u0).setCell ⟨g, 1, none⟩ u1) :=
  (h.setCell (p := ⟨g, 0, none⟩) hg _).setCell (p := ⟨g, 1, none⟩) hg _
theorem below5 {B : Nat} {a w : World} (h : Below B a w) (g : Nat) (hg : B ≤ g) (u0 u1 u2 u3 u4 : Value) : Below B a (((((w.setCell ⟨g, 0, none⟩ u0).setCell ⟨g, 1, none⟩ u1).setCell ⟨g, 2, none⟩ u2).setCell ⟨g, 3, none⟩ u3).setCell ⟨g, 4, none⟩ u4) :=
  ((((h.setCell (p := ⟨g, 0, none⟩) hg _).setCell (p := ⟨g, 1, none⟩) hg _).setCell (p := ⟨g, 2, none⟩) hg _).setCell (p := ⟨g, 3, none⟩) hg _).setCell (p := ⟨g, 4, none⟩) hg _

theorem raccept_no (p a : Bt) (x : Option Addr) (n c : Nat) (b : Bt) (vx : Option Addr) (vn vc : Nat) (w : World) (hf : freeb p a n b = false) :
    Calls Try.prog 17 #[ac p a x n c, bt b, .slice vx vn vc] w fun e w' => e = .returned (.tuple #[ac p a x n c, .bool false]) ∧ Below w.heap.size w w' := by
  have hP := fun W => rprep_no p a x n c b W hf
  clear hf
  obtain ⟨p1, p2⟩ := p
  obtain ⟨a1, a2⟩ := a
  obtain ⟨b1, b2⟩ := b
  dsimp only [bt, ac] at *
  have b0 : ∀ x y z, Below w.heap.size w (((w.alloc x).alloc y).alloc z) := fun x y z => on (on (al _ _) (al _ _)) (al _ _)
  go_enter Try.func17, Try.ntmps17
  go_wp2_with (first
    | (
       go_at_call 14; refine (hP _).mono ?_; rintro e w1 ⟨rfl, hb1⟩; clear hP
       have k0 := keep hb1 (b := w.heap.size) (o := 0) (x := .int .i64 p1) (by first | assumption | go_simp)
       have k1 := keep hb1 (b := w.heap.size) (o := 1) (x := .int .i64 p2) (by first | assumption | go_simp)
       have k2 := keep hb1 (b := w.heap.size) (o := 2) (x := .int .i64 a1) (by first | assumption | go_simp)
       have k3 := keep hb1 (b := w.heap.size) (o := 3) (x := .int .i64 a2) (by first | assumption | go_simp)
       have k4 := keep hb1 (b := w.heap.size) (o := 4) (x := .slice x n c) (by first | assumption | go_simp)
       have r0 := keep hb1 (b := w.heap.size + 1 + 1) (o := 0) (x := .int .i64 0) (by first | assumption | go_simp)
       have r1 := keep hb1 (b := w.heap.size + 1 + 1) (o := 1) (x := .int .i64 0) (by first | assumption | go_simp)
       have r2 := keep hb1 (b := w.heap.size + 1 + 1) (o := 2) (x := .int .i64 0) (by first | assumption | go_simp)
       have r3 := keep hb1 (b := w.heap.size + 1 + 1) (o := 3) (x := .int .i64 0) (by first | assumption | go_simp)
       have r4 := keep hb1 (b := w.heap.size + 1 + 1) (o := 4) (x := .slice none 0 0) (by first | assumption | go_simp)
       have g0 := keepf hb1 (b := w.heap.size + 1 + 1) (o := 0) (by first | (simp <;> omega) | exact cell_lt' (a := ⟨w.heap.size + 1 + 1, 0, none⟩) (by assumption) | (simp; exact cell_lt' (a := ⟨w.heap.size + 1 + 1, 0, none⟩) (by assumption))) (by first | assumption | go_simp)
       have g1 := keepf hb1 (b := w.heap.size + 1 + 1) (o := 1) (by first | (simp <;> omega) | exact cell_lt' (a := ⟨w.heap.size + 1 + 1, 1, none⟩) (by assumption) | (simp; exact cell_lt' (a := ⟨w.heap.size + 1 + 1, 1, none⟩) (by assumption))) (by first | assumption | go_simp)
       have g2 := keepf hb1 (b := w.heap.size + 1 + 1) (o := 2) (by first | (simp <;> omega) | exact cell_lt' (a := ⟨w.heap.size + 1 + 1, 2, none⟩) (by assumption) | (simp; exact cell_lt' (a := ⟨w.heap.size + 1 + 1, 2, none⟩) (by assumption))) (by first | assumption | go_simp)
       have g3 := keepf hb1 (b := w.heap.size + 1 + 1) (o := 3) (by first | (simp <;> omega) | exact cell_lt' (a := ⟨w.heap.size + 1 + 1, 3, none⟩) (by assumption) | (simp; exact cell_lt' (a := ⟨w.heap.size + 1 + 1, 3, none⟩) (by assumption))) (by first | assumption | go_simp)
       have g4 := keepf hb1 (b := w.heap.size + 1 + 1) (o := 4) (by first | (simp <;> omega) | exact cell_lt' (a := ⟨w.heap.size + 1 + 1, 4, none⟩) (by assumption) | (simp; exact cell_lt' (a := ⟨w.heap.size + 1 + 1, 4, none⟩) (by assumption))) (by first | assumption | go_simp)
       have l0 : w.heap.size + 1 + 1 < w1.heap.size := cell_lt' r0
       have l1 : w.heap.size + 1 < w1.heap.size := by omega
       have l2 : w.heap.size < w1.heap.size := by omega
       have B1 := on (b0 _ _ _) hb1; clear hb1))
  refine bodyPost_ret (v := .tuple #[.agg #[.int .i64 p1, .int .i64 p2, .int .i64 a1, .int .i64 a2, .slice x n c], .bool false]) ?_ rfl ⟨rfl, ?_⟩
  · rw [results_cell2 rfl]
    go_simp
  · exact (below5 B1 (w.heap.size + 1 + 1) (by omega) _ _ _ _ _).alloc (by simp; omega) _

theorem raccept_yes (p a : Bt) (x : Option Addr) (n c : Nat) (b : Bt) (vx : Option Addr) (vn vc : Nat) (vl : List Nat) (w : World) (hl : Sl w vx vn vc vl) (hn : vn ≤ 140737488355328) (hf : freeb p a n b = true) :
    Calls Try.prog 17 #[ac p a x n c, bt b, .slice vx vn vc] w fun e w' => ∃ y cy, e = .returned (.tuple #[ac b b y vn cy, .bool true]) ∧ Hid (Vl w w' y vn cy vl) := by
  have hP := fun W => rprep_yes p a x n c b W hf
  clear hf
  obtain ⟨p1, p2⟩ := p
  obtain ⟨a1, a2⟩ := a
  obtain ⟨b1, b2⟩ := b
  dsimp only [bt, ac] at *
  have b0 : ∀ x y z, Below w.heap.size w (((w.alloc x).alloc y).alloc z) := fun x y z => on (on (al _ _) (al _ _)) (al _ _)
  go_enter Try.func17, Try.ntmps17
  go_wp2_with (first
    | (
       go_at_call 14; refine (hP _).mono ?_; rintro e w1 ⟨rfl, hb1⟩; clear hP
       have j0 := keep hb1 (b := w.heap.size + 1) (o := 0) (x := .int .i64 b1) (by first | assumption | go_simp)
       have j1 := keep hb1 (b := w.heap.size + 1) (o := 1) (x := .int .i64 b2) (by first | assumption | go_simp)
       have r0 := keep hb1 (b := w.heap.size + 1 + 1) (o := 0) (x := .int .i64 0) (by first | assumption | go_simp)
       have r1 := keep hb1 (b := w.heap.size + 1 + 1) (o := 1) (x := .int .i64 0) (by first | assumption | go_simp)
       have r2 := keep hb1 (b := w.heap.size + 1 + 1) (o := 2) (x := .int .i64 0) (by first | assumption | go_simp)
       have r3 := keep hb1 (b := w.heap.size + 1 + 1) (o := 3) (x := .int .i64 0) (by first | assumption | go_simp)
       have r4 := keep hb1 (b := w.heap.size + 1 + 1) (o := 4) (x := .slice none 0 0) (by first | assumption | go_simp)
       have g0 := keepf hb1 (b := w.heap.size + 1 + 1) (o := 0) (by first | (simp <;> omega) | exact cell_lt' (a := ⟨w.heap.size + 1 + 1, 0, none⟩) (by assumption) | (simp; exact cell_lt' (a := ⟨w.heap.size + 1 + 1, 0, none⟩) (by assumption))) (by first | assumption | go_simp)
       have g1 := keepf hb1 (b := w.heap.size + 1 + 1) (o := 1) (by first | (simp <;> omega) | exact cell_lt' (a := ⟨w.heap.size + 1 + 1, 1, none⟩) (by assumption) | (simp; exact cell_lt' (a := ⟨w.heap.size + 1 + 1, 1, none⟩) (by assumption))) (by first | assumption | go_simp)
       have g2 := keepf hb1 (b := w.heap.size + 1 + 1) (o := 2) (by first | (simp <;> omega) | exact cell_lt' (a := ⟨w.heap.size + 1 + 1, 2, none⟩) (by assumption) | (simp; exact cell_lt' (a := ⟨w.heap.size + 1 + 1, 2, none⟩) (by assumption))) (by first | assumption | go_simp)
       have g3 := keepf hb1 (b := w.heap.size + 1 + 1) (o := 3) (by first | (simp <;> omega) | exact cell_lt' (a := ⟨w.heap.size + 1 + 1, 3, none⟩) (by assumption) | (simp; exact cell_lt' (a := ⟨w.heap.size + 1 + 1, 3, none⟩) (by assumption))) (by first | assumption | go_simp)
       have g4 := keepf hb1 (b := w.heap.size + 1 + 1) (o := 4) (by first | (simp <;> omega) | exact cell_lt' (a := ⟨w.heap.size + 1 + 1, 4, none⟩) (by assumption) | (simp; exact cell_lt' (a := ⟨w.heap.size + 1 + 1, 4, none⟩) (by assumption))) (by first | assumption | go_simp)
       have l0 : w.heap.size + 1 + 1 < w1.heap.size := cell_lt' r0
       have l1 : w.heap.size + 1 < w1.heap.size := by omega
       have l2 : w.heap.size < w1.heap.size := by omega
       have B1 := on (b0 _ _ _) hb1; clear hb1
       have hl1 := hl.below B1)
    | (
       at_builtin
       refine wp_copy rfl _ _ rfl rfl _ rfl (by simp) vx vn vc vl rfl (hl1.below (al _ _)) hn ?_
       intro q cy w3 H3
       have m0 := keep H3.out.1.1 (b := w1.heap.size) (o := 0) (x := .int .i64 b1) (by first | assumption | go_simp)
       have m1 := keep H3.out.1.1 (b := w1.heap.size) (o := 1) (x := .int .i64 b2) (by first | assumption | go_simp)
       have m2 := keep H3.out.1.1 (b := w1.heap.size) (o := 2) (x := .int .i64 b1) (by first | assumption | go_simp)
       have m3 := keep H3.out.1.1 (b := w1.heap.size) (o := 3) (x := .int .i64 b2) (by first | assumption | go_simp)
       have m4 := keep H3.out.1.1 (b := w1.heap.size) (o := 4) (x := .slice x n c) (by first | assumption | go_simp)
       have r0 := keep H3.out.1.1 (b := w.heap.size + 1 + 1) (o := 0) (x := .int .i64 0) (by first | assumption | go_simp)
       have r1 := keep H3.out.1.1 (b := w.heap.size + 1 + 1) (o := 1) (x := .int .i64 0) (by first | assumption | go_simp)
       have r2 := keep H3.out.1.1 (b := w.heap.size + 1 + 1) (o := 2) (x := .int .i64 0) (by first | assumption | go_simp)
       have r3 := keep H3.out.1.1 (b := w.heap.size + 1 + 1) (o := 3) (x := .int .i64 0) (by first | assumption | go_simp)
       have r4 := keep H3.out.1.1 (b := w.heap.size + 1 + 1) (o := 4) (x := .slice none 0 0) (by first | assumption | go_simp)
       have g0 := keepf H3.out.1.1 (b := w.heap.size + 1 + 1) (o := 0) (by first | (simp <;> omega) | exact cell_lt' (a := ⟨w.heap.size + 1 + 1, 0, none⟩) (by assumption) | (simp; exact cell_lt' (a := ⟨w.heap.size + 1 + 1, 0, none⟩) (by assumption))) (by first | assumption | go_simp)
       have g1 := keepf H3.out.1.1 (b := w.heap.size + 1 + 1) (o := 1) (by first | (simp <;> omega) | exact cell_lt' (a := ⟨w.heap.size + 1 + 1, 1, none⟩) (by assumption) | (simp; exact cell_lt' (a := ⟨w.heap.size + 1 + 1, 1, none⟩) (by assumption))) (by first | assumption | go_simp)
       have g2 := keepf H3.out.1.1 (b := w.heap.size + 1 + 1) (o := 2) (by first | (simp <;> omega) | exact cell_lt' (a := ⟨w.heap.size + 1 + 1, 2, none⟩) (by assumption) | (simp; exact cell_lt' (a := ⟨w.heap.size + 1 + 1, 2, none⟩) (by assumption))) (by first | assumption | go_simp)
       have g3 := keepf H3.out.1.1 (b := w.heap.size + 1 + 1) (o := 3) (by first | (simp <;> omega) | exact cell_lt' (a := ⟨w.heap.size + 1 + 1, 3, none⟩) (by assumption) | (simp; exact cell_lt' (a := ⟨w.heap.size + 1 + 1, 3, none⟩) (by assumption))) (by first | assumption | go_simp)
       have g4 := keepf H3.out.1.1 (b := w.heap.size + 1 + 1) (o := 4) (by first | (simp <;> omega) | exact cell_lt' (a := ⟨w.heap.size + 1 + 1, 4, none⟩) (by assumption) | (simp; exact cell_lt' (a := ⟨w.heap.size + 1 + 1, 4, none⟩) (by assumption))) (by first | assumption | go_simp)
       have f4 := keepf H3.out.1.1 (b := w1.heap.size) (o := 4) (by first | (simp <;> omega) | exact cell_lt' (a := ⟨w1.heap.size, 4, none⟩) (by assumption) | (simp; exact cell_lt' (a := ⟨w1.heap.size, 4, none⟩) (by assumption))) (by first | assumption | go_simp)
       have B3 := on B1 (al w1 (.cells #[.int .i64 b1, .int .i64 b2, .int .i64 b1, .int .i64 b2, .slice x n c] 26))))
  refine bodyPost_ret (v := .tuple #[.agg #[.int .i64 b1, .int .i64 b2, .int .i64 b1, .int .i64 b2, .slice (some ⟨q, 0, none⟩) vn cy], .bool true]) ?_ rfl ⟨some ⟨q, 0, none⟩, cy, rfl, Vl.turns B3 H3.out.1 ?_⟩
  · rw [results_cell2 rfl]
    go_simp
  · exact ((Turns.refl (fun k => w.heap.size ≤ k ∧ k < w1.heap.size + 1) w3).setCell (p := ⟨w1.heap.size, 4, none⟩) (.inl ⟨by show w.heap.size ≤ w1.heap.size; omega, by show w1.heap.size < _; omega⟩) _).set5 (w.heap.size + 1 + 1) ⟨by omega, by omega⟩ _ _ _ _ _ |>.weak fun k hk => by simpa using hk

end Go.Proofs.Ytlfeafbpknbbfaa.Ba
