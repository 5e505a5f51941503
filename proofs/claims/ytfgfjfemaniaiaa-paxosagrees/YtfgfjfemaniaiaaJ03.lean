/-
  What acceptors answer: May, free, Prepare, Accept; the document's own.
  Conditions: none.
-/
import Derived.Test.YtfgfjfemaniaiaaJ02
namespace Go.Proofs.Ytfgfjfemaniaiaa.Ba
open Go.RowKit By Fl
set_option linter.unusedVariables false
set_option linter.unusedSimpArgs false
set_option maxRecDepth 100000

def mayA (p a : Bt) (n : Nat) : Bool := mzb p && mzb a && !ltb p a && (!zb a || decide (n = 0))
def freeb (p a : Bt) (n : Nat) (b : Bt) : Bool := mayA p a n && mayb b && !ltb b p
def ac (p a : Bt) (x : Option Addr) (n c : Nat) : Value := .agg #[.int .i64 p.1, .int .i64 p.2, .int .i64 a.1, .int .i64 a.2, .slice x n c]

theorem mayA_any (p a : Bt) (x : Option Addr) (n c : Nat) (w : World) : Calls Try.prog 81 #[ac p a x n c] w fun e w' => e = .returned (.bool (mayA p a n)) ∧ Below w.heap.size w w' := by
  obtain ⟨p1, p2⟩ := p
  obtain ⟨a1, a2⟩ := a
  have hP := fun W => mzb_any (p1, p2) W
  have hA := fun W => mzb_any (a1, a2) W
  have hL := fun W => less_any (p1, p2) (a1, a2) W
  have hZ := fun W => none_any (a1, a2) W
  unfold mayA
  generalize mzb (p1, p2) = tp at *
  generalize mzb (a1, a2) = ta at *
  generalize ltb (p1, p2) (a1, a2) = tl at *
  generalize zb (a1, a2) = tz at *
  unfold bt at *
  unfold ac
  dsimp only at *
  have b0 : ∀ x, Below w.heap.size w (w.alloc x) := fun x => (Below.refl _ w).alloc (Nat.le_refl _) _
  cases tp with
  | false =>
    go_enter Try.func81, Try.ntmps81
    go_wp2_with (first
      | (
         go_at_call 93; refine (hP _).mono ?_; rintro e w1 ⟨rfl, hb1⟩; clear hP))
    go_ret
    exact ⟨by simp, on (b0 _) hb1⟩
  | true =>
  cases ta with
  | false =>
    go_enter Try.func81, Try.ntmps81
    go_wp2_with (first
      | (
         go_at_call 93; refine (hP _).mono ?_; rintro e w1 ⟨rfl, hb1⟩; clear hP
         have k0 := keep hb1 (b := w.heap.size) (o := 0) (x := .int .i64 p1) (by first | assumption | go_simp)
         have k1 := keep hb1 (b := w.heap.size) (o := 1) (x := .int .i64 p2) (by first | assumption | go_simp)
         have k2 := keep hb1 (b := w.heap.size) (o := 2) (x := .int .i64 a1) (by first | assumption | go_simp)
         have k3 := keep hb1 (b := w.heap.size) (o := 3) (x := .int .i64 a2) (by first | assumption | go_simp)
         have k4 := keep hb1 (b := w.heap.size) (o := 4) (x := .slice x n c) (by first | assumption | go_simp)
         have B1 := on (b0 _) hb1; clear hb1)
      | (
         go_at_call 93; refine (hA _).mono ?_; rintro e w2 ⟨rfl, hb2⟩; clear hA
         have B2 := on B1 hb2; clear hb2))
    go_ret
    exact ⟨by simp, B2⟩
  | true =>
  cases tl with
  | true =>
    go_enter Try.func81, Try.ntmps81
    go_wp2_with (first
      | (
         go_at_call 93; refine (hP _).mono ?_; rintro e w1 ⟨rfl, hb1⟩; clear hP
         have k0 := keep hb1 (b := w.heap.size) (o := 0) (x := .int .i64 p1) (by first | assumption | go_simp)
         have k1 := keep hb1 (b := w.heap.size) (o := 1) (x := .int .i64 p2) (by first | assumption | go_simp)
         have k2 := keep hb1 (b := w.heap.size) (o := 2) (x := .int .i64 a1) (by first | assumption | go_simp)
         have k3 := keep hb1 (b := w.heap.size) (o := 3) (x := .int .i64 a2) (by first | assumption | go_simp)
         have k4 := keep hb1 (b := w.heap.size) (o := 4) (x := .slice x n c) (by first | assumption | go_simp)
         have B1 := on (b0 _) hb1; clear hb1)
      | (
         go_at_call 93; refine (hA _).mono ?_; rintro e w2 ⟨rfl, hb2⟩; clear hA
         have l0 := keep hb2 (b := w.heap.size) (o := 0) (x := .int .i64 p1) (by first | assumption | go_simp)
         have l1 := keep hb2 (b := w.heap.size) (o := 1) (x := .int .i64 p2) (by first | assumption | go_simp)
         have l2 := keep hb2 (b := w.heap.size) (o := 2) (x := .int .i64 a1) (by first | assumption | go_simp)
         have l3 := keep hb2 (b := w.heap.size) (o := 3) (x := .int .i64 a2) (by first | assumption | go_simp)
         have l4 := keep hb2 (b := w.heap.size) (o := 4) (x := .slice x n c) (by first | assumption | go_simp)
         have B2 := on B1 hb2; clear hb2 k0 k1 k2 k3 k4)
      | (
         go_at_call 51; refine (hL _).mono ?_; rintro e w3 ⟨rfl, hb3⟩; clear hL
         have B3 := on B2 hb3; clear hb3))
    go_ret
    exact ⟨by simp, B3⟩
  | false =>
  cases tz with
  | false =>
    go_enter Try.func81, Try.ntmps81
    go_wp2_with (first
      | (
         go_at_call 93; refine (hP _).mono ?_; rintro e w1 ⟨rfl, hb1⟩; clear hP
         have k0 := keep hb1 (b := w.heap.size) (o := 0) (x := .int .i64 p1) (by first | assumption | go_simp)
         have k1 := keep hb1 (b := w.heap.size) (o := 1) (x := .int .i64 p2) (by first | assumption | go_simp)
         have k2 := keep hb1 (b := w.heap.size) (o := 2) (x := .int .i64 a1) (by first | assumption | go_simp)
         have k3 := keep hb1 (b := w.heap.size) (o := 3) (x := .int .i64 a2) (by first | assumption | go_simp)
         have k4 := keep hb1 (b := w.heap.size) (o := 4) (x := .slice x n c) (by first | assumption | go_simp)
         have B1 := on (b0 _) hb1; clear hb1)
      | (
         go_at_call 93; refine (hA _).mono ?_; rintro e w2 ⟨rfl, hb2⟩; clear hA
         have l0 := keep hb2 (b := w.heap.size) (o := 0) (x := .int .i64 p1) (by first | assumption | go_simp)
         have l1 := keep hb2 (b := w.heap.size) (o := 1) (x := .int .i64 p2) (by first | assumption | go_simp)
         have l2 := keep hb2 (b := w.heap.size) (o := 2) (x := .int .i64 a1) (by first | assumption | go_simp)
         have l3 := keep hb2 (b := w.heap.size) (o := 3) (x := .int .i64 a2) (by first | assumption | go_simp)
         have l4 := keep hb2 (b := w.heap.size) (o := 4) (x := .slice x n c) (by first | assumption | go_simp)
         have B2 := on B1 hb2; clear hb2 k0 k1 k2 k3 k4)
      | (
         go_at_call 51; refine (hL _).mono ?_; rintro e w3 ⟨rfl, hb3⟩; clear hL
         have m0 := keep hb3 (b := w.heap.size) (o := 0) (x := .int .i64 p1) (by first | assumption | go_simp)
         have m1 := keep hb3 (b := w.heap.size) (o := 1) (x := .int .i64 p2) (by first | assumption | go_simp)
         have m2 := keep hb3 (b := w.heap.size) (o := 2) (x := .int .i64 a1) (by first | assumption | go_simp)
         have m3 := keep hb3 (b := w.heap.size) (o := 3) (x := .int .i64 a2) (by first | assumption | go_simp)
         have m4 := keep hb3 (b := w.heap.size) (o := 4) (x := .slice x n c) (by first | assumption | go_simp)
         have B3 := on B2 hb3; clear hb3 l0 l1 l2 l3 l4)
      | (
         go_at_call 95; refine (hZ _).mono ?_; rintro e w4 ⟨rfl, hb4⟩; clear hZ
         have B4 := on B3 hb4; clear hb4))
    go_ret
    exact ⟨by simp, B4⟩
  | true =>
    go_enter Try.func81, Try.ntmps81
    go_wp2_with (first
      | (
         go_at_call 93; refine (hP _).mono ?_; rintro e w1 ⟨rfl, hb1⟩; clear hP
         have k0 := keep hb1 (b := w.heap.size) (o := 0) (x := .int .i64 p1) (by first | assumption | go_simp)
         have k1 := keep hb1 (b := w.heap.size) (o := 1) (x := .int .i64 p2) (by first | assumption | go_simp)
         have k2 := keep hb1 (b := w.heap.size) (o := 2) (x := .int .i64 a1) (by first | assumption | go_simp)
         have k3 := keep hb1 (b := w.heap.size) (o := 3) (x := .int .i64 a2) (by first | assumption | go_simp)
         have k4 := keep hb1 (b := w.heap.size) (o := 4) (x := .slice x n c) (by first | assumption | go_simp)
         have B1 := on (b0 _) hb1; clear hb1)
      | (
         go_at_call 93; refine (hA _).mono ?_; rintro e w2 ⟨rfl, hb2⟩; clear hA
         have l0 := keep hb2 (b := w.heap.size) (o := 0) (x := .int .i64 p1) (by first | assumption | go_simp)
         have l1 := keep hb2 (b := w.heap.size) (o := 1) (x := .int .i64 p2) (by first | assumption | go_simp)
         have l2 := keep hb2 (b := w.heap.size) (o := 2) (x := .int .i64 a1) (by first | assumption | go_simp)
         have l3 := keep hb2 (b := w.heap.size) (o := 3) (x := .int .i64 a2) (by first | assumption | go_simp)
         have l4 := keep hb2 (b := w.heap.size) (o := 4) (x := .slice x n c) (by first | assumption | go_simp)
         have B2 := on B1 hb2; clear hb2 k0 k1 k2 k3 k4)
      | (
         go_at_call 51; refine (hL _).mono ?_; rintro e w3 ⟨rfl, hb3⟩; clear hL
         have m0 := keep hb3 (b := w.heap.size) (o := 0) (x := .int .i64 p1) (by first | assumption | go_simp)
         have m1 := keep hb3 (b := w.heap.size) (o := 1) (x := .int .i64 p2) (by first | assumption | go_simp)
         have m2 := keep hb3 (b := w.heap.size) (o := 2) (x := .int .i64 a1) (by first | assumption | go_simp)
         have m3 := keep hb3 (b := w.heap.size) (o := 3) (x := .int .i64 a2) (by first | assumption | go_simp)
         have m4 := keep hb3 (b := w.heap.size) (o := 4) (x := .slice x n c) (by first | assumption | go_simp)
         have B3 := on B2 hb3; clear hb3 l0 l1 l2 l3 l4)
      | (
         go_at_call 95; refine (hZ _).mono ?_; rintro e w4 ⟨rfl, hb4⟩; clear hZ
         have q0 := keep hb4 (b := w.heap.size) (o := 0) (x := .int .i64 p1) (by first | assumption | go_simp)
         have q1 := keep hb4 (b := w.heap.size) (o := 1) (x := .int .i64 p2) (by first | assumption | go_simp)
         have q2 := keep hb4 (b := w.heap.size) (o := 2) (x := .int .i64 a1) (by first | assumption | go_simp)
         have q3 := keep hb4 (b := w.heap.size) (o := 3) (x := .int .i64 a2) (by first | assumption | go_simp)
         have q4 := keep hb4 (b := w.heap.size) (o := 4) (x := .slice x n c) (by first | assumption | go_simp)
         have B4 := on B3 hb4; clear hb4))
    go_ret
    exact ⟨by simp [nz], B4⟩

theorem free_any (p a : Bt) (x : Option Addr) (n c : Nat) (b : Bt) (w : World) : Calls Try.prog 68 #[ac p a x n c, bt b] w fun e w' => e = .returned (.bool (freeb p a n b)) ∧ Below w.heap.size w w' := by
  have hM := fun W => mayA_any p a x n c W
  have hB := fun W => may_any b W
  have hL := fun W => less_any b p W
  unfold freeb
  generalize mayA p a n = tm at *
  generalize mayb b = tb at *
  generalize ltb b p = tl at *
  obtain ⟨p1, p2⟩ := p
  obtain ⟨a1, a2⟩ := a
  obtain ⟨b1, b2⟩ := b
  unfold bt ac at *
  dsimp only at *
  have b0 : ∀ x y, Below w.heap.size w ((w.alloc x).alloc y) := fun x y => ((Below.refl _ w).alloc (Nat.le_refl _) _).alloc (by simp) _
  cases tm with
  | false =>
    go_enter Try.func68, Try.ntmps68
    go_wp2_with (first
      | (
         go_at_call 81; refine (hM _).mono ?_; rintro e w1 ⟨rfl, hb1⟩; clear hM))
    go_ret
    exact ⟨by simp, on (b0 _ _) hb1⟩
  | true =>
  cases tb with
  | false =>
    go_enter Try.func68, Try.ntmps68
    go_wp2_with (first
      | (
         go_at_call 81; refine (hM _).mono ?_; rintro e w1 ⟨rfl, hb1⟩; clear hM
         have k0 := keep hb1 (b := w.heap.size) (o := 0) (x := .int .i64 p1) (by first | assumption | go_simp)
         have k1 := keep hb1 (b := w.heap.size) (o := 1) (x := .int .i64 p2) (by first | assumption | go_simp)
         have j0 := keep hb1 (b := w.heap.size + 1) (o := 0) (x := .int .i64 b1) (by first | assumption | go_simp)
         have j1 := keep hb1 (b := w.heap.size + 1) (o := 1) (x := .int .i64 b2) (by first | assumption | go_simp)
         have B1 := on (b0 _ _) hb1; clear hb1)
      | (
         go_at_call 84; refine (hB _).mono ?_; rintro e w2 ⟨rfl, hb2⟩; clear hB))
    go_ret
    exact ⟨by simp, on B1 hb2⟩
  | true =>
    go_enter Try.func68, Try.ntmps68
    go_wp2_with (first
      | (
         go_at_call 81; refine (hM _).mono ?_; rintro e w1 ⟨rfl, hb1⟩; clear hM
         have k0 := keep hb1 (b := w.heap.size) (o := 0) (x := .int .i64 p1) (by first | assumption | go_simp)
         have k1 := keep hb1 (b := w.heap.size) (o := 1) (x := .int .i64 p2) (by first | assumption | go_simp)
         have j0 := keep hb1 (b := w.heap.size + 1) (o := 0) (x := .int .i64 b1) (by first | assumption | go_simp)
         have j1 := keep hb1 (b := w.heap.size + 1) (o := 1) (x := .int .i64 b2) (by first | assumption | go_simp)
         have B1 := on (b0 _ _) hb1; clear hb1)
      | (
         go_at_call 84; refine (hB _).mono ?_; rintro e w2 ⟨rfl, hb2⟩; clear hB
         have l0 := keep hb2 (b := w.heap.size) (o := 0) (x := .int .i64 p1) (by first | assumption | go_simp)
         have l1 := keep hb2 (b := w.heap.size) (o := 1) (x := .int .i64 p2) (by first | assumption | go_simp)
         have m0 := keep hb2 (b := w.heap.size + 1) (o := 0) (x := .int .i64 b1) (by first | assumption | go_simp)
         have m1 := keep hb2 (b := w.heap.size + 1) (o := 1) (x := .int .i64 b2) (by first | assumption | go_simp)
         have B2 := on B1 hb2; clear hb2 k0 k1 j0 j1)
      | (
         go_at_call 51; refine (hL _).mono ?_; rintro e w3 ⟨rfl, hb3⟩; clear hL))
    go_ret
    exact ⟨by simp, on B2 hb3⟩

/- bytes.Clone. -/
theorem clone_sl (x : Option Addr) (n c : Nat) (l : List Nat) (w : World) (hl : Sl w x n c l) (hn : n ≤ 140737488355328) :
    Calls Try.prog 60 #[.slice x n c] w fun e w' => ∃ y cy, e = .returned (.slice y n cy) ∧ Hid (Below w.heap.size w w' ∧ Sl w' y n cy l ∧ (∀ a, y = some a → w.heap.size ≤ a.block ∧ Tb w' a.block 5 ∧ (∀ j, w'.frozen? ⟨a.block, j, none⟩ = false) ∧ a = ⟨a.block, 0, none⟩)) := by
  cases x with
  | none =>
    obtain ⟨rfl, rfl⟩ := hl.nil' rfl
    have h0 : l = [] := List.eq_nil_of_length_eq_zero hl.len
    subst h0
    exact (clone_nil w).mono fun e w' h => ⟨none, 0, h.1, by rw [h.2]; exact Below.refl _ _, Sl.empty _, fun a ha => by cases ha⟩
  | some ad =>
    obtain ⟨g, cy, w', hrun, h1, h0, h2, h3, h4, h5⟩ := bytes_copy w (some ad) n c (gl l) hl.row (fun h => by cases h) hn
    have hcy : n ≤ cy ∧ Tb w' g 5 ∧ ∀ j, w'.frozen? ⟨g, j, none⟩ = false := by
      rcases h0.2 with ⟨h, _⟩ | ⟨g', c', cur, h, _, hg, hc, _⟩
      · cases h
      · injection h with h _ e
        injection h with h
        injection h with h _ _
        subst h
        subst e
        exact ⟨hc, ⟨_, _, hg⟩, fun j => by simp [World.frozen?, hg]⟩
    have H1 : Hid (Below w.heap.size w w' ∧ Sl w' (some ⟨g, 0, none⟩) n cy l ∧ Tb w' g 5 ∧ (∀ j, w'.frozen? ⟨g, j, none⟩ = false) ∧ w.heap.size ≤ g) := ⟨h1, ⟨hl.len, hcy.1, (fun h => by cases h), h5, hl.lt⟩, hcy.2.1, hcy.2.2, h2⟩
    have he : ∀ w : World, (binOp .eql 35 (.slice (some ad) n c) (.slice none 0 0)).run Try.prog w = .ok (.bool false) w := fun _ => by kernel_rfl
    clear h1 h0 h4 h5 hl hcy h2 h3
    go_enter Try.func60, Try.ntmps60
    go_wp2_with (at_builtin; refine wpList_append_run rfl _ _ 35 rfl _ _ rfl rfl hrun ?_; clear hrun)
    go_ret
    exact ⟨some ⟨g, 0, none⟩, cy, rfl, H1.out.1, H1.out.2.1, fun a ha => by cases ha; exact ⟨H1.out.2.2.2.2, H1.out.2.2.1, H1.out.2.2.2.1, rfl⟩⟩

theorem keepf {w v : World} {b o : Nat} (hb : Below w.heap.size w v) (hlt : b < w.heap.size) (h : w.frozen? ⟨b, o, none⟩ = false) : v.frozen? ⟨b, o, none⟩ = false := by
  rw [← h]
  unfold World.frozen?
  rw [hb.block b hlt]

/- What an acceptor that is told is like: its value lies in memory of its own. -/
def Vl (w w' : World) (y : Option Addr) (n c : Nat) (l : List Nat) : Prop := Below w.heap.size w w' ∧ Sl w' y n c l ∧ ∀ a, y = some a → w.heap.size ≤ a.block ∧ Tb w' a.block 5

theorem results_cell2 {fn : Func} {p q : Tmp} {ty : TypeId} (h : fn.results = #[.cell p ty, .tmp q]) (tmps : Array Value) (P : Program) (w : World) :
    (results fn tmps).run P w = ((asAddr (tmps.getD p undef)).run P w).andThen fun a w₁ => ((loadVar ty a).run P w₁).andThen fun v w₂ => .ok (.tuple #[v, tmps.getD q undef]) w₂ := by
  simp only [results, h]
  simp [Sem.run_bind, Result.andThen]

end Go.Proofs.Ytfgfjfemaniaiaa.Ba

namespace Go.Proofs.Ytfgfjfemaniaiaa.Fl
open Go.RowKit By

theorem Turns.set2 {F : Nat → Prop} {a w : World} (h : Turns F a w) (g : Nat) (hg : F g) (u0 u1 : Value) : Turns F a ((w.setCell ⟨g, 0, none⟩ u0).setCell ⟨g, 1, none⟩ u1) :=
  (h.setCell (p := ⟨g, 0, none⟩) (.inl hg) _).setCell (p := ⟨g, 1, none⟩) (.inl hg) _
theorem Turns.set5 {F : Nat → Prop} {a w : World} (h : Turns F a w) (g : Nat) (hg : F g) (u0 u1 u2 u3 u4 : Value) : Turns F a (((((w.setCell ⟨g, 0, none⟩ u0).setCell ⟨g, 1, none⟩ u1).setCell ⟨g, 2, none⟩ u2).setCell ⟨g, 3, none⟩ u3).setCell ⟨g, 4, none⟩ u4) :=
  ((((h.setCell (p := ⟨g, 0, none⟩) (.inl hg) _).setCell (p := ⟨g, 1, none⟩) (.inl hg) _).setCell (p := ⟨g, 2, none⟩) (.inl hg) _).setCell (p := ⟨g, 3, none⟩) (.inl hg) _).setCell (p := ⟨g, 4, none⟩) (.inl hg) _

end Go.Proofs.Ytfgfjfemaniaiaa.Fl

namespace Go.Proofs.Ytfgfjfemaniaiaa.Ba
open Go.RowKit By Fl
set_option linter.unusedVariables false
set_option linter.unusedSimpArgs false

theorem Vl.turns {w W0 w1 wF : World} {y : Option Addr} {n c : Nat} {l : List Nat} (b : Below w.heap.size w W0) (h : Vl W0 w1 y n c l) (t : Turns (fun k => w.heap.size ≤ k ∧ k < W0.heap.size) w1 wF) : Vl w wF y n c l := by
  obtain ⟨h1, h2, h3⟩ := h
  refine ⟨(on b h1).trans (t.below (fun k hk => hk.1) (Nat.le_trans b.size h1.size)), h2.turns t (fun _ a ha hg => ?_), fun a ha => ⟨?_, (h3 a ha).2.of_heap (t.block _ (h3 a ha).2.lt (fun hg => ?_))⟩⟩
  · have := (h3 a ha).1
    omega
  · have := (h3 a ha).1
    have := b.size
    omega
  · have := (h3 a ha).1
    omega

theorem clone_vl (x : Option Addr) (n c : Nat) (l : List Nat) (w : World) (hl : Sl w x n c l) (hn : n ≤ 140737488355328) :
    Calls Try.prog 60 #[.slice x n c] w fun e w' => ∃ y cy, e = .returned (.slice y n cy) ∧ Hid (Vl w w' y n cy l) :=
  (clone_sl x n c l w hl hn).mono fun e w' ⟨y, cy, h1, h2⟩ => ⟨y, cy, h1, h2.out.1, h2.out.2.1, fun a ha => ⟨(h2.out.2.2 a ha).1, (h2.out.2.2 a ha).2.1⟩⟩

theorem prepare_no (p a : Bt) (x : Option Addr) (n c : Nat) (l : List Nat) (b : Bt) (w : World) (hl : Sl w x n c l) (hn : n ≤ 140737488355328) (hf : freeb p a n b = false) :
    Calls Try.prog 48 #[ac p a x n c, bt b] w fun e w' => ∃ y cy, e = .returned (.tuple #[ac p a y n cy, .bool false]) ∧ Hid (Vl w w' y n cy l) := by
  have hF := fun y cy W => free_any p a y n cy b W
  rw [hf] at hF
  clear hf
  have HC := fun W h => clone_vl x n c l W h hn
  clear hn
  obtain ⟨p1, p2⟩ := p
  obtain ⟨a1, a2⟩ := a
  obtain ⟨b1, b2⟩ := b
  unfold bt ac at *
  dsimp only at *
  have b0 : ∀ x y z, Below w.heap.size w (((w.alloc x).alloc y).alloc z) := fun x y z => (((Below.refl _ w).alloc (Nat.le_refl _) _).alloc (by simp) _).alloc (by simp; omega) _
  go_enter Try.func48, Try.ntmps48
  go_wp2_with (first
    | (
       go_at_call 60; refine (HC _ (hl.below (b0 _ _ _))).mono ?_; rintro e w1 ⟨y, cy, rfl, H1⟩; clear HC
       have k0 := keep H1.out.1 (b := w.heap.size) (o := 0) (x := .int .i64 p1) (by first | assumption | go_simp)
       have k1 := keep H1.out.1 (b := w.heap.size) (o := 1) (x := .int .i64 p2) (by first | assumption | go_simp)
       have k2 := keep H1.out.1 (b := w.heap.size) (o := 2) (x := .int .i64 a1) (by first | assumption | go_simp)
       have k3 := keep H1.out.1 (b := w.heap.size) (o := 3) (x := .int .i64 a2) (by first | assumption | go_simp)
       have k4 := keep H1.out.1 (b := w.heap.size) (o := 4) (x := .slice x n c) (by first | assumption | go_simp)
       have j0 := keep H1.out.1 (b := w.heap.size + 1) (o := 0) (x := .int .i64 b1) (by first | assumption | go_simp)
       have j1 := keep H1.out.1 (b := w.heap.size + 1) (o := 1) (x := .int .i64 b2) (by first | assumption | go_simp)
       have r0 := keep H1.out.1 (b := w.heap.size + 1 + 1) (o := 0) (x := .int .i64 0) (by first | assumption | go_simp)
       have r1 := keep H1.out.1 (b := w.heap.size + 1 + 1) (o := 1) (x := .int .i64 0) (by first | assumption | go_simp)
       have r2 := keep H1.out.1 (b := w.heap.size + 1 + 1) (o := 2) (x := .int .i64 0) (by first | assumption | go_simp)
       have r3 := keep H1.out.1 (b := w.heap.size + 1 + 1) (o := 3) (x := .int .i64 0) (by first | assumption | go_simp)
       have r4 := keep H1.out.1 (b := w.heap.size + 1 + 1) (o := 4) (x := .slice none 0 0) (by first | assumption | go_simp)
       have f4 := keepf H1.out.1 (b := w.heap.size) (o := 4) (by first | (simp <;> omega) | exact cell_lt' (a := ⟨w.heap.size, 4, none⟩) (by assumption) | (simp; exact cell_lt' (a := ⟨w.heap.size, 4, none⟩) (by assumption))) (by first | assumption | go_simp)
       have g0 := keepf H1.out.1 (b := w.heap.size + 1 + 1) (o := 0) (by first | (simp <;> omega) | exact cell_lt' (a := ⟨w.heap.size + 1 + 1, 0, none⟩) (by assumption) | (simp; exact cell_lt' (a := ⟨w.heap.size + 1 + 1, 0, none⟩) (by assumption))) (by first | assumption | go_simp)
       have g1 := keepf H1.out.1 (b := w.heap.size + 1 + 1) (o := 1) (by first | (simp <;> omega) | exact cell_lt' (a := ⟨w.heap.size + 1 + 1, 1, none⟩) (by assumption) | (simp; exact cell_lt' (a := ⟨w.heap.size + 1 + 1, 1, none⟩) (by assumption))) (by first | assumption | go_simp)
       have g2 := keepf H1.out.1 (b := w.heap.size + 1 + 1) (o := 2) (by first | (simp <;> omega) | exact cell_lt' (a := ⟨w.heap.size + 1 + 1, 2, none⟩) (by assumption) | (simp; exact cell_lt' (a := ⟨w.heap.size + 1 + 1, 2, none⟩) (by assumption))) (by first | assumption | go_simp)
       have g3 := keepf H1.out.1 (b := w.heap.size + 1 + 1) (o := 3) (by first | (simp <;> omega) | exact cell_lt' (a := ⟨w.heap.size + 1 + 1, 3, none⟩) (by assumption) | (simp; exact cell_lt' (a := ⟨w.heap.size + 1 + 1, 3, none⟩) (by assumption))) (by first | assumption | go_simp)
       have g4 := keepf H1.out.1 (b := w.heap.size + 1 + 1) (o := 4) (by first | (simp <;> omega) | exact cell_lt' (a := ⟨w.heap.size + 1 + 1, 4, none⟩) (by assumption) | (simp; exact cell_lt' (a := ⟨w.heap.size + 1 + 1, 4, none⟩) (by assumption))) (by first | assumption | go_simp)
       have T0 := Turns.refl (fun k => w.heap.size ≤ k ∧ k < w.heap.size + 1 + 1 + 1) w1
       have T1 := T0.setCell (p := ⟨w.heap.size, 4, none⟩) (.inl ⟨Nat.le_refl _, by show w.heap.size < _; omega⟩) (.slice y n cy)
       clear T0)
    | (
       go_at_call 68; refine (hF y cy _).mono ?_; rintro e w2 ⟨rfl, hb2⟩; clear hF
       have k0 := keep hb2 (b := w.heap.size) (o := 0) (x := .int .i64 p1) (by first | assumption | go_simp)
       have k1 := keep hb2 (b := w.heap.size) (o := 1) (x := .int .i64 p2) (by first | assumption | go_simp)
       have k2 := keep hb2 (b := w.heap.size) (o := 2) (x := .int .i64 a1) (by first | assumption | go_simp)
       have k3 := keep hb2 (b := w.heap.size) (o := 3) (x := .int .i64 a2) (by first | assumption | go_simp)
       have k4 := keep hb2 (b := w.heap.size) (o := 4) (x := .slice y n cy) (by first | assumption | go_simp)
       have r0 := keep hb2 (b := w.heap.size + 1 + 1) (o := 0) (x := .int .i64 0) (by first | assumption | go_simp)
       have r1 := keep hb2 (b := w.heap.size + 1 + 1) (o := 1) (x := .int .i64 0) (by first | assumption | go_simp)
       have r2 := keep hb2 (b := w.heap.size + 1 + 1) (o := 2) (x := .int .i64 0) (by first | assumption | go_simp)
       have r3 := keep hb2 (b := w.heap.size + 1 + 1) (o := 3) (x := .int .i64 0) (by first | assumption | go_simp)
       have r4 := keep hb2 (b := w.heap.size + 1 + 1) (o := 4) (x := .slice none 0 0) (by first | assumption | go_simp)
       have g0 := keepf hb2 (b := w.heap.size + 1 + 1) (o := 0) (by first | (simp <;> omega) | exact cell_lt' (a := ⟨w.heap.size + 1 + 1, 0, none⟩) (by assumption) | (simp; exact cell_lt' (a := ⟨w.heap.size + 1 + 1, 0, none⟩) (by assumption))) (by first | assumption | go_simp)
       have g1 := keepf hb2 (b := w.heap.size + 1 + 1) (o := 1) (by first | (simp <;> omega) | exact cell_lt' (a := ⟨w.heap.size + 1 + 1, 1, none⟩) (by assumption) | (simp; exact cell_lt' (a := ⟨w.heap.size + 1 + 1, 1, none⟩) (by assumption))) (by first | assumption | go_simp)
       have g2 := keepf hb2 (b := w.heap.size + 1 + 1) (o := 2) (by first | (simp <;> omega) | exact cell_lt' (a := ⟨w.heap.size + 1 + 1, 2, none⟩) (by assumption) | (simp; exact cell_lt' (a := ⟨w.heap.size + 1 + 1, 2, none⟩) (by assumption))) (by first | assumption | go_simp)
       have g3 := keepf hb2 (b := w.heap.size + 1 + 1) (o := 3) (by first | (simp <;> omega) | exact cell_lt' (a := ⟨w.heap.size + 1 + 1, 3, none⟩) (by assumption) | (simp; exact cell_lt' (a := ⟨w.heap.size + 1 + 1, 3, none⟩) (by assumption))) (by first | assumption | go_simp)
       have g4 := keepf hb2 (b := w.heap.size + 1 + 1) (o := 4) (by first | (simp <;> omega) | exact cell_lt' (a := ⟨w.heap.size + 1 + 1, 4, none⟩) (by assumption) | (simp; exact cell_lt' (a := ⟨w.heap.size + 1 + 1, 4, none⟩) (by assumption))) (by first | assumption | go_simp)
       have T2 := T1.trans (Turns.of_below hb2)
       clear T1 hb2))
  refine bodyPost_ret (v := .tuple #[.agg #[.int .i64 p1, .int .i64 p2, .int .i64 a1, .int .i64 a2, .slice y n cy], .bool false]) ?_ rfl ⟨y, cy, rfl, Vl.turns (b0 _ _ _) H1.out ?_⟩
  · rw [results_cell2 rfl]
    go_simp
  · exact (T2.set5 (w.heap.size + 1 + 1) ⟨by omega, by omega⟩ _ _ _ _ _).weak fun k hk => by simpa using hk

theorem prepare_yes (p a : Bt) (x : Option Addr) (n c : Nat) (l : List Nat) (b : Bt) (w : World) (hl : Sl w x n c l) (hn : n ≤ 140737488355328) (hf : freeb p a n b = true) :
    Calls Try.prog 48 #[ac p a x n c, bt b] w fun e w' => ∃ y cy, e = .returned (.tuple #[ac b a y n cy, .bool true]) ∧ Hid (Vl w w' y n cy l) := by
  have hF := fun y cy W => free_any p a y n cy b W
  rw [hf] at hF
  clear hf
  have HC := fun W h => clone_vl x n c l W h hn
  clear hn
  obtain ⟨p1, p2⟩ := p
  obtain ⟨a1, a2⟩ := a
  obtain ⟨b1, b2⟩ := b
  unfold bt ac at *
  dsimp only at *
  have b0 : ∀ x y z, Below w.heap.size w (((w.alloc x).alloc y).alloc z) := fun x y z => (((Below.refl _ w).alloc (Nat.le_refl _) _).alloc (by simp) _).alloc (by simp; omega) _
  go_enter Try.func48, Try.ntmps48
  go_wp2_with (first
    | (
       go_at_call 60; refine (HC _ (hl.below (b0 _ _ _))).mono ?_; rintro e w1 ⟨y, cy, rfl, H1⟩; clear HC
       have k0 := keep H1.out.1 (b := w.heap.size) (o := 0) (x := .int .i64 p1) (by first | assumption | go_simp)
       have k1 := keep H1.out.1 (b := w.heap.size) (o := 1) (x := .int .i64 p2) (by first | assumption | go_simp)
       have k2 := keep H1.out.1 (b := w.heap.size) (o := 2) (x := .int .i64 a1) (by first | assumption | go_simp)
       have k3 := keep H1.out.1 (b := w.heap.size) (o := 3) (x := .int .i64 a2) (by first | assumption | go_simp)
       have k4 := keep H1.out.1 (b := w.heap.size) (o := 4) (x := .slice x n c) (by first | assumption | go_simp)
       have j0 := keep H1.out.1 (b := w.heap.size + 1) (o := 0) (x := .int .i64 b1) (by first | assumption | go_simp)
       have j1 := keep H1.out.1 (b := w.heap.size + 1) (o := 1) (x := .int .i64 b2) (by first | assumption | go_simp)
       have r0 := keep H1.out.1 (b := w.heap.size + 1 + 1) (o := 0) (x := .int .i64 0) (by first | assumption | go_simp)
       have r1 := keep H1.out.1 (b := w.heap.size + 1 + 1) (o := 1) (x := .int .i64 0) (by first | assumption | go_simp)
       have r2 := keep H1.out.1 (b := w.heap.size + 1 + 1) (o := 2) (x := .int .i64 0) (by first | assumption | go_simp)
       have r3 := keep H1.out.1 (b := w.heap.size + 1 + 1) (o := 3) (x := .int .i64 0) (by first | assumption | go_simp)
       have r4 := keep H1.out.1 (b := w.heap.size + 1 + 1) (o := 4) (x := .slice none 0 0) (by first | assumption | go_simp)
       have f0 := keepf H1.out.1 (b := w.heap.size) (o := 0) (by first | (simp <;> omega) | exact cell_lt' (a := ⟨w.heap.size, 0, none⟩) (by assumption) | (simp; exact cell_lt' (a := ⟨w.heap.size, 0, none⟩) (by assumption))) (by first | assumption | go_simp)
       have f1 := keepf H1.out.1 (b := w.heap.size) (o := 1) (by first | (simp <;> omega) | exact cell_lt' (a := ⟨w.heap.size, 1, none⟩) (by assumption) | (simp; exact cell_lt' (a := ⟨w.heap.size, 1, none⟩) (by assumption))) (by first | assumption | go_simp)
       have f4 := keepf H1.out.1 (b := w.heap.size) (o := 4) (by first | (simp <;> omega) | exact cell_lt' (a := ⟨w.heap.size, 4, none⟩) (by assumption) | (simp; exact cell_lt' (a := ⟨w.heap.size, 4, none⟩) (by assumption))) (by first | assumption | go_simp)
       have g0 := keepf H1.out.1 (b := w.heap.size + 1 + 1) (o := 0) (by first | (simp <;> omega) | exact cell_lt' (a := ⟨w.heap.size + 1 + 1, 0, none⟩) (by assumption) | (simp; exact cell_lt' (a := ⟨w.heap.size + 1 + 1, 0, none⟩) (by assumption))) (by first | assumption | go_simp)
       have g1 := keepf H1.out.1 (b := w.heap.size + 1 + 1) (o := 1) (by first | (simp <;> omega) | exact cell_lt' (a := ⟨w.heap.size + 1 + 1, 1, none⟩) (by assumption) | (simp; exact cell_lt' (a := ⟨w.heap.size + 1 + 1, 1, none⟩) (by assumption))) (by first | assumption | go_simp)
       have g2 := keepf H1.out.1 (b := w.heap.size + 1 + 1) (o := 2) (by first | (simp <;> omega) | exact cell_lt' (a := ⟨w.heap.size + 1 + 1, 2, none⟩) (by assumption) | (simp; exact cell_lt' (a := ⟨w.heap.size + 1 + 1, 2, none⟩) (by assumption))) (by first | assumption | go_simp)
       have g3 := keepf H1.out.1 (b := w.heap.size + 1 + 1) (o := 3) (by first | (simp <;> omega) | exact cell_lt' (a := ⟨w.heap.size + 1 + 1, 3, none⟩) (by assumption) | (simp; exact cell_lt' (a := ⟨w.heap.size + 1 + 1, 3, none⟩) (by assumption))) (by first | assumption | go_simp)
       have g4 := keepf H1.out.1 (b := w.heap.size + 1 + 1) (o := 4) (by first | (simp <;> omega) | exact cell_lt' (a := ⟨w.heap.size + 1 + 1, 4, none⟩) (by assumption) | (simp; exact cell_lt' (a := ⟨w.heap.size + 1 + 1, 4, none⟩) (by assumption))) (by first | assumption | go_simp)
       have T0 := Turns.refl (fun k => w.heap.size ≤ k ∧ k < w.heap.size + 1 + 1 + 1) w1
       have T1 := T0.setCell (p := ⟨w.heap.size, 4, none⟩) (.inl ⟨Nat.le_refl _, by show w.heap.size < _; omega⟩) (.slice y n cy)
       clear T0)
    | (
       go_at_call 68; refine (hF y cy _).mono ?_; rintro e w2 ⟨rfl, hb2⟩; clear hF
       have k0 := keep hb2 (b := w.heap.size) (o := 0) (x := .int .i64 p1) (by first | assumption | go_simp)
       have k1 := keep hb2 (b := w.heap.size) (o := 1) (x := .int .i64 p2) (by first | assumption | go_simp)
       have k2 := keep hb2 (b := w.heap.size) (o := 2) (x := .int .i64 a1) (by first | assumption | go_simp)
       have k3 := keep hb2 (b := w.heap.size) (o := 3) (x := .int .i64 a2) (by first | assumption | go_simp)
       have k4 := keep hb2 (b := w.heap.size) (o := 4) (x := .slice y n cy) (by first | assumption | go_simp)
       have j0 := keep hb2 (b := w.heap.size + 1) (o := 0) (x := .int .i64 b1) (by first | assumption | go_simp)
       have j1 := keep hb2 (b := w.heap.size + 1) (o := 1) (x := .int .i64 b2) (by first | assumption | go_simp)
       have f0 := keepf hb2 (b := w.heap.size) (o := 0) (by first | (simp <;> omega) | exact cell_lt' (a := ⟨w.heap.size, 0, none⟩) (by assumption) | (simp; exact cell_lt' (a := ⟨w.heap.size, 0, none⟩) (by assumption))) (by first | assumption | go_simp)
       have f1 := keepf hb2 (b := w.heap.size) (o := 1) (by first | (simp <;> omega) | exact cell_lt' (a := ⟨w.heap.size, 1, none⟩) (by assumption) | (simp; exact cell_lt' (a := ⟨w.heap.size, 1, none⟩) (by assumption))) (by first | assumption | go_simp)
       have r0 := keep hb2 (b := w.heap.size + 1 + 1) (o := 0) (x := .int .i64 0) (by first | assumption | go_simp)
       have r1 := keep hb2 (b := w.heap.size + 1 + 1) (o := 1) (x := .int .i64 0) (by first | assumption | go_simp)
       have r2 := keep hb2 (b := w.heap.size + 1 + 1) (o := 2) (x := .int .i64 0) (by first | assumption | go_simp)
       have r3 := keep hb2 (b := w.heap.size + 1 + 1) (o := 3) (x := .int .i64 0) (by first | assumption | go_simp)
       have r4 := keep hb2 (b := w.heap.size + 1 + 1) (o := 4) (x := .slice none 0 0) (by first | assumption | go_simp)
       have g0 := keepf hb2 (b := w.heap.size + 1 + 1) (o := 0) (by first | (simp <;> omega) | exact cell_lt' (a := ⟨w.heap.size + 1 + 1, 0, none⟩) (by assumption) | (simp; exact cell_lt' (a := ⟨w.heap.size + 1 + 1, 0, none⟩) (by assumption))) (by first | assumption | go_simp)
       have g1 := keepf hb2 (b := w.heap.size + 1 + 1) (o := 1) (by first | (simp <;> omega) | exact cell_lt' (a := ⟨w.heap.size + 1 + 1, 1, none⟩) (by assumption) | (simp; exact cell_lt' (a := ⟨w.heap.size + 1 + 1, 1, none⟩) (by assumption))) (by first | assumption | go_simp)
       have g2 := keepf hb2 (b := w.heap.size + 1 + 1) (o := 2) (by first | (simp <;> omega) | exact cell_lt' (a := ⟨w.heap.size + 1 + 1, 2, none⟩) (by assumption) | (simp; exact cell_lt' (a := ⟨w.heap.size + 1 + 1, 2, none⟩) (by assumption))) (by first | assumption | go_simp)
       have g3 := keepf hb2 (b := w.heap.size + 1 + 1) (o := 3) (by first | (simp <;> omega) | exact cell_lt' (a := ⟨w.heap.size + 1 + 1, 3, none⟩) (by assumption) | (simp; exact cell_lt' (a := ⟨w.heap.size + 1 + 1, 3, none⟩) (by assumption))) (by first | assumption | go_simp)
       have g4 := keepf hb2 (b := w.heap.size + 1 + 1) (o := 4) (by first | (simp <;> omega) | exact cell_lt' (a := ⟨w.heap.size + 1 + 1, 4, none⟩) (by assumption) | (simp; exact cell_lt' (a := ⟨w.heap.size + 1 + 1, 4, none⟩) (by assumption))) (by first | assumption | go_simp)
       have T2 := T1.trans (Turns.of_below hb2)
       clear T1 hb2))
  refine bodyPost_ret (v := .tuple #[.agg #[.int .i64 b1, .int .i64 b2, .int .i64 a1, .int .i64 a2, .slice y n cy], .bool true]) ?_ rfl ⟨y, cy, rfl, Vl.turns (b0 _ _ _) H1.out ?_⟩
  · rw [results_cell2 rfl]
    go_simp
  · exact ((T2.set2 w.heap.size ⟨by omega, by omega⟩ _ _).set5 (w.heap.size + 1 + 1) ⟨by omega, by omega⟩ _ _ _ _ _).weak fun k hk => by simpa using hk

end Go.Proofs.Ytfgfjfemaniaiaa.Ba
