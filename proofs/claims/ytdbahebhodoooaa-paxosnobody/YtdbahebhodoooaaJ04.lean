/-
  2 texts of this proof, one behind the other: BaCalls, PxPlain.
-/
import Derived.Test.YtdbahebhodoooaaJ03
import Derived.Test.YtdbahebhodoooaaJ01
/-
  What acceptors answer: May, free, Prepare, Accept; the document's own.
  Conditions: none.
-/
namespace Go.Proofs.Ytdbahebhodoooaa.Ba
open Go.RowKit By Fl
set_option linter.unusedVariables false
set_option linter.unusedSimpArgs false
set_option maxRecDepth 100000

def mayA (p a : Bt) (n : Nat) : Bool := mzb p && mzb a && !ltb p a && (!zb a || decide (n = 0))
def freeb (p a : Bt) (n : Nat) (b : Bt) : Bool := mayA p a n && mayb b && !ltb b p
def ac (p a : Bt) (x : Option Addr) (n c : Nat) : Value := .agg #[.int .i64 p.1, .int .i64 p.2, .int .i64 a.1, .int .i64 a.2, .slice x n c]

theorem mayA_any (p a : Bt) (x : Option Addr) (n c : Nat) (w : World) : Calls Try.prog 81 #[ac p a x n c] w fun e w' => e = .returned (.bool (mayA p a n)) ∧ Below w.heap.size w w' := by
  obtain ⟨p1, p2⟩ := p
  obtain ⟨a1, a2⟩ := a
  have hP := fun W => mzb_any (p1, p2) W
  have hA := fun W => mzb_any (a1, a2) W
  have hL := fun W => less_any (p1, p2) (a1, a2) W
  have hZ := fun W => none_any (a1, a2) W
  unfold mayA
  generalize mzb (p1, p2) = tp at *
  generalize mzb (a1, a2) = ta at *
  generalize ltb (p1, p2) (a1, a2) = tl at *
  generalize zb (a1, a2) = tz at *
  unfold bt at *
  unfold ac
  dsimp only at *
  have b0 : ∀ x, Below w.heap.size w (w.alloc x) := fun x => (Below.refl _ w).alloc (Nat.le_refl _) _
  cases tp with
  | false =>
    go_enter Try.func81, Try.ntmps81
    go_wp2_with (first
      | (
         go_at_call 93; refine (hP _).mono ?_; rintro e w1 ⟨rfl, hb1⟩; clear hP))
    go_ret
    exact ⟨by simp, on (b0 _) hb1⟩
  | true =>
  cases ta with
  | false =>
    go_enter Try.func81, Try.ntmps81
    go_wp2_with (first
      | (
         go_at_call 93; refine (hP _).mono ?_; rintro e w1 ⟨rfl, hb1⟩; clear hP
         have k0 := keep hb1 (b := w.heap.size) (o := 0) (x := .int .i64 p1) (by first | assumption | go_simp)
         have k1 := keep hb1 (b := w.heap.size) (o := 1) (x := .int .i64 p2) (by first | assumption | go_simp)
         have k2 := keep hb1 (b := w.heap.size) (o := 2) (x := .int .i64 a1) (by first | assumption | go_simp)
         have k3 := keep hb1 (b := w.heap.size) (o := 3) (x := .int .i64 a2) (by first | assumption | go_simp)
         have k4 := keep hb1 (b := w.heap.size) (o := 4) (x := .slice x n c) (by first | assumption | go_simp)
         have B1 := on (b0 _) hb1; clear hb1)
      | (
         go_at_call 93; refine (hA _).mono ?_; rintro e w2 ⟨rfl, hb2⟩; clear hA
         have B2 := on B1 hb2; clear hb2))
    go_ret
    exact ⟨by simp, B2⟩
  | true =>
  cases tl with
  | true =>
    go_enter Try.func81, Try.ntmps81
    go_wp2_with (first
      | (
         go_at_call 93; refine (hP _).mono ?_; rintro e w1 ⟨rfl, hb1⟩; clear hP
         have k0 := keep hb1 (b := w.heap.size) (o := 0) (x := .int .i64 p1) (by first | assumption | go_simp)
         have k1 := keep hb1 (b := w.heap.size) (o := 1) (x := .int .i64 p2) (by first | assumption | go_simp)
         have k2 := keep hb1 (b := w.heap.size) (o := 2) (x := .int .i64 a1) (by first | assumption | go_simp)
         have k3 := keep hb1 (b := w.heap.size) (o := 3) (x := .int .i64 a2) (by first | assumption | go_simp)
         have k4 := keep hb1 (b := w.heap.size) (o := 4) (x := .slice x n c) (by first | assumption | go_simp)
         have B1 := on (b0 _) hb1; clear hb1)
      | (
         go_at_call 93; refine (hA _).mono ?_; rintro e w2 ⟨rfl, hb2⟩; clear hA
         have l0 := keep hb2 (b := w.heap.size) (o := 0) (x := .int .i64 p1) (by first | assumption | go_simp)
         have l1 := keep hb2 (b := w.heap.size) (o := 1) (x := .int .i64 p2) (by first | assumption | go_simp)
         have l2 := keep hb2 (b := w.heap.size) (o := 2) (x := .int .i64 a1) (by first | assumption | go_simp)
         have l3 := keep hb2 (b := w.heap.size) (o := 3) (x := .int .i64 a2) (by first | assumption | go_simp)
         have l4 := keep hb2 (b := w.heap.size) (o := 4) (x := .slice x n c) (by first | assumption | go_simp)
         have B2 := on B1 hb2; clear hb2 k0 k1 k2 k3 k4)
      | (
         go_at_call 51; refine (hL _).mono ?_; rintro e w3 ⟨rfl, hb3⟩; clear hL
         have B3 := on B2 hb3; clear hb3))
    go_ret
    exact ⟨by simp, B3⟩
  | false =>
  cases tz with
  | false =>
    go_enter Try.func81, Try.ntmps81
    go_wp2_with (first
      | (
         go_at_call 93; refine (hP _).mono ?_; rintro e w1 ⟨rfl, hb1⟩; clear hP
         have k0 := keep hb1 (b := w.heap.size) (o := 0) (x := .int .i64 p1) (by first | assumption | go_simp)
         have k1 := keep hb1 (b := w.heap.size) (o := 1) (x := .int .i64 p2) (by first | assumption | go_simp)
         have k2 := keep hb1 (b := w.heap.size) (o := 2) (x := .int .i64 a1) (by first | assumption | go_simp)
         have k3 := keep hb1 (b := w.heap.size) (o := 3) (x := .int .i64 a2) (by first | assumption | go_simp)
         have k4 := keep hb1 (b := w.heap.size) (o := 4) (x := .slice x n c) (by first | assumption | go_simp)
         have B1 := on (b0 _) hb1; clear hb1)
      | (
         go_at_call 93; refine (hA _).mono ?_; rintro e w2 ⟨rfl, hb2⟩; clear hA
         have l0 := keep hb2 (b := w.heap.size) (o := 0) (x := .int .i64 p1) (by first | assumption | go_simp)
         have l1 := keep hb2 (b := w.heap.size) (o := 1) (x := .int .i64 p2) (by first | assumption | go_simp)
         have l2 := keep hb2 (b := w.heap.size) (o := 2) (x := .int .i64 a1) (by first | assumption | go_simp)
         have l3 := keep hb2 (b := w.heap.size) (o := 3) (x := .int .i64 a2) (by first | assumption | go_simp)
         have l4 := keep hb2 (b := w.heap.size) (o := 4) (x := .slice x n c) (by first | assumption | go_simp)
         have B2 := on B1 hb2; clear hb2 k0 k1 k2 k3 k4)
      | (
         go_at_call 51; refine (hL _).mono ?_; rintro e w3 ⟨rfl, hb3⟩; clear hL
         have m0 := keep hb3 (b := w.heap.size) (o := 0) (x := .int .i64 p1) (by first | assumption | go_simp)
         have m1 := keep hb3 (b := w.heap.size) (o := 1) (x := .int .i64 p2) (by first | assumption | go_simp)
         have m2 := keep hb3 (b := w.heap.size) (o := 2) (x := .int .i64 a1) (by first | assumption | go_simp)
         have m3 := keep hb3 (b := w.heap.size) (o := 3) (x := .int .i64 a2) (by first | assumption | go_simp)
         have m4 := keep hb3 (b := w.heap.size) (o := 4) (x := .slice x n c) (by first | assumption | go_simp)
         have B3 := on B2 hb3; clear hb3 l0 l1 l2 l3 l4)
      | (
         go_at_call 95; refine (hZ _).mono ?_; rintro e w4 ⟨rfl, hb4⟩; clear hZ
         have B4 := on B3 hb4; clear hb4))
    go_ret
    exact ⟨by simp, B4⟩
  | true =>
    go_enter Try.func81, Try.ntmps81
    go_wp2_with (first
      | (
         go_at_call 93; refine (hP _).mono ?_; rintro e w1 ⟨rfl, hb1⟩; clear hP
         have k0 := keep hb1 (b := w.heap.size) (o := 0) (x := .int .i64 p1) (by first | assumption | go_simp)
         have k1 := keep hb1 (b := w.heap.size) (o := 1) (x := .int .i64 p2) (by first | assumption | go_simp)
         have k2 := keep hb1 (b := w.heap.size) (o := 2) (x := .int .i64 a1) (by first | assumption | go_simp)
         have k3 := keep hb1 (b := w.heap.size) (o := 3) (x := .int .i64 a2) (by first | assumption | go_simp)
         have k4 := keep hb1 (b := w.heap.size) (o := 4) (x := .slice x n c) (by first | assumption | go_simp)
         have B1 := on (b0 _) hb1; clear hb1)
      | (
         go_at_call 93; refine (hA _).mono ?_; rintro e w2 ⟨rfl, hb2⟩; clear hA
         have l0 := keep hb2 (b := w.heap.size) (o := 0) (x := .int .i64 p1) (by first | assumption | go_simp)
         have l1 := keep hb2 (b := w.heap.size) (o := 1) (x := .int .i64 p2) (by first | assumption | go_simp)
         have l2 := keep hb2 (b := w.heap.size) (o := 2) (x := .int .i64 a1) (by first | assumption | go_simp)
         have l3 := keep hb2 (b := w.heap.size) (o := 3) (x := .int .i64 a2) (by first | assumption | go_simp)
         have l4 := keep hb2 (b := w.heap.size) (o := 4) (x := .slice x n c) (by first | assumption | go_simp)
         have B2 := on B1 hb2; clear hb2 k0 k1 k2 k3 k4)
      | (
         go_at_call 51; refine (hL _).mono ?_; rintro e w3 ⟨rfl, hb3⟩; clear hL
         have m0 := keep hb3 (b := w.heap.size) (o := 0) (x := .int .i64 p1) (by first | assumption | go_simp)
         have m1 := keep hb3 (b := w.heap.size) (o := 1) (x := .int .i64 p2) (by first | assumption | go_simp)
         have m2 := keep hb3 (b := w.heap.size) (o := 2) (x := .int .i64 a1) (by first | assumption | go_simp)
         have m3 := keep hb3 (b := w.heap.size) (o := 3) (x := .int .i64 a2) (by first | assumption | go_simp)
         have m4 := keep hb3 (b := w.heap.size) (o := 4) (x := .slice x n c) (by first | assumption | go_simp)
         have B3 := on B2 hb3; clear hb3 l0 l1 l2 l3 l4)
      | (
         go_at_call 95; refine (hZ _).mono ?_; rintro e w4 ⟨rfl, hb4⟩; clear hZ
         have q0 := keep hb4 (b := w.heap.size) (o := 0) (x := .int .i64 p1) (by first | assumption | go_simp)
         have q1 := keep hb4 (b := w.heap.size) (o := 1) (x := .int .i64 p2) (by first | assumption | go_simp)
         have q2 := keep hb4 (b := w.heap.size) (o := 2) (x := .int .i64 a1) (by first | assumption | go_simp)
         have q3 := keep hb4 (b := w.heap.size) (o := 3) (x := .int .i64 a2) (by first | assumption | go_simp)
         have q4 := keep hb4 (b := w.heap.size) (o := 4) (x := .slice x n c) (by first | assumption | go_simp)
         have B4 := on B3 hb4; clear hb4))
    go_ret
    exact ⟨by simp [nz], B4⟩

theorem free_any (p a : Bt) (x : Option Addr) (n c : Nat) (b : Bt) (w : World) : Calls Try.prog 68 #[ac p a x n c, bt b] w fun e w' => e = .returned (.bool (freeb p a n b)) ∧ Below w.heap.size w w' := by
  have hM := fun W => mayA_any p a x n c W
  have hB := fun W => may_any b W
  have hL := fun W => less_any b p W
  unfold freeb
  generalize mayA p a n = tm at *
  generalize mayb b = tb at *
  generalize ltb b p = tl at *
  obtain ⟨p1, p2⟩ := p
  obtain ⟨a1, a2⟩ := a
  obtain ⟨b1, b2⟩ := b
  unfold bt ac at *
  dsimp only at *
  have b0 : ∀ x y, Below w.heap.size w ((w.alloc x).alloc y) := fun x y => ((Below.refl _ w).alloc (Nat.le_refl _) _).alloc (by simp) _
  cases tm with
  | false =>
    go_enter Try.func68, Try.ntmps68
    go_wp2_with (first
      | (
         go_at_call 81; refine (hM _).mono ?_; rintro e w1 ⟨rfl, hb1⟩; clear hM))
    go_ret
    exact ⟨by simp, on (b0 _ _) hb1⟩
  | true =>
  cases tb with
  | false =>
    go_enter Try.func68, Try.ntmps68
    go_wp2_with (first
      | (
         go_at_call 81; refine (hM _).mono ?_; rintro e w1 ⟨rfl, hb1⟩; clear hM
         have k0 := keep hb1 (b := w.heap.size) (o := 0) (x := .int .i64 p1) (by first | assumption | go_simp)
         have k1 := keep hb1 (b := w.heap.size) (o := 1) (x := .int .i64 p2) (by first | assumption | go_simp)
         have j0 := keep hb1 (b := w.heap.size + 1) (o := 0) (x := .int .i64 b1) (by first | assumption | go_simp)
         have j1 := keep hb1 (b := w.heap.size + 1) (o := 1) (x := .int .i64 b2) (by first | assumption | go_simp)
         have B1 := on (b0 _ _) hb1; clear hb1)
      | (
         go_at_call 84; refine (hB _).mono ?_; rintro e w2 ⟨rfl, hb2⟩; clear hB))
    go_ret
    exact ⟨by simp, on B1 hb2⟩
  | true =>
    go_enter Try.func68, Try.ntmps68
    go_wp2_with (first
      | (
         go_at_call 81; refine (hM _).mono ?_; rintro e w1 ⟨rfl, hb1⟩; clear hM
         have k0 := keep hb1 (b := w.heap.size) (o := 0) (x := .int .i64 p1) (by first | assumption | go_simp)
         have k1 := keep hb1 (b := w.heap.size) (o := 1) (x := .int .i64 p2) (by first | assumption | go_simp)
         have j0 := keep hb1 (b := w.heap.size + 1) (o := 0) (x := .int .i64 b1) (by first | assumption | go_simp)
         have j1 := keep hb1 (b := w.heap.size + 1) (o := 1) (x := .int .i64 b2) (by first | assumption | go_simp)
         have B1 := on (b0 _ _) hb1; clear hb1)
      | (
         go_at_call 84; refine (hB _).mono ?_; rintro e w2 ⟨rfl, hb2⟩; clear hB
         have l0 := keep hb2 (b := w.heap.size) (o := 0) (x := .int .i64 p1) (by first | assumption | go_simp)
         have l1 := keep hb2 (b := w.heap.size) (o := 1) (x := .int .i64 p2) (by first | assumption | go_simp)
         have m0 := keep hb2 (b := w.heap.size + 1) (o := 0) (x := .int .i64 b1) (by first | assumption | go_simp)
         have m1 := keep hb2 (b := w.heap.size + 1) (o := 1) (x := .int .i64 b2) (by first | assumption | go_simp)
         have B2 := on B1 hb2; clear hb2 k0 k1 j0 j1)
      | (
         go_at_call 51; refine (hL _).mono ?_; rintro e w3 ⟨rfl, hb3⟩; clear hL))
    go_ret
    exact ⟨by simp, on B2 hb3⟩

/- bytes.Clone. -/
theorem clone_sl (x : Option Addr) (n c : Nat) (l : List Nat) (w : World) (hl : Sl w x n c l) (hn : n ≤ 140737488355328) :
    Calls Try.prog 60 #[.slice x n c] w fun e w' => ∃ y cy, e = .returned (.slice y n cy) ∧ Hid (Below w.heap.size w w' ∧ Sl w' y n cy l ∧ (∀ a, y = some a → w.heap.size ≤ a.block ∧ Tb w' a.block 5 ∧ (∀ j, w'.frozen? ⟨a.block, j, none⟩ = false) ∧ a = ⟨a.block, 0, none⟩)) := by
  cases x with
  | none =>
    obtain ⟨rfl, rfl⟩ := hl.nil' rfl
    have h0 : l = [] := List.eq_nil_of_length_eq_zero hl.len
    subst h0
    exact (clone_nil w).mono fun e w' h => ⟨none, 0, h.1, by rw [h.2]; exact Below.refl _ _, Sl.empty _, fun a ha => by cases ha⟩
  | some ad =>
    obtain ⟨g, cy, w', hrun, h1, h0, h2, h3, h4, h5⟩ := bytes_copy w (some ad) n c (gl l) hl.row (fun h => by cases h) hn
    have hcy : n ≤ cy ∧ Tb w' g 5 ∧ ∀ j, w'.frozen? ⟨g, j, none⟩ = false := by
      rcases h0.2 with ⟨h, _⟩ | ⟨g', c', cur, h, _, hg, hc, _⟩
      · cases h
      · injection h with h _ e
        injection h with h
        injection h with h _ _
        subst h
        subst e
        exact ⟨hc, ⟨_, _, hg⟩, fun j => by simp [World.frozen?, hg]⟩
    have H1 : Hid (Below w.heap.size w w' ∧ Sl w' (some ⟨g, 0, none⟩) n cy l ∧ Tb w' g 5 ∧ (∀ j, w'.frozen? ⟨g, j, none⟩ = false) ∧ w.heap.size ≤ g) := ⟨h1, ⟨hl.len, hcy.1, (fun h => by cases h), h5, hl.lt⟩, hcy.2.1, hcy.2.2, h2⟩
    have he : ∀ w : World, (binOp .eql 35 (.slice (some ad) n c) (.slice none 0 0)).run Try.prog w = .ok (.bool false) w := fun _ => by kernel_rfl
    clear h1 h0 h4 h5 hl hcy h2 h3
    go_enter Try.func60, Try.ntmps60
    go_wp2_with (at_builtin; refine wpList_append_run rfl _ _ 35 rfl _ _ rfl rfl hrun ?_; clear hrun)
    go_ret
    exact ⟨some ⟨g, 0, none⟩, cy, rfl, H1.out.1, H1.out.2.1, fun a ha => by cases ha; exact ⟨H1.out.2.2.2.2, H1.out.2.2.1, H1.out.2.2.2.1, rfl⟩⟩

theorem keepf {w v : World} {b o : Nat} (hb : Below w.heap.size w v) (hlt : b < w.heap.size) (h : w.frozen? ⟨b, o, none⟩ = false) : v.frozen? ⟨b, o, none⟩ = false := by
  rw [← h]
  unfold World.frozen?
  rw [hb.block b hlt]

/- What an acceptor that is told is like: its value lies in memory of its own. -/
def Vl (w w' : World) (y : Option Addr) (n c : Nat) (l : List Nat) : Prop := Below w.heap.size w w' ∧ Sl w' y n c l ∧ ∀ a, y = some a → w.heap.size ≤ a.block ∧ Tb w' a.block 5

theorem results_cell2 {fn : Func} {p q : Tmp} {ty : TypeId} (h : fn.results = #[.cell p ty, .tmp q]) (tmps : Array Value) (P : Program) (w : World) :
    (results fn tmps).run P w = ((asAddr (tmps.getD p undef)).run P w).andThen fun a w₁ => ((loadVar ty a).run P w₁).andThen fun v w₂ => .ok (.tuple #[v, tmps.getD q undef]) w₂ := by
  simp only [results, h]
  simp [Sem.run_bind, Result.andThen]

end Go.Proofs.Ytdbahebhodoooaa.Ba

namespace Go.Proofs.Ytdbahebhodoooaa.Fl
open Go.RowKit By

theorem Turns.set2 {F : Nat → Prop} {a w : World} (h : Turns F a w) (g : Nat) (hg : F g) (u0 u1 : Value) : Turns F a ((w.setCell ⟨g, 0, none⟩ u0).setCell ⟨g, 1, none⟩ u1) :=
  (h.setCell (p := ⟨g, 0, none⟩) (.inl hg) _).setCell (p := ⟨g, 1, none⟩) (.inl hg) _
theorem Turns.set5 {F : Nat → Prop} {a w : World} (h : Turns F a w) (g : Nat) (hg : F g) (u0 u1 u2 u3 u4 : Value) : Turns F a (((((w.setCell ⟨g, 0, none⟩ u0).setCell ⟨g, 1, none⟩ u1).setCell ⟨g, 2, none⟩ u2).setCell ⟨g, 3, none⟩ u3).setCell ⟨g, 4, none⟩ u4) :=
  ((((h.setCell (p := ⟨g, 0, none⟩) (.inl hg) _).setCell (p := ⟨g, 1, none⟩) (.inl hg) _).setCell (p := ⟨g, 2, none⟩) (.inl hg) _).setCell (p := ⟨g, 3, none⟩) (.inl hg) _).setCell (p := ⟨g, 4, none⟩) (.inl hg) _

end Go.Proofs.Ytdbahebhodoooaa.Fl

namespace Go.Proofs.Ytdbahebhodoooaa.Ba
open Go.RowKit By Fl
set_option linter.unusedVariables false
set_option linter.unusedSimpArgs false

theorem Vl.turns {w W0 w1 wF : World} {y : Option Addr} {n c : Nat} {l : List Nat} (b : Below w.heap.size w W0) (h : Vl W0 w1 y n c l) (t : Turns (fun k => w.heap.size ≤ k ∧ k < W0.heap.size) w1 wF) : Vl w wF y n c l := by
  obtain ⟨h1, h2, h3⟩ := h
  refine ⟨(on b h1).trans (t.below (fun k hk => hk.1) (Nat.le_trans b.size h1.size)), h2.turns t (fun _ a ha hg => ?_), fun a ha => ⟨?_, (h3 a ha).2.of_heap (t.block _ (h3 a ha).2.lt (fun hg => ?_))⟩⟩
  · have := (h3 a ha).1
    omega
  · have := (h3 a ha).1
    have := b.size
    omega
  · have := (h3 a ha).1
    omega

theorem clone_vl (x : Option Addr) (n c : Nat) (l : List Nat) (w : World) (hl : Sl w x n c l) (hn : n ≤ 140737488355328) :
    Calls Try.prog 60 #[.slice x n c] w fun e w' => ∃ y cy, e = .returned (.slice y n cy) ∧ Hid (Vl w w' y n cy l) :=
  (clone_sl x n c l w hl hn).mono fun e w' ⟨y, cy, h1, h2⟩ => ⟨y, cy, h1, h2.out.1, h2.out.2.1, fun a ha => ⟨(h2.out.2.2 a ha).1, (h2.out.2.2 a ha).2.1⟩⟩

theorem prepare_no (p a : Bt) (x : Option Addr) (n c : Nat) (l : List Nat) (b : Bt) (w : World) (hl : Sl w x n c l) (hn : n ≤ 140737488355328) (hf : freeb p a n b = false) :
    Calls Try.prog 48 #[ac p a x n c, bt b] w fun e w' => ∃ y cy, e = .returned (.tuple #[ac p a y n cy, .bool false]) ∧ Hid (Vl w w' y n cy l) := by
  have hF := fun y cy W => free_any p a y n cy b W
  rw [hf] at hF
  clear hf
  have HC := fun W h => clone_vl x n c l W h hn
  clear hn
  obtain ⟨p1, p2⟩ := p
  obtain ⟨a1, a2⟩ := a
  obtain ⟨b1, b2⟩ := b
  unfold bt ac at *
  dsimp only at *
  have b0 : ∀ x y z, Below w.heap.size w (((w.alloc x).alloc y).alloc z) := fun x y z => (((Below.refl _ w).alloc (Nat.le_refl _) _).alloc (by simp) _).alloc (by simp; omega) _
  go_enter Try.func48, Try.ntmps48
  go_wp2_with (first
    | (
       go_at_call 60; refine (HC _ (hl.below (b0 _ _ _))).mono ?_; rintro e w1 ⟨y, cy, rfl, H1⟩; clear HC
       have k0 := keep H1.out.1 (b := w.heap.size) (o := 0) (x := .int .i64 p1) (by first | assumption | go_simp)
       have k1 := keep H1.out.1 (b := w.heap.size) (o := 1) (x := .int .i64 p2) (by first | assumption | go_simp)
       have k2 := keep H1.out.1 (b := w.heap.size) (o := 2) (x := .int .i64 a1) (by first | assumption | go_simp)
       have k3 := keep H1.out.1 (b := w.heap.size) (o := 3) (x := .int .i64 a2) (by first | assumption | go_simp)
       have k4 := keep H1.out.1 (b := w.heap.size) (o := 4) (x := .slice x n c) (by first | assumption | go_simp)
       have j0 := keep H1.out.1 (b := w.heap.size + 1) (o := 0) (x := .int .i64 b1) (by first | assumption | go_simp)
       have j1 := keep H1.out.1 (b := w.heap.size + 1) (o := 1) (x := .int .i64 b2) (by first | assumption | go_simp)
       have r0 := keep H1.out.1 (b := w.heap.size + 1 + 1) (o := 0) (x := .int .i64 0) (by first | assumption | go_simp)
       have r1 := keep H1.out.1 (b := w.heap.size + 1 + 1) (o := 1) (x := .int .i64 0) (by first | assumption | go_simp)
       have r2 := keep H1.out.1 (b := w.heap.size + 1 + 1) (o := 2) (x := .int .i64 0) (by first | assumption | go_simp)
       have r3 := keep H1.out.1 (b := w.heap.size + 1 + 1) (o := 3) (x := .int .i64 0) (by first | assumption | go_simp)
       have r4 := keep H1.out.1 (b := w.heap.size + 1 + 1) (o := 4) (x := .slice none 0 0) (by first | assumption | go_simp)
       have f4 := keepf H1.out.1 (b := w.heap.size) (o := 4) (by first | (simp <;> omega) | exact cell_lt' (a := ⟨w.heap.size, 4, none⟩) (by assumption) | (simp; exact cell_lt' (a := ⟨w.heap.size, 4, none⟩) (by assumption))) (by first | assumption | go_simp)
       have g0 := keepf H1.out.1 (b := w.heap.size + 1 + 1) (o := 0) (by first | (simp <;> omega) | exact cell_lt' (a := ⟨w.heap.size + 1 + 1, 0, none⟩) (by assumption) | (simp; exact cell_lt' (a := ⟨w.heap.size + 1 + 1, 0, none⟩) (by assumption))) (by first | assumption | go_simp)
       have g1 := keepf H1.out.1 (b := w.heap.size + 1 + 1) (o := 1) (by first | (simp <;> omega) | exact cell_lt' (a := ⟨w.heap.size + 1 + 1, 1, none⟩) (by assumption) | (simp; exact cell_lt' (a := ⟨w.heap.size + 1 + 1, 1, none⟩) (by assumption))) (by first | assumption | go_simp)
       have g2 := keepf H1.out.1 (b := w.heap.size + 1 + 1) (o := 2) (by first | (simp <;> omega) | exact cell_lt' (a := ⟨w.heap.size + 1 + 1, 2, none⟩) (by assumption) | (simp; exact cell_lt' (a := ⟨w.heap.size + 1 + 1, 2, none⟩) (by assumption))) (by first | assumption | go_simp)
       have g3 := keepf H1.out.1 (b := w.heap.size + 1 + 1) (o := 3) (by first | (simp <;> omega) | exact cell_lt' (a := ⟨w.heap.size + 1 + 1, 3, none⟩) (by assumption) | (simp; exact cell_lt' (a := ⟨w.heap.size + 1 + 1, 3, none⟩) (by assumption))) (by first | assumption | go_simp)
       have g4 := keepf H1.out.1 (b := w.heap.size + 1 + 1) (o := 4) (by first | (simp <;> omega) | exact cell_lt' (a := ⟨w.heap.size + 1 + 1, 4, none⟩) (by assumption) | (simp; exact cell_lt' (a := ⟨w.heap.size + 1 + 1, 4, none⟩) (by assumption))) (by first | assumption | go_simp)
       have T0 := Turns.refl (fun k => w.heap.size ≤ k ∧ k < w.heap.size + 1 + 1 + 1) w1
       have T1 := T0.setCell (p := ⟨w.heap.size, 4, none⟩) (.inl ⟨Nat.le_refl _, by show w.heap.size < _; omega⟩) (.slice y n cy)
       clear T0)
    | (
       go_at_call 68; refine (hF y cy _).mono ?_; rintro e w2 ⟨rfl, hb2⟩; clear hF
       have k0 := keep hb2 (b := w.heap.size) (o := 0) (x := .int .i64 p1) (by first | assumption | go_simp)
       have k1 := keep hb2 (b := w.heap.size) (o := 1) (x := .int .i64 p2) (by first | assumption | go_simp)
       have k2 := keep hb2 (b := w.heap.size) (o := 2) (x := .int .i64 a1) (by first | assumption | go_simp)
       have k3 := keep hb2 (b := w.heap.size) (o := 3) (x := .int .i64 a2) (by first | assumption | go_simp)
       have k4 := keep hb2 (b := w.heap.size) (o := 4) (x := .slice y n cy) (by first | assumption | go_simp)
       have r0 := keep hb2 (b := w.heap.size + 1 + 1) (o := 0) (x := .int .i64 0) (by first | assumption | go_simp)
       have r1 := keep hb2 (b := w.heap.size + 1 + 1) (o := 1) (x := .int .i64 0) (by first | assumption | go_simp)
       have r2 := keep hb2 (b := w.heap.size + 1 + 1) (o := 2) (x := .int .i64 0) (by first | assumption | go_simp)
       have r3 := keep hb2 (b := w.heap.size + 1 + 1) (o := 3) (x := .int .i64 0) (by first | assumption | go_simp)
       have r4 := keep hb2 (b := w.heap.size + 1 + 1) (o := 4) (x := .slice none 0 0) (by first | assumption | go_simp)
       have g0 := keepf hb2 (b := w.heap.size + 1 + 1) (o := 0) (by first | (simp <;> omega) | exact cell_lt' (a := ⟨w.heap.size + 1 + 1, 0, none⟩) (by assumption) | (simp; exact cell_lt' (a := ⟨w.heap.size + 1 + 1, 0, none⟩) (by assumption))) (by first | assumption | go_simp)
       have g1 := keepf hb2 (b := w.heap.size + 1 + 1) (o := 1) (by first | (simp <;> omega) | exact cell_lt' (a := ⟨w.heap.size + 1 + 1, 1, none⟩) (by assumption) | (simp; exact cell_lt' (a := ⟨w.heap.size + 1 + 1, 1, none⟩) (by assumption))) (by first | assumption | go_simp)
       have g2 := keepf hb2 (b := w.heap.size + 1 + 1) (o := 2) (by first | (simp <;> omega) | exact cell_lt' (a := ⟨w.heap.size + 1 + 1, 2, none⟩) (by assumption) | (simp; exact cell_lt' (a := ⟨w.heap.size + 1 + 1, 2, none⟩) (by assumption))) (by first | assumption | go_simp)
       have g3 := keepf hb2 (b := w.heap.size + 1 + 1) (o := 3) (by first | (simp <;> omega) | exact cell_lt' (a := ⟨w.heap.size + 1 + 1, 3, none⟩) (by assumption) | (simp; exact cell_lt' (a := ⟨w.heap.size + 1 + 1, 3, none⟩) (by assumption))) (by first | assumption | go_simp)
       have g4 := keepf hb2 (b := w.heap.size + 1 + 1) (o := 4) (by first | (simp <;> omega) | exact cell_lt' (a := ⟨w.heap.size + 1 + 1, 4, none⟩) (by assumption) | (simp; exact cell_lt' (a := ⟨w.heap.size + 1 + 1, 4, none⟩) (by assumption))) (by first | assumption | go_simp)
       have T2 := T1.trans (Turns.of_below hb2)
       clear T1 hb2))
  refine bodyPost_ret (v := .tuple #[.agg #[.int .i64 p1, .int .i64 p2, .int .i64 a1, .int .i64 a2, .slice y n cy], .bool false]) ?_ rfl ⟨y, cy, rfl, Vl.turns (b0 _ _ _) H1.out ?_⟩
  · rw [results_cell2 rfl]
    go_simp
  · exact (T2.set5 (w.heap.size + 1 + 1) ⟨by omega, by omega⟩ _ _ _ _ _).weak fun k hk => by simpa using hk

theorem prepare_yes (p a : Bt) (x : Option Addr) (n c : Nat) (l : List Nat) (b : Bt) (w : World) (hl : Sl w x n c l) (hn : n ≤ 140737488355328) (hf : freeb p a n b = true) :
    Calls Try.prog 48 #[ac p a x n c, bt b] w fun e w' => ∃ y cy, e = .returned (.tuple #[ac b a y n cy, .bool true]) ∧ Hid (Vl w w' y n cy l) := by
  have hF := fun y cy W => free_any p a y n cy b W
  rw [hf] at hF
  clear hf
  have HC := fun W h => clone_vl x n c l W h hn
  clear hn
  obtain ⟨p1, p2⟩ := p
  obtain ⟨a1, a2⟩ := a
  obtain ⟨b1, b2⟩ := b
  unfold bt ac at *
  dsimp only at *
  have b0 : ∀ x y z, Below w.heap.size w (((w.alloc x).alloc y).alloc z) := fun x y z => (((Below.refl _ w).alloc (Nat.le_refl _) _).alloc (by simp) _).alloc (by simp; omega) _
  go_enter Try.func48, Try.ntmps48
  go_wp2_with (first
    | (
       go_at_call 60; refine (HC _ (hl.below (b0 _ _ _))).mono ?_; rintro e w1 ⟨y, cy, rfl, H1⟩; clear HC
       have k0 := keep H1.out.1 (b := w.heap.size) (o := 0) (x := .int .i64 p1) (by first | assumption | go_simp)
       have k1 := keep H1.out.1 (b := w.heap.size) (o := 1) (x := .int .i64 p2) (by first | assumption | go_simp)
       have k2 := keep H1.out.1 (b := w.heap.size) (o := 2) (x := .int .i64 a1) (by first | assumption | go_simp)
       have k3 := keep H1.out.1 (b := w.heap.size) (o := 3) (x := .int .i64 a2) (by first | assumption | go_simp)
       have k4 := keep H1.out.1 (b := w.heap.size) (o := 4) (x := .slice x n c) (by first | assumption | go_simp)
       have j0 := keep H1.out.1 (b := w.heap.size + 1) (o := 0) (x := .int .i64 b1) (by first | assumption | go_simp)
       have j1 := keep H1.out.1 (b := w.heap.size + 1) (o := 1) (x := .int .i64 b2) (by first | assumption | go_simp)
       have r0 := keep H1.out.1 (b := w.heap.size + 1 + 1) (o := 0) (x := .int .i64 0) (by first | assumption | go_simp)
       have r1 := keep H1.out.1 (b := w.heap.size + 1 + 1) (o := 1) (x := .int .i64 0) (by first | assumption | go_simp)
       have r2 := keep H1.out.1 (b := w.heap.size + 1 + 1) (o := 2) (x := .int .i64 0) (by first | assumption | go_simp)
       have r3 := keep H1.out.1 (b := w.heap.size + 1 + 1) (o := 3) (x := .int .i64 0) (by first | assumption | go_simp)
       have r4 := keep H1.out.1 (b := w.heap.size + 1 + 1) (o := 4) (x := .slice none 0 0) (by first | assumption | go_simp)
       have f0 := keepf H1.out.1 (b := w.heap.size) (o := 0) (by first | (simp <;> omega) | exact cell_lt' (a := ⟨w.heap.size, 0, none⟩) (by assumption) | (simp; exact cell_lt' (a := ⟨w.heap.size, 0, none⟩) (by assumption))) (by first | assumption | go_simp)
       have f1 := keepf H1.out.1 (b := w.heap.size) (o := 1) (by first | (simp <;> omega) | exact cell_lt' (a := ⟨w.heap.size, 1, none⟩) (by assumption) | (simp; exact cell_lt' (a := ⟨w.heap.size, 1, none⟩) (by assumption))) (by first | assumption | go_simp)
       have f4 := keepf H1.out.1 (b := w.heap.size) (o := 4) (by first | (simp <;> omega) | exact cell_lt' (a := ⟨w.heap.size, 4, none⟩) (by assumption) | (simp; exact cell_lt' (a := ⟨w.heap.size, 4, none⟩) (by assumption))) (by first | assumption | go_simp)
       have g0 := keepf H1.out.1 (b := w.heap.size + 1 + 1) (o := 0) (by first | (simp <;> omega) | exact cell_lt' (a := ⟨w.heap.size + 1 + 1, 0, none⟩) (by assumption) | (simp; exact cell_lt' (a := ⟨w.heap.size + 1 + 1, 0, none⟩) (by assumption))) (by first | assumption | go_simp)
       have g1 := keepf H1.out.1 (b := w.heap.size + 1 + 1) (o := 1) (by first | (simp <;> omega) | exact cell_lt' (a := ⟨w.heap.size + 1 + 1, 1, none⟩) (by assumption) | (simp; exact cell_lt' (a := ⟨w.heap.size + 1 + 1, 1, none⟩) (by assumption))) (by first | assumption | go_simp)
       have g2 := keepf H1.out.1 (b := w.heap.size + 1 + 1) (o := 2) (by first | (simp <;> omega) | exact cell_lt' (a := ⟨w.heap.size + 1 + 1, 2, none⟩) (by assumption) | (simp; exact cell_lt' (a := ⟨w.heap.size + 1 + 1, 2, none⟩) (by assumption))) (by first | assumption | go_simp)
       have g3 := keepf H1.out.1 (b := w.heap.size + 1 + 1) (o := 3) (by first | (simp <;> omega) | exact cell_lt' (a := ⟨w.heap.size + 1 + 1, 3, none⟩) (by assumption) | (simp; exact cell_lt' (a := ⟨w.heap.size + 1 + 1, 3, none⟩) (by assumption))) (by first | assumption | go_simp)
       have g4 := keepf H1.out.1 (b := w.heap.size + 1 + 1) (o := 4) (by first | (simp <;> omega) | exact cell_lt' (a := ⟨w.heap.size + 1 + 1, 4, none⟩) (by assumption) | (simp; exact cell_lt' (a := ⟨w.heap.size + 1 + 1, 4, none⟩) (by assumption))) (by first | assumption | go_simp)
       have T0 := Turns.refl (fun k => w.heap.size ≤ k ∧ k < w.heap.size + 1 + 1 + 1) w1
       have T1 := T0.setCell (p := ⟨w.heap.size, 4, none⟩) (.inl ⟨Nat.le_refl _, by show w.heap.size < _; omega⟩) (.slice y n cy)
       clear T0)
    | (
       go_at_call 68; refine (hF y cy _).mono ?_; rintro e w2 ⟨rfl, hb2⟩; clear hF
       have k0 := keep hb2 (b := w.heap.size) (o := 0) (x := .int .i64 p1) (by first | assumption | go_simp)
       have k1 := keep hb2 (b := w.heap.size) (o := 1) (x := .int .i64 p2) (by first | assumption | go_simp)
       have k2 := keep hb2 (b := w.heap.size) (o := 2) (x := .int .i64 a1) (by first | assumption | go_simp)
       have k3 := keep hb2 (b := w.heap.size) (o := 3) (x := .int .i64 a2) (by first | assumption | go_simp)
       have k4 := keep hb2 (b := w.heap.size) (o := 4) (x := .slice y n cy) (by first | assumption | go_simp)
       have j0 := keep hb2 (b := w.heap.size + 1) (o := 0) (x := .int .i64 b1) (by first | assumption | go_simp)
       have j1 := keep hb2 (b := w.heap.size + 1) (o := 1) (x := .int .i64 b2) (by first | assumption | go_simp)
       have f0 := keepf hb2 (b := w.heap.size) (o := 0) (by first | (simp <;> omega) | exact cell_lt' (a := ⟨w.heap.size, 0, none⟩) (by assumption) | (simp; exact cell_lt' (a := ⟨w.heap.size, 0, none⟩) (by assumption))) (by first | assumption | go_simp)
       have f1 := keepf hb2 (b := w.heap.size) (o := 1) (by first | (simp <;> omega) | exact cell_lt' (a := ⟨w.heap.size, 1, none⟩) (by assumption) | (simp; exact cell_lt' (a := ⟨w.heap.size, 1, none⟩) (by assumption))) (by first | assumption | go_simp)
       have r0 := keep hb2 (b := w.heap.size + 1 + 1) (o := 0) (x := .int .i64 0) (by first | assumption | go_simp)
       have r1 := keep hb2 (b := w.heap.size + 1 + 1) (o := 1) (x := .int .i64 0) (by first | assumption | go_simp)
       have r2 := keep hb2 (b := w.heap.size + 1 + 1) (o := 2) (x := .int .i64 0) (by first | assumption | go_simp)
       have r3 := keep hb2 (b := w.heap.size + 1 + 1) (o := 3) (x := .int .i64 0) (by first | assumption | go_simp)
       have r4 := keep hb2 (b := w.heap.size + 1 + 1) (o := 4) (x := .slice none 0 0) (by first | assumption | go_simp)
       have g0 := keepf hb2 (b := w.heap.size + 1 + 1) (o := 0) (by first | (simp <;> omega) | exact cell_lt' (a := ⟨w.heap.size + 1 + 1, 0, none⟩) (by assumption) | (simp; exact cell_lt' (a := ⟨w.heap.size + 1 + 1, 0, none⟩) (by assumption))) (by first | assumption | go_simp)
       have g1 := keepf hb2 (b := w.heap.size + 1 + 1) (o := 1) (by first | (simp <;> omega) | exact cell_lt' (a := ⟨w.heap.size + 1 + 1, 1, none⟩) (by assumption) | (simp; exact cell_lt' (a := ⟨w.heap.size + 1 + 1, 1, none⟩) (by assumption))) (by first | assumption | go_simp)
       have g2 := keepf hb2 (b := w.heap.size + 1 + 1) (o := 2) (by first | (simp <;> omega) | exact cell_lt' (a := ⟨w.heap.size + 1 + 1, 2, none⟩) (by assumption) | (simp; exact cell_lt' (a := ⟨w.heap.size + 1 + 1, 2, none⟩) (by assumption))) (by first | assumption | go_simp)
       have g3 := keepf hb2 (b := w.heap.size + 1 + 1) (o := 3) (by first | (simp <;> omega) | exact cell_lt' (a := ⟨w.heap.size + 1 + 1, 3, none⟩) (by assumption) | (simp; exact cell_lt' (a := ⟨w.heap.size + 1 + 1, 3, none⟩) (by assumption))) (by first | assumption | go_simp)
       have g4 := keepf hb2 (b := w.heap.size + 1 + 1) (o := 4) (by first | (simp <;> omega) | exact cell_lt' (a := ⟨w.heap.size + 1 + 1, 4, none⟩) (by assumption) | (simp; exact cell_lt' (a := ⟨w.heap.size + 1 + 1, 4, none⟩) (by assumption))) (by first | assumption | go_simp)
       have T2 := T1.trans (Turns.of_below hb2)
       clear T1 hb2))
  refine bodyPost_ret (v := .tuple #[.agg #[.int .i64 b1, .int .i64 b2, .int .i64 a1, .int .i64 a2, .slice y n cy], .bool true]) ?_ rfl ⟨y, cy, rfl, Vl.turns (b0 _ _ _) H1.out ?_⟩
  · rw [results_cell2 rfl]
    go_simp
  · exact ((T2.set2 w.heap.size ⟨by omega, by omega⟩ _ _).set5 (w.heap.size + 1 + 1) ⟨by omega, by omega⟩ _ _ _ _ _).weak fun k hk => by simpa using hk

end Go.Proofs.Ytdbahebhodoooaa.Ba

/-
  Decrees and messages of package paxos as plain bytes: how they are written, and what any bytes are.
  Conditions: none.
-/
namespace Go.Proofs.Ytdbahebhodoooaa.Px
open Go.RowKit Wi By Fl Ba
set_option linter.unusedVariables false
set_option linter.unusedSimpArgs false
set_option maxRecDepth 100000

structure Dc where
  mon : Nat
  ser : Nat
  val : ByteArray

structure Ac where
  p : Bt
  a : Bt
  d : List Nat

structure Ms where
  kind : Nat
  num : Nat
  st : Ac
  known : Nat
  decs : List Dc

def most : Nat := 2147483647

def noAc : Ac := ⟨z0, z0, []⟩

def dbytes (d : Dc) : List Nat := uv d.mon ++ uv d.ser ++ (uv d.val.size ++ nat d.val)

def wBal (b : Bt) : List Nat := uv b.1.toNat ++ uv b.2.toNat

def dcs (l : List Dc) : List Nat := (l.map dbytes).flatten

/- A message's bytes, without their seal. -/
def body (m : Ms) (fr : Nat) : List Nat :=
  uv fr ++ uv m.kind ++ uv m.num ++
    (if m.kind = 4 then [] else if m.kind = 5 then uv m.known ++ dcs m.decs else wBal m.st.p ++ wBal m.st.a ++ (uv m.st.d.length ++ m.st.d))

def sealStep (s v : Nat) : Nat := (s ^^^ v) * 1099511628211 % 18446744073709551616
def fnv (l : List Nat) : Nat := l.foldl sealStep 14695981039346656037
def sealed (l : List Nat) : List Nat := l ++ fx (fnv l) 8

def encM (m : Ms) (fr : Nat) : List Nat := sealed (body m fr)

/- The readers. -/
def rDc (n : Nat) (l : List Nat) (e : Nat) : Dc × List Nat × Nat :=
  (⟨(rNum ((n : Int) - 1) l e).1, (rNum 2147483647 (rNum ((n : Int) - 1) l e).2.1 (rNum ((n : Int) - 1) l e).2.2).1,
    str (rBy 4096 (rNum 2147483647 (rNum ((n : Int) - 1) l e).2.1 (rNum ((n : Int) - 1) l e).2.2).2.1 (rNum 2147483647 (rNum ((n : Int) - 1) l e).2.1 (rNum ((n : Int) - 1) l e).2.2).2.2).1⟩,
    (rBy 4096 (rNum 2147483647 (rNum ((n : Int) - 1) l e).2.1 (rNum ((n : Int) - 1) l e).2.2).2.1 (rNum 2147483647 (rNum ((n : Int) - 1) l e).2.1 (rNum ((n : Int) - 1) l e).2.2).2.2).2)

def dOf (n : Nat) (v : List Nat) : Option Dc :=
  if rDone (rDc n v 0).2.1 (rDc n v 0).2.2 = 0 ∧ 1 ≤ (rDc n v 0).1.ser then some (rDc n v 0).1 else none

def rBal (n : Nat) (l : List Nat) (e : Nat) : Bt × List Nat × Nat :=
  ((((rNum 2147483647 l e).1 : Int), ((rNum ((n : Int) - 1) (rNum 2147483647 l e).2.1 (rNum 2147483647 l e).2.2).1 : Int)), (rNum ((n : Int) - 1) (rNum 2147483647 l e).2.1 (rNum 2147483647 l e).2.2).2)

/- So many decrees, as far as they can be read. -/
def rDcs (n : Nat) : Nat → List Nat → Nat → List Dc × List Nat × Nat
  | 0, l, e => ([], l, e)
  | k + 1, l, e => if e = 0 then ((rDc n l e).1 :: (rDcs n k (rDc n l e).2.1 (rDc n l e).2.2).1, (rDcs n k (rDc n l e).2.1 (rDc n l e).2.2).2) else ([], l, e)

def told (first known : Nat) : Int := min ((known : Int) - first + 1) 64

def mayState (a : Ac) (n : Nat) : Bool := mayA a.p a.a a.d.length && !zb a.p && (zb a.a || (dOf n a.d).isSome)

def mayM (m : Ms) (fr n : Nat) : Bool :=
  if m.kind = 1 then decide (1 ≤ m.num) && mayState m.st n && decide (m.st.p.2 = (fr : Int)) && zb m.st.a
  else if m.kind = 2 then decide (1 ≤ m.num) && mayState m.st n && decide (m.st.p.2 = (fr : Int)) && (decide (m.st.a.1 = m.st.p.1) && decide (m.st.a.2 = m.st.p.2))
  else if m.kind = 3 then decide (1 ≤ m.num) && mayState m.st n
  else if m.kind = 4 then true
  else if m.kind = 5 then decide (1 ≤ m.num) && decide (0 < m.decs.length) && m.decs.all (fun d => decide (1 ≤ d.ser))
  else false

/- What is read behind the kind and the number. -/
def rRest (n k u : Nat) (l : List Nat) (e : Nat) : Ms × List Nat × Nat :=
  if k = 4 then (⟨k, u, noAc, 0, []⟩, l, e)
  else if k = 5 then
    (⟨k, u, noAc, (rNum 2147483647 l e).1, (rDcs n (told u (rNum 2147483647 l e).1).toNat (rNum 2147483647 l e).2.1 (rNum 2147483647 l e).2.2).1⟩, (rDcs n (told u (rNum 2147483647 l e).1).toNat (rNum 2147483647 l e).2.1 (rNum 2147483647 l e).2.2).2)
  else
    (⟨k, u, ⟨(rBal n l e).1, (rBal n (rBal n l e).2.1 (rBal n l e).2.2).1, (rBy 4104 (rBal n (rBal n l e).2.1 (rBal n l e).2.2).2.1 (rBal n (rBal n l e).2.1 (rBal n l e).2.2).2.2).1⟩, 0, []⟩,
      (rBy 4104 (rBal n (rBal n l e).2.1 (rBal n l e).2.2).2.1 (rBal n (rBal n l e).2.1 (rBal n l e).2.2).2.2).2)

def rMsg (n : Nat) (l : List Nat) : Nat × Ms × List Nat × Nat :=
  ((rNum ((n : Int) - 1) l 0).1,
    rRest n (rNum 5 (rNum ((n : Int) - 1) l 0).2.1 (rNum ((n : Int) - 1) l 0).2.2).1
      (rNum 2147483647 (rNum 5 (rNum ((n : Int) - 1) l 0).2.1 (rNum ((n : Int) - 1) l 0).2.2).2.1 (rNum 5 (rNum ((n : Int) - 1) l 0).2.1 (rNum ((n : Int) - 1) l 0).2.2).2.2).1
      (rNum 2147483647 (rNum 5 (rNum ((n : Int) - 1) l 0).2.1 (rNum ((n : Int) - 1) l 0).2.2).2.1 (rNum 5 (rNum ((n : Int) - 1) l 0).2.1 (rNum ((n : Int) - 1) l 0).2.2).2.2).2.1
      (rNum 2147483647 (rNum 5 (rNum ((n : Int) - 1) l 0).2.1 (rNum ((n : Int) - 1) l 0).2.2).2.1 (rNum 5 (rNum ((n : Int) - 1) l 0).2.1 (rNum ((n : Int) - 1) l 0).2.2).2.2).2.2)

def isSealed (b : List Nat) : Bool := decide (8 ≤ b.length) && decide (sealed (b.take (b.length - 8)) = b)

/- The message that bytes are, of the monitor fr of n. -/
def decM (n fr : Nat) (b : List Nat) : Option Ms :=
  if isSealed b = true ∧ rDone (rMsg n (b.take (b.length - 8))).2.2.1 (rMsg n (b.take (b.length - 8))).2.2.2 = 0 ∧ (rMsg n (b.take (b.length - 8))).1 = fr ∧ mayM (rMsg n (b.take (b.length - 8))).2.1 fr n = true
  then some (rMsg n (b.take (b.length - 8))).2.1 else none

theorem fnv_lt (l : List Nat) : fnv l < 18446744073709551616 := by
  unfold fnv
  have : ∀ (l : List Nat) (s : Nat), s < 18446744073709551616 → l.foldl sealStep s < 18446744073709551616 := fun l => by
    induction l with
    | nil => intro s h; exact h
    | cons v l ih => intro s h; exact ih _ (Nat.mod_lt _ (by omega))
  exact this l _ (by omega)

theorem dbytes_lt (d : Dc) : ∀ v ∈ dbytes d, v < 256 := fun v hv => by
  unfold dbytes at hv
  simp only [List.mem_append] at hv
  rcases hv with (h | h) | h | h
  · exact uv_lt _ v h
  · exact uv_lt _ v h
  · exact uv_lt _ v h
  · exact nat_lt _ v h

end Go.Proofs.Ytdbahebhodoooaa.Px
