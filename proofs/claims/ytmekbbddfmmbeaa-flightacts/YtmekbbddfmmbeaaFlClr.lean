/-
  What Clear does.
  Conditions: the flight is one that New gave ('FlAt').
-/
import Derived.Test.YtmekbbddfmmbeaaFlClear
namespace Go.Proofs.Ytmekbbddfmmbeaa.Fl
open Go.RowKit By
set_option linter.unusedVariables false
set_option linter.unusedSimpArgs false
set_option maxRecDepth 100000

theorem index_nil (w : World) (v : Value) : Calls Try.prog 31 #[.slice none 0 0, v] w fun e w' => e = .returned (.int .i64 (-1)) ∧ w' = w := by
  go_enter Try.func31, Try.ntmps31
  go_wp2_with fail
  go_loopw [8, 5] (fun i _ wr => i = .int .i64 0 ∧ wr = w) (fun i _ _ => 0)
  case atStart => exact ⟨rfl, rfl⟩
  case round =>
    obtain ⟨rfl, hw⟩ := hrel
    subst hw
    go_wp2_with fail
    go_ret
    exact ⟨rfl, rfl⟩

theorem deletef_nil (w : World) (v : Value) : Calls Try.prog 29 #[.slice none 0 0, v] w fun e w' => e = .returned (.slice none 0 0) ∧ w' = w := by
  have hI := index_nil w v
  go_enter Try.func29, Try.ntmps29
  go_wp2_with (go_at_call 31; refine hI.mono ?_; rintro e w1 ⟨rfl, hw⟩; subst w1; clear hI)
  go_ret
  exact ⟨rfl, rfl⟩

section
variable {w : World} {B p mb nb : Nat} {D : DataW Value} {R : Value} {L : List MV} {S : Int → Int → Bool}

theorem clear_any (h : FlAt w B p mb nb D R L S) (node : Int) (hl : L.length ≤ 100000) :
    Calls Try.prog 21 #[.pointer (some ⟨p, 0, none⟩), .int .i64 node] w fun e w' => e = .returned (.int .i64 ((L.length : Int) - ((left node L).length : Int))) ∧ Hid (∃ R', FlAt w' B p mb nb D R' (left node L) S ∧ Turns (fp p mb R) w w') := by
  obtain ⟨x, c, hR, hlc, hnil, hsome⟩ := h.own.form
  have b1 : Below w.heap.size w (w.alloc (.cells #[.int .i64 node] 3)) := (Below.refl _ _).alloc (Nat.le_refl _) _
  have h1 := h.below b1
  have hM := made_yes _ p mb h1.c1
  have c0 := h1.c0
  have c1 := h1.c1
  rw [hR] at c0
  have hD : Calls Try.prog 29 #[.slice x L.length c, .func (.func 30) #[] #[.pointer (some ⟨w.heap.size, 0, none⟩)]] (w.alloc (.cells #[.int .i64 node] 3)) fun e w' => ∃ y, e = .returned (.slice y (left node L).length c) ∧
      w'.cell? ⟨p, 0, none⟩ = some (.slice x L.length c) ∧ w'.frozen? ⟨p, 0, none⟩ = false ∧ (w'.setCell ⟨p, 0, none⟩ (.slice y (left node L).length c)).cell? ⟨p, 0, none⟩ = some (.slice y (left node L).length c) ∧ Hid (∃ R', FlAt (w'.setCell ⟨p, 0, none⟩ (.slice y (left node L).length c)) B p mb nb D R' (left node L) S ∧ Turns (fp p mb R) w (w'.setCell ⟨p, 0, none⟩ (.slice y (left node L).length c))) := by
    cases x with
    | none =>
      obtain ⟨h0, hc0⟩ := hnil rfl
      have hL0 : L = [] := List.eq_nil_of_length_eq_zero h0
      subst hL0
      subst hc0
      refine (deletef_nil _ _).mono fun e w' ⟨e1, e2⟩ => ?_
      subst e2
      have hT : Turns (fun j => R.ownBlock = some j) (w.alloc (.cells #[.int .i64 node] 3)) (w.alloc (.cells #[.int .i64 node] 3)) := Turns.refl _ _
      have hown := h1.own
      obtain ⟨q1, q2, q3, q4⟩ := h1.setR hT (R' := .slice none 0 0) (L' := []) (Own.nil _ _ _ _ _) (fun m hm => by cases hm)
      rw [hR] at q1
      exact ⟨none, e1, q1, q2, q4.c0, _, q4, (Turns.of_below b1).trans q3⟩
    | some ad =>
      obtain ⟨g, rfl, hg1, hg2⟩ := hsome ad rfl
      have own := h1.own
      rw [hR] at own
      refine (deletef_any node own (bx := w.heap.size) (by simp) (by omega)).mono fun e w' ⟨q, e1, H⟩ => ?_
      obtain ⟨hq, ho, ht⟩ := H.out
      subst hq
      have hT : Turns (fun j => R.ownBlock = some j) (w.alloc (.cells #[.int .i64 node] 3)) w' := ht.weak (fun j e => by rw [hR, e]; rfl)
      obtain ⟨q1, q2, q3, q4⟩ := h1.setR hT ho (fun m hm => h1.dat_turn hT m (List.mem_filter.1 hm).1)
      rw [hR] at q1
      exact ⟨some ⟨g, 0, none⟩, e1, q1, q2, q4.c0, _, q4, (Turns.of_below b1).trans q3⟩
  have hle : (left node L).length ≤ L.length := List.length_filter_le _ _
  clear h h1 hR hlc hnil hsome b1
  generalize (left node L).length = q at *
  generalize L.length = l at *
  have z1 : (q : Int) ≤ (l : Int) := by omega
  have z2 : (l : Int) ≤ 100000 := by omega
  go_enter Try.func21, Try.ntmps21
  go_wp2_with (first
    | (go_at_call 23; refine hM.mono ?_; rintro e w' ⟨rfl, hw⟩; subst w'; clear hM)
    | (go_at_call 29; refine hD.mono ?_; rintro e w2 ⟨y, rfl, s1, s2, s3, HN⟩; clear hD))
  go_ret
  refine ⟨?_, HN.out⟩
  go_num

end

end Go.Proofs.Ytmekbbddfmmbeaa.Fl
