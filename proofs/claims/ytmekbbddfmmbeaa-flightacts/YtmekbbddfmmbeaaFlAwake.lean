/-
  The statements' own question whether a message is delivered: yes.
  Conditions: none.
-/
import Derived.Test.YtmekbbddfmmbeaaFlDrop
namespace Go.Proofs.Ytmekbbddfmmbeaa.Fl
open Go.RowKit By
set_option linter.unusedVariables false
set_option linter.unusedSimpArgs false
set_option maxRecDepth 100000

theorem FlAt.len {w : World} {B p mb nb : Nat} {D : DataW Value} {R : Value} {L : List MV} {S : Int → Int → Bool} (h : FlAt w B p mb nb D R L S) :
    Calls Try.prog 10 #[.pointer (some ⟨p, 0, none⟩)] w fun e w' => e = .returned (.int .i64 (L.length : Int)) ∧ w' = w := by
  obtain ⟨x, c, hR, _⟩ := h.own.form
  exact len_yes w p L.length c x (hR ▸ h.c0)

theorem FlAt.out {w w' : World} {B p mb nb : Nat} {D : DataW Value} {R : Value} {L : List MV} {S : Int → Int → Bool} (h : FlAt w B p mb nb D R L S) (t : Turns (fp p mb R) w w') (hB : B ≤ w.heap.size) : Below B w w' :=
  t.below (fun k hk => (h.foot k hk).1) hB

theorem FlAt.bw {w : World} {B p mb nb : Nat} {D : DataW Value} {R : Value} {L : List MV} {S : Int → Int → Bool} (h : FlAt w B p mb nb D R L S) : B ≤ w.heap.size := Nat.le_trans h.bp (Nat.le_of_lt h.obj.lt)

theorem wfi_small {a : Int} (h0 : 0 ≤ a) (h1 : a < 1000000) : wfi a := by
  have e1 : IntKind.i64.min = -9223372036854775808 := by decide
  have e2 : IntKind.i64.max = 9223372036854775807 := by decide
  unfold wfi Lit.wf
  simp [e1, e2]
  omega

theorem awake_in (w : World) : Calls Try.prog 8 #[] w fun e w1 => ∃ p, e = .returned (.pointer (some ⟨p, 0, none⟩)) ∧
    Calls Try.prog 17 #[.pointer (some ⟨p, 0, none⟩), .int .i64 1, .int .i64 2, .slice (some ⟨w1.heap.size, 0, none⟩) 1 1] (w1.alloc (.cells #[.int .u8 7] 5)) fun e w2 => e = .returned (.bool true) ∧
    Calls Try.prog 15 #[.pointer (some ⟨p, 0, none⟩), .int .i64 0] w2 fun e w3 => ∃ b o cy, e = .returned (.tuple #[.int .i64 1, .int .i64 2, .slice (some ⟨b, o, none⟩) 1 cy, .bool true]) ∧ w3.cell? ⟨b, o, none⟩ = some (.int .u8 7) ∧
    Calls Try.prog 10 #[.pointer (some ⟨p, 0, none⟩)] w3 fun e w4 => e = .returned (.int .i64 0) ∧ w4 = w3 ∧ Hid (Below w.heap.size w w3) := by
  refine (new_any w).mono fun e w1 ⟨p, mb, e1, H1⟩ => ⟨p, e1, ?_⟩
  obtain ⟨hb1, h1⟩ := H1.out
  have b2 : Below w1.heap.size w1 (w1.alloc (.cells #[.int .u8 7] 5)) := (Below.refl _ _).alloc (Nat.le_refl _) _
  have h2 := h1.below b2
  refine (post_yes h2 1 2 (wfi_small (by omega) (by omega)) (wfi_small (by omega) (by omega)) (some ⟨w1.heap.size, 0, none⟩) 1 1 [7] ⟨rfl, Nat.le_refl _, (fun e => by cases e), .inr ⟨w1.heap.size, 0, rfl, by simp, fun i hi => ?_⟩, fun v hv => by simp at hv; omega⟩ (by omega) (by simp)).mono fun e w2 ⟨e2, H2⟩ => ⟨e2, ?_⟩
  · obtain rfl : i = 0 := by omega
    simp [gl]
  obtain ⟨R', m, h3, mf, mt, md, mn, _, t3⟩ := H2.out
  refine (deliver_free h3 0 m rfl rfl).mono fun e w3 ⟨y, cy, e3, H3⟩ => ?_
  obtain ⟨hs, hy, R3, h4, t4⟩ := H3.out
  rw [mf, mt, mn] at e3
  rw [mn, md] at hs
  rcases hs.row with h0 | ⟨b, o, rfl, hbl, hc⟩
  · omega
  refine ⟨b, o, cy, e3, hc 0 (by omega), h4.len.mono fun e w4 ⟨e4, e5⟩ => ⟨e4, e5, ?_⟩⟩
  have q1 : Below w.heap.size w (w1.alloc (.cells #[.int .u8 7] 5)) := hb1.trans (b2.mono hb1.size)
  have q2 := q1.trans (h2.out t3 h2.bw)
  exact q2.trans (h3.out t4 h3.bw)

theorem awake_any (w : World) : Calls Try.prog 14 #[] w fun e w' => e = .returned (.bool true) ∧ Below w.heap.size w w' := by
  have hA := awake_in w
  go_enter Try.func14, Try.ntmps14
  go_wp2_with (first
    | (go_at_call 8; refine hA.mono ?_; rintro e w1 ⟨p, rfl, hP⟩; clear hA)
    | (go_at_call 17; refine hP.mono ?_; rintro e w2 ⟨rfl, hD⟩; clear hP)
    | (go_at_call 15; refine hD.mono ?_; rintro e w3 ⟨b, o, cy, rfl, hc, hL⟩; clear hD)
    | (go_at_call 10; refine hL.mono ?_; rintro e w4 ⟨rfl, hw, HN⟩; subst w4; clear hL))
  go_ret
  exact ⟨rfl, HN.out⟩

end Go.Proofs.Ytmekbbddfmmbeaa.Fl
