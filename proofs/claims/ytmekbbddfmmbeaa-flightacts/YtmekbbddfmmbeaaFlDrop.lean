/-
  What a flight's own calls do: Drop, Deliver.
  Conditions: the flight is one that New gave ('FlAt').
-/
import Derived.Test.YtmekbbddfmmbeaaFlPost
import Derived.Test.YtmekbbddfmmbeaaFlDel
namespace Go.Proofs.Ytmekbbddfmmbeaa.Fl
open Go.RowKit By
set_option linter.unusedVariables false
set_option linter.unusedSimpArgs false
set_option maxRecDepth 100000

def del {α : Type} (L : List α) (k : Nat) : List α := L.take k ++ L.drop (k + 1)

theorem del_len {α : Type} (L : List α) (k : Nat) (h : k < L.length) : (del L k).length = L.length - 1 := by
  simp only [del, List.length_append, List.length_take, List.length_drop]
  omega

theorem del_mem {α : Type} {L : List α} {k : Nat} {a : α} (h : a ∈ del L k) : a ∈ L := by
  rcases List.mem_append.1 h with h | h
  · exact List.mem_of_mem_take h
  · exact List.mem_of_mem_drop h

section
variable {w : World} {B p mb nb : Nat} {D : DataW Value} {R : Value} {L : List MV} {S : Int → Int → Bool}

theorem drop_no (h : FlAt w B p mb nb D R L S) (i : Int) (hi : i < 0 ∨ (L.length : Int) ≤ i) :
    Calls Try.prog 18 #[.pointer (some ⟨p, 0, none⟩), .int .i64 i] w fun e w' => e = .returned (.bool false) ∧ w' = w := by
  obtain ⟨x, c, hR, _⟩ := h.own.form
  have hH := has_no w p L.length c i x (hR ▸ h.c0) hi
  clear h hR hi
  go_enter Try.func18, Try.ntmps18
  go_wp2_with (go_at_call 25; refine hH.mono ?_; rintro e w' ⟨rfl, hw⟩; subst w'; clear hH)
  go_ret
  exact ⟨rfl, rfl⟩

theorem drop_yes (h : FlAt w B p mb nb D R L S) (k : Nat) (hk : k < L.length) :
    Calls Try.prog 18 #[.pointer (some ⟨p, 0, none⟩), .int .i64 (k : Int)] w fun e w' => e = .returned (.bool true) ∧ Hid (∃ R', FlAt w' B p mb nb D R' (del L k) S ∧ Turns (fp p mb R) w w') := by
  obtain ⟨g, c, hR, hc, hcm, _, hg⟩ := h.own.there (by intro e; rw [e] at hk; simp at hk)
  have c0 := h.c0
  have own := h.own
  rw [hR] at c0 own
  have hH := has_yes w p L.length c k _ c0 hk
  have hD : Calls Try.prog 28 #[.slice (some ⟨g, 0, none⟩) L.length c, .int .i64 (k : Int), .int .i64 ((k : Int) + 1)] w fun e w' => e = .returned (.slice (some ⟨g, 0, none⟩) (L.length - 1) c) ∧
      w'.cell? ⟨p, 0, none⟩ = some (.slice (some ⟨g, 0, none⟩) L.length c) ∧ w'.frozen? ⟨p, 0, none⟩ = false ∧ Hid (∃ R', FlAt (w'.setCell ⟨p, 0, none⟩ (.slice (some ⟨g, 0, none⟩) (L.length - 1) c)) B p mb nb D R' (del L k) S ∧ Turns (fp p mb R) w (w'.setCell ⟨p, 0, none⟩ (.slice (some ⟨g, 0, none⟩) (L.length - 1) c))) := by
    have := delete_any own hk
    rw [show (((k + 1 : Nat)) : Int) = (k : Int) + 1 by omega] at this
    refine this.mono fun e w' ⟨h1, h2⟩ => ?_
    have hT : Turns (fun j => R.ownBlock = some j) w w' := h2.out.2.weak (fun j e => by rw [hR, e]; rfl)
    obtain ⟨q1, q2, q3, q4⟩ := h.setR hT h2.out.1 (fun m hm => h.dat_turn hT m (del_mem hm))
    rw [hR] at q1
    exact ⟨h1, q1, q2, _, q4, q3⟩
  have hb : (k : Int) < 9223372036854775807 := by unfold maxLen at hcm; omega
  clear h own hR hk hc hcm
  generalize L.length = n at *
  go_enter Try.func18, Try.ntmps18
  go_wp2_with (first
    | (go_at_call 25; refine hH.mono ?_; rintro e w' ⟨rfl, hw⟩; subst w'; clear hH)
    | (go_at_call 28; refine hD.mono ?_; rintro e w2 ⟨rfl, s1, s2, HN⟩; clear hD))
  go_ret
  exact ⟨rfl, HN.out⟩

theorem deliver_no (h : FlAt w B p mb nb D R L S) (i : Int) (hi : i < 0 ∨ (L.length : Int) ≤ i) : Calls Try.prog 15 #[.pointer (some ⟨p, 0, none⟩), .int .i64 i] w fun e w' => e = .returned (.tuple #[.int .i64 0, .int .i64 0, .slice none 0 0, .bool false]) ∧ w' = w := by
  have hA := look_no h i hi
  have hB := drop_no h i hi
  clear h hi
  go_enter Try.func15, Try.ntmps15
  go_wp2_with (first
    | (go_at_call 13; refine hA.mono ?_; rintro e w' ⟨rfl, hw⟩; subst w'; clear hA)
    | (go_at_call 18; refine hB.mono ?_; rintro e w' ⟨rfl, hw⟩; subst w'; clear hB))
  refine bodyPost_ret (results_tmp4 rfl _ _ _) rfl ?_
  exact ⟨rfl, rfl⟩

def Dlv (w w' : World) (B p mb nb : Nat) (D : DataW Value) (R : Value) (L : List MV) (S : Int → Int → Bool) (y : Option Addr) (n cy : Nat) (l : List Nat) : Prop :=
  Sl w' y n cy l ∧ (∀ a, y = some a → w.heap.size ≤ a.block ∧ Tb w' a.block 5 ∧ (∀ j, w'.frozen? ⟨a.block, j, none⟩ = false) ∧ a = ⟨a.block, 0, none⟩) ∧ ∃ R', FlAt w' B p mb nb D R' L S ∧ Turns (fp p mb R) w w'

theorem deliver_in (h : FlAt w B p mb nb D R L S) (k : Nat) (m : MV) (hm : L[k]? = some m) : Calls Try.prog 13 #[.pointer (some ⟨p, 0, none⟩), .int .i64 (k : Int)] w fun e w1 => ∃ y cy, e = .returned (.tuple #[.int .i64 m.fr, .int .i64 m.to, .slice y m.n cy, .bool true]) ∧
      Calls Try.prog 18 #[.pointer (some ⟨p, 0, none⟩), .int .i64 (k : Int)] w1 fun e w2 => e = .returned (.bool true) ∧
      Calls Try.prog 11 #[.pointer (some ⟨p, 0, none⟩), .int .i64 m.fr, .int .i64 m.to] w2 fun e w3 => e = .returned (.bool (S m.fr m.to)) ∧ Hid (Dlv w w3 B p mb nb D R (del L k) S y m.n cy m.d) := by
  have hk : k < L.length := (List.getElem?_eq_some_iff.1 hm).1
  have hok := h.dat m (List.mem_of_getElem? hm)
  refine (look_yes h k m hm).mono fun e w1 ⟨y, cy, e1, H1⟩ => ⟨y, cy, e1, ?_⟩
  obtain ⟨hb1, hs1, hy1⟩ := H1.out
  have h1 := h.below hb1
  refine (drop_yes h1 k hk).mono fun e w2 ⟨e2, H2⟩ => ⟨e2, ?_⟩
  obtain ⟨R', h2, hT2⟩ := H2.out
  refine (parted_any h2 m.fr m.to hok.wf hok.wt).mono fun e w3 ⟨e3, hb3⟩ => ⟨e3, ?_⟩
  have hfr : ∀ j, fp p mb R j → j < w.heap.size := fun j hj => by
    have := (h.foot j hj).2
    rcases this with q | q | ⟨es, c, q⟩
    · exact q.lt
    · exact q.lt
    · exact (Array.getElem?_eq_some_iff.1 q).1
  have hny : ∀ a, y = some a → ¬ fp p mb R a.block := fun a ha hf => by have := hfr _ hf; have := (hy1 a ha).1; omega
  have hs2 := hs1.turns hT2 (fun _ a ha => hny a ha)
  refine ⟨hs2.below hb3, fun a ha => ?_, R', h2.below hb3, ((Turns.of_below hb1).trans hT2).trans (Turns.of_below hb3)⟩
  obtain ⟨q1, q2, q3, q4⟩ := hy1 a ha
  have hb2 := hT2.block a.block q2.lt (hny a ha)
  have hlt2 : a.block < w2.heap.size := (q2.of_heap hb2).lt
  have hb4 := (hb3.block a.block hlt2).trans hb2
  exact ⟨q1, q2.of_heap hb4, fun j => (World.frozen?_of_block (a := ⟨a.block, j, none⟩) hb4).trans (q3 j), q4⟩

theorem deliver_parted (h : FlAt w B p mb nb D R L S) (k : Nat) (m : MV) (hm : L[k]? = some m) (hS : S m.fr m.to = true) : Calls Try.prog 15 #[.pointer (some ⟨p, 0, none⟩), .int .i64 (k : Int)] w fun e w' =>
    e = .returned (.tuple #[.int .i64 0, .int .i64 0, .slice none 0 0, .bool false]) ∧ Hid (Dlv w w' B p mb nb D R (del L k) S none 0 0 []) := by
  have hA := deliver_in h k m hm
  rw [hS] at hA
  clear h hm hS
  generalize m.fr = f at *
  generalize m.to = t at *
  generalize m.n = n at *
  go_enter Try.func15, Try.ntmps15
  go_wp2_with (first
    | (go_at_call 13; refine hA.mono ?_; rintro e w1 ⟨y, cy, rfl, hA1⟩; clear hA)
    | (go_at_call 18; refine hA1.mono ?_; rintro e w2 ⟨rfl, hA2⟩; clear hA1)
    | (go_at_call 11; refine hA2.mono ?_; rintro e w3 ⟨rfl, HN⟩; clear hA2))
  refine bodyPost_ret (results_tmp4 rfl _ _ _) rfl ?_
  exact ⟨rfl, Sl.empty _, (fun a ha => by cases ha), HN.out.2.2⟩

theorem deliver_free (h : FlAt w B p mb nb D R L S) (k : Nat) (m : MV) (hm : L[k]? = some m) (hS : S m.fr m.to = false) : Calls Try.prog 15 #[.pointer (some ⟨p, 0, none⟩), .int .i64 (k : Int)] w fun e w' =>
    ∃ y cy, e = .returned (.tuple #[.int .i64 m.fr, .int .i64 m.to, .slice y m.n cy, .bool true]) ∧ Hid (Dlv w w' B p mb nb D R (del L k) S y m.n cy m.d) := by
  have hA := deliver_in h k m hm
  rw [hS] at hA
  clear h hm hS
  generalize m.fr = f at *
  generalize m.to = t at *
  generalize m.n = n at *
  go_enter Try.func15, Try.ntmps15
  go_wp2_with (first
    | (go_at_call 13; refine hA.mono ?_; rintro e w1 ⟨y, cy, rfl, hA1⟩; clear hA)
    | (go_at_call 18; refine hA1.mono ?_; rintro e w2 ⟨rfl, hA2⟩; clear hA1)
    | (go_at_call 11; refine hA2.mono ?_; rintro e w3 ⟨rfl, HN⟩; clear hA2))
  refine bodyPost_ret (results_tmp4 rfl _ _ _) rfl ?_
  exact ⟨y, cy, rfl, HN.out⟩

end

end Go.Proofs.Ytmekbbddfmmbeaa.Fl
