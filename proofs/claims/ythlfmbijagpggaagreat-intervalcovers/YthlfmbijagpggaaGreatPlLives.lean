/-
  Package place: Lives.
  Conditions: the map lies in memory.
-/
import Derived.Test.YthlfmbijagpggaaGreatByHk
import Derived.OwnWalk
import Derived.Deep.DeepCutAuto
import Derived.Test.YthlfmbijagpggaaGreatJPlUp
namespace Go.Proofs.YthlfmbijagpggaaGreat.Pl
open Go.RowKit By Fl At Cr
set_option linter.unusedVariables false
set_option linter.unusedSimpArgs false
set_option maxRecDepth 100000

theorem flat_I : ∀ l : List Int, flat enI l = l.map (fun z => Value.int .i64 z)
  | [] => rfl
  | z :: l => by rw [flat_cons, flat_I l]; rfl

theorem own_zeros (w : World) {B : Nat} (hB : B ≤ w.heap.size) (n : Nat) (hn : n ≤ 1000) : Own (w.alloc (.cells ((List.replicate n (0 : Int)).map fun v => Value.int .i64 v).toArray 3)) B 3 1 enI (.slice (some ⟨w.heap.size, 0, none⟩) n n) (List.replicate n (0 : Int)) := by
  have e1 : (List.replicate n (0 : Int)).length = n := by simp
  have := Own.of_heap (K := List.replicate n (0 : Int)) (B := B) (sz := 1) (enc := enI) (heap_alloc_new w (.cells ((List.replicate n (0 : Int)).map fun v => Value.int .i64 v).toArray 3)) hB (c := n) (by rw [e1]; exact Nat.le_refl _) (by unfold maxLen; omega) (by simp) irow.len (by rw [flat_I]; simp)
  rw [e1] at this
  exact this

theorem put_block {w : World} {g k b : Nat} {v : Value} (hlt : b < w.heap.size) (hne : b ≠ g) : (w.setCell ⟨g, k, none⟩ v).heap[b]? = w.heap[b]? :=
  (turns_put (a := g) (Turns.refl _ w) k v).block b hlt hne
theorem cell_put {w : World} {g k b o : Nat} {v u : Value} (h : w.cell? ⟨b, o, none⟩ = some u) (hne : b ≠ g) : (w.setCell ⟨g, k, none⟩ v).cell? ⟨b, o, none⟩ = some u :=
  (World.cell?_of_block (a := ⟨b, o, none⟩) (put_block (cell_lt' h) hne)).trans h
theorem frz_put {w : World} {g k b o : Nat} {v : Value} (hlt : b < w.heap.size) (h : w.frozen? ⟨b, o, none⟩ = false) (hne : b ≠ g) : (w.setCell ⟨g, k, none⟩ v).frozen? ⟨b, o, none⟩ = false :=
  (World.frozen?_of_block (a := ⟨b, o, none⟩) (put_block hlt hne)).trans h

theorem two_set {w : World} {B ga gb n c n' c' : Nat} {l1 l2 : List Int} (h1 : Own w B 3 1 enI (.slice (some ⟨ga, 0, none⟩) n c) l1) (h2 : Own w B 3 1 enI (.slice (some ⟨gb, 0, none⟩) n' c') l2) (hne : ga ≠ gb) (k : Nat) (a b : Int) :
    Own ((w.setCell ⟨ga, k, none⟩ (.int .i64 a)).setCell ⟨gb, k, none⟩ (.int .i64 b)) B 3 1 enI (.slice (some ⟨ga, 0, none⟩) n c) (l1.set k a) ∧ Own ((w.setCell ⟨ga, k, none⟩ (.int .i64 a)).setCell ⟨gb, k, none⟩ (.int .i64 b)) B 3 1 enI (.slice (some ⟨gb, 0, none⟩) n' c') (l2.set k b) := by
  have t1 : Turns (fun j => j = ga) w (w.setCell ⟨ga, k, none⟩ (.int .i64 a)) := turns_put (Turns.refl _ w) k _
  have t2 : Turns (fun j => j = gb) (w.setCell ⟨ga, k, none⟩ (.int .i64 a)) ((w.setCell ⟨ga, k, none⟩ (.int .i64 a)).setCell ⟨gb, k, none⟩ (.int .i64 b)) := turns_put (Turns.refl _ _) k _
  refine ⟨(own_setI h1 k a).turns t2 (fun g hg e => ?_), own_setI (h2.turns t1 (fun g hg e => ?_)) k b⟩
  · simp [Value.ownBlock] at hg; omega
  · simp [Value.ownBlock] at hg; omega

/- The first k are told, the others are zero. -/
def fil (f : Int → Int) (l : List Int) (k : Nat) : List Int := (l.take k).map f ++ List.replicate (l.length - k) 0
theorem fil_zero (f : Int → Int) (l : List Int) : fil f l 0 = List.replicate l.length 0 := by simp [fil]
theorem fil_all (f : Int → Int) (l : List Int) : fil f l l.length = l.map f := by simp [fil]
theorem fil_two (f : Int → Int) {l : List Int} {k : Nat} {z : Int} (h : l[k]? = some z) : fil f l k = (l.take k).map f ++ 0 :: List.replicate (l.length - (k + 1)) 0 ∧ fil f l (k + 1) = (l.take k).map f ++ f z :: List.replicate (l.length - (k + 1)) 0 := by
  obtain ⟨hk, hz⟩ := List.getElem?_eq_some_iff.1 h
  refine ⟨?_, ?_⟩
  · unfold fil
    rw [show l.length - k = (l.length - (k + 1)) + 1 by omega, List.replicate_succ]
  · unfold fil
    rw [List.take_add_one, h]
    simp
theorem fil_put {f : Int → Int} {l : List Int} {k : Nat} {z : Int} (h : l[k]? = some z) : fil f l (k + 1) = (fil f l k).set k (f z) := by
  obtain ⟨h1, h2⟩ := fil_two f h
  have hk := (List.getElem?_eq_some_iff.1 h).1
  rw [h1, h2, List.set_append_right _ _ (by simp; omega)]
  simp only [List.length_map, List.length_take]
  rw [show min k l.length = k by omega, Nat.sub_self]
  rfl
theorem fil_no {f : Int → Int} {l : List Int} {k : Nat} {z : Int} (h : l[k]? = some z) (hf : f z = 0) : fil f l (k + 1) = fil f l k := by
  obtain ⟨h1, h2⟩ := fil_two f h
  rw [h1, h2, hf]
theorem fil_get {f : Int → Int} {l : List Int} {k : Nat} {z : Int} (h : l[k]? = some z) : (fil f l k)[k]? = some 0 := by
  obtain ⟨h1, h2⟩ := fil_two f h
  have hk := (List.getElem?_eq_some_iff.1 h).1
  rw [h1, List.getElem?_append_right (by simp; omega)]
  simp only [List.length_map, List.length_take]
  rw [show min k l.length = k by omega, Nat.sub_self]
  rfl

def LvSays (w : World) (m : Mp) (pg : Int) (e : Ending) (w' : World) : Prop :=
  ∃ (x1 : Option Addr) (n1 c1 : Nat) (x2 : Option Addr) (n2 c2 : Nat), e = .returned (.tuple #[.slice x1 n1 c1, .slice x2 n2 c2, .int .i64 (upE m pg)]) ∧ Hid (Below w.heap.size w w' ∧ Nu w' x1 n1 c1 ((actL m pg).map (lf m.osds)) ∧ Nu w' x2 n2 c2 ((actL m pg).map (bo m.osds)))

end Go.Proofs.YthlfmbijagpggaaGreat.Pl
