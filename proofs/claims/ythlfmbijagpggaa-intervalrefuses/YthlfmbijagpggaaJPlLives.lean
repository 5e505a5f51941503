/-
  2 texts of this proof, one behind the other: PlLives, IvMoment.
-/
import Derived.Test.YthlfmbijagpggaaByHk
import Derived.OwnWalk
import Derived.Deep.DeepCutAuto
import Derived.Test.YthlfmbijagpggaaJPlUp
import Derived.Test.YthlfmbijagpggaaJIvPlain
/-
  Package place: Lives.
  Conditions: the map lies in memory.
-/
namespace Go.Proofs.Ythlfmbijagpggaa.Pl
open Go.RowKit By Fl At Cr
set_option linter.unusedVariables false
set_option linter.unusedSimpArgs false
set_option maxRecDepth 100000

theorem flat_I : ∀ l : List Int, flat enI l = l.map (fun z => Value.int .i64 z)
  | [] => rfl
  | z :: l => by rw [flat_cons, flat_I l]; rfl

theorem own_zeros (w : World) {B : Nat} (hB : B ≤ w.heap.size) (n : Nat) (hn : n ≤ 1000) : Own (w.alloc (.cells ((List.replicate n (0 : Int)).map fun v => Value.int .i64 v).toArray 3)) B 3 1 enI (.slice (some ⟨w.heap.size, 0, none⟩) n n) (List.replicate n (0 : Int)) := by
  have e1 : (List.replicate n (0 : Int)).length = n := by simp
  have := Own.of_heap (K := List.replicate n (0 : Int)) (B := B) (sz := 1) (enc := enI) (heap_alloc_new w (.cells ((List.replicate n (0 : Int)).map fun v => Value.int .i64 v).toArray 3)) hB (c := n) (by rw [e1]; exact Nat.le_refl _) (by unfold maxLen; omega) (by simp) irow.len (by rw [flat_I]; simp)
  rw [e1] at this
  exact this

theorem put_block {w : World} {g k b : Nat} {v : Value} (hlt : b < w.heap.size) (hne : b ≠ g) : (w.setCell ⟨g, k, none⟩ v).heap[b]? = w.heap[b]? :=
  (turns_put (a := g) (Turns.refl _ w) k v).block b hlt hne
theorem cell_put {w : World} {g k b o : Nat} {v u : Value} (h : w.cell? ⟨b, o, none⟩ = some u) (hne : b ≠ g) : (w.setCell ⟨g, k, none⟩ v).cell? ⟨b, o, none⟩ = some u :=
  (World.cell?_of_block (a := ⟨b, o, none⟩) (put_block (cell_lt' h) hne)).trans h
theorem frz_put {w : World} {g k b o : Nat} {v : Value} (hlt : b < w.heap.size) (h : w.frozen? ⟨b, o, none⟩ = false) (hne : b ≠ g) : (w.setCell ⟨g, k, none⟩ v).frozen? ⟨b, o, none⟩ = false :=
  (World.frozen?_of_block (a := ⟨b, o, none⟩) (put_block hlt hne)).trans h

theorem two_set {w : World} {B ga gb n c n' c' : Nat} {l1 l2 : List Int} (h1 : Own w B 3 1 enI (.slice (some ⟨ga, 0, none⟩) n c) l1) (h2 : Own w B 3 1 enI (.slice (some ⟨gb, 0, none⟩) n' c') l2) (hne : ga ≠ gb) (k : Nat) (a b : Int) :
    Own ((w.setCell ⟨ga, k, none⟩ (.int .i64 a)).setCell ⟨gb, k, none⟩ (.int .i64 b)) B 3 1 enI (.slice (some ⟨ga, 0, none⟩) n c) (l1.set k a) ∧ Own ((w.setCell ⟨ga, k, none⟩ (.int .i64 a)).setCell ⟨gb, k, none⟩ (.int .i64 b)) B 3 1 enI (.slice (some ⟨gb, 0, none⟩) n' c') (l2.set k b) := by
  have t1 : Turns (fun j => j = ga) w (w.setCell ⟨ga, k, none⟩ (.int .i64 a)) := turns_put (Turns.refl _ w) k _
  have t2 : Turns (fun j => j = gb) (w.setCell ⟨ga, k, none⟩ (.int .i64 a)) ((w.setCell ⟨ga, k, none⟩ (.int .i64 a)).setCell ⟨gb, k, none⟩ (.int .i64 b)) := turns_put (Turns.refl _ _) k _
  refine ⟨(own_setI h1 k a).turns t2 (fun g hg e => ?_), own_setI (h2.turns t1 (fun g hg e => ?_)) k b⟩
  · simp [Value.ownBlock] at hg; omega
  · simp [Value.ownBlock] at hg; omega

/- The first k are told, the others are zero. -/
def fil (f : Int → Int) (l : List Int) (k : Nat) : List Int := (l.take k).map f ++ List.replicate (l.length - k) 0
theorem fil_zero (f : Int → Int) (l : List Int) : fil f l 0 = List.replicate l.length 0 := by simp [fil]
theorem fil_all (f : Int → Int) (l : List Int) : fil f l l.length = l.map f := by simp [fil]
theorem fil_two (f : Int → Int) {l : List Int} {k : Nat} {z : Int} (h : l[k]? = some z) : fil f l k = (l.take k).map f ++ 0 :: List.replicate (l.length - (k + 1)) 0 ∧ fil f l (k + 1) = (l.take k).map f ++ f z :: List.replicate (l.length - (k + 1)) 0 := by
  obtain ⟨hk, hz⟩ := List.getElem?_eq_some_iff.1 h
  refine ⟨?_, ?_⟩
  · unfold fil
    rw [show l.length - k = (l.length - (k + 1)) + 1 by omega, List.replicate_succ]
  · unfold fil
    rw [List.take_add_one, h]
    simp
theorem fil_put {f : Int → Int} {l : List Int} {k : Nat} {z : Int} (h : l[k]? = some z) : fil f l (k + 1) = (fil f l k).set k (f z) := by
  obtain ⟨h1, h2⟩ := fil_two f h
  have hk := (List.getElem?_eq_some_iff.1 h).1
  rw [h1, h2, List.set_append_right _ _ (by simp; omega)]
  simp only [List.length_map, List.length_take]
  rw [show min k l.length = k by omega, Nat.sub_self]
  rfl
theorem fil_no {f : Int → Int} {l : List Int} {k : Nat} {z : Int} (h : l[k]? = some z) (hf : f z = 0) : fil f l (k + 1) = fil f l k := by
  obtain ⟨h1, h2⟩ := fil_two f h
  rw [h1, h2, hf]
theorem fil_get {f : Int → Int} {l : List Int} {k : Nat} {z : Int} (h : l[k]? = some z) : (fil f l k)[k]? = some 0 := by
  obtain ⟨h1, h2⟩ := fil_two f h
  have hk := (List.getElem?_eq_some_iff.1 h).1
  rw [h1, List.getElem?_append_right (by simp; omega)]
  simp only [List.length_map, List.length_take]
  rw [show min k l.length = k by omega, Nat.sub_self]
  rfl

def LvSays (w : World) (m : Mp) (pg : Int) (e : Ending) (w' : World) : Prop :=
  ∃ (x1 : Option Addr) (n1 c1 : Nat) (x2 : Option Addr) (n2 c2 : Nat), e = .returned (.tuple #[.slice x1 n1 c1, .slice x2 n2 c2, .int .i64 (upE m pg)]) ∧ Hid (Below w.heap.size w w' ∧ Nu w' x1 n1 c1 ((actL m pg).map (lf m.osds)) ∧ Nu w' x2 n2 c2 ((actL m pg).map (bo m.osds)))

end Go.Proofs.Ythlfmbijagpggaa.Pl

/-
  Package interval: moment: who keeps a placement group by one map.
  Conditions: the map lies in memory.
-/
namespace Go.Proofs.Ythlfmbijagpggaa.Iv
open Go.RowKit By Fl At Cr Pl
set_option linter.unusedVariables false
set_option linter.unusedSimpArgs false
set_option maxRecDepth 100000

theorem lf_eq (L : List Osd) (z : Int) : lf L z = (findP L z).1.life := by
  unfold lf findP
  split <;> rfl
theorem bo_eq (L : List Osd) (z : Int) : bo L z = (findP L z).1.boot := by
  unfold bo findP
  split <;> rfl

def cX (ep : Int) (x1 : Option Addr) (n1 c1 ga gb : Nat) (p : Int) : Array Value := #[.int .i64 ep, .int .i64 ep, .slice x1 n1 c1, .slice (some ⟨ga, 0, none⟩) n1 n1, .slice (some ⟨gb, 0, none⟩) n1 n1, .int .i64 p]

/- Between two rounds: the box xb, the lists ga and gb. -/
structure Mb (w1 wr : World) (m : Mp) (LA : List Int) (x1 : Option Addr) (n1 c1 xb ga gb k : Nat) : Prop where
  bel : Below w1.heap.size w1 wr
  box : wr.heap[xb]? = some (.cells (cX m.ep x1 n1 c1 ga gb (prm (LA.take k))) 25 (0, 0))
  la : Own wr w1.heap.size 3 1 enI (.slice (some ⟨ga, 0, none⟩) n1 n1) (fil (lf m.osds) LA k)
  lb : Own wr w1.heap.size 3 1 enI (.slice (some ⟨gb, 0, none⟩) n1 n1) (fil (bo m.osds) LA k)
  hx : w1.heap.size ≤ xb
  ab : ga ≠ gb
  xa : xb ≠ ga
  xc : xb ≠ gb

theorem set6 (ep : Int) (x1 : Option Addr) (n1 c1 ga gb : Nat) (p q : Int) : (cX ep x1 n1 c1 ga gb p).setIfInBounds 5 (.int .i64 q) = cX ep x1 n1 c1 ga gb q := rfl

theorem Mb.next {w1 wr W W' : World} {m : Mp} {LA : List Int} {x1 : Option Addr} {n1 c1 xb ga gb k : Nat} {z : Int} (h : Mb w1 wr m LA x1 n1 c1 xb ga gb k) (hz : LA[k]? = some z) (hb : Below wr.heap.size wr W)
    (hW : W' = (W.setCell ⟨ga, k, none⟩ (.int .i64 (lf m.osds z))).setCell ⟨gb, k, none⟩ (.int .i64 (bo m.osds z))) :
    (prm (LA.take k) ≠ -1 → Mb w1 W' m LA x1 n1 c1 xb ga gb (k + 1)) ∧ (prm (LA.take k) = -1 → Mb w1 (W'.setCell ⟨xb, 5, none⟩ (.int .i64 z)) m LA x1 n1 c1 xb ga gb (k + 1)) := by
  have tw := two_set (h.la.below hb) (h.lb.below hb) h.ab k (lf m.osds z) (bo m.osds z)
  have hA := (h.la.tb (g := ga) rfl).1
  have hB := (h.lb.tb (g := gb) rfl).1
  have bb := on h.bel hb
  have t1 : Turns (fun j => j = ga ∨ j = gb) W W' := by
    rw [hW]
    exact ((turns_put (a := ga) (Turns.refl _ W) k _).weak fun j e => .inl e).trans ((turns_put (a := gb) (Turns.refl _ _) k _).weak fun j e => .inr e)
  rw [← hW] at tw
  have b1 : Below w1.heap.size w1 W' := bb.trans (t1.below (fun j e => by rcases e with e | e <;> omega) bb.size)
  have hxl : xb < wr.heap.size := (Array.getElem?_eq_some_iff.1 h.box).1
  have box1 : W'.heap[xb]? = some (.cells (cX m.ep x1 n1 c1 ga gb (prm (LA.take k))) 25 (0, 0)) := (t1.block xb (Nat.lt_of_lt_of_le hxl hb.size) (fun e => by
    rcases e with e | e
    · exact h.xa e
    · exact h.xc e)).trans ((hb.block xb hxl).trans h.box)
  have etk : LA.take (k + 1) = LA.take k ++ [z] := by
    rw [List.take_add_one, hz]
    rfl
  refine ⟨fun hp => ⟨b1, ?_, ?_, ?_, h.hx, h.ab, h.xa, h.xc⟩, fun hp => ?_⟩
  · rw [etk, prm_app, if_neg hp]
    exact box1
  · rw [fil_put hz]
    exact tw.1
  · rw [fil_put hz]
    exact tw.2
  · have t2 : Turns (fun j => j = xb) W' (W'.setCell ⟨xb, 5, none⟩ (.int .i64 z)) := turns_put (Turns.refl _ W') 5 _
    refine ⟨b1.trans (t2.below (fun j e => by have := h.hx; omega) b1.size), ?_, ?_, ?_, h.hx, h.ab, h.xa, h.xc⟩
    · rw [etk, prm_app, if_pos hp]
      exact (heap_set box1 _).trans (by rw [set6])
    · rw [fil_put hz]
      exact tw.1.turns t2 (fun g hg e => by
        simp [Value.ownBlock] at hg
        exact h.xa (by omega))
    · rw [fil_put hz]
      exact tw.2.turns t2 (fun g hg e => by
        simp [Value.ownBlock] at hg
        exact h.xc (by omega))

theorem mb_start {w1 w9 : World} {m : Mp} {LA : List Int} {x1 : Option Addr} {n1 c1 xb ga gb : Nat} (hn : LA.length = n1) (hn2 : n1 ≤ 1000) (hb : Below w1.heap.size w1 w9) (Z : Obj) (hZ : Z = .cells ((List.replicate n1 (0 : Int)).map fun v => Value.int .i64 v).toArray 3)
    (hx : w9.heap[xb]? = some (.cells (cX m.ep x1 n1 c1 ga gb (-1)) 25 (0, 0))) (ha : w9.heap[ga]? = some Z) (hc : w9.heap[gb]? = some Z) (h1 : w1.heap.size ≤ xb) (h2 : w1.heap.size ≤ ga) (h3 : w1.heap.size ≤ gb) (ab : ga ≠ gb) (xa : xb ≠ ga) (xc : xb ≠ gb) :
    Mb w1 w9 m LA x1 n1 c1 xb ga gb 0 := by
  have e1 : (List.replicate n1 (0 : Int)).length = n1 := by simp
  have ow : ∀ g, w9.heap[g]? = some Z → w1.heap.size ≤ g → Own w9 w1.heap.size 3 1 enI (.slice (some ⟨g, 0, none⟩) n1 n1) (List.replicate n1 (0 : Int)) := fun g hg hB => by
    rw [hZ] at hg
    have := Own.of_heap (K := List.replicate n1 (0 : Int)) (B := w1.heap.size) (sz := 1) (enc := enI) hg hB (c := n1) (by rw [e1]; exact Nat.le_refl _) (by unfold maxLen; omega) (by simp) irow.len (by rw [flat_I]; simp)
    rw [e1] at this
    exact this
  refine ⟨hb, ?_, ?_, ?_, h1, ab, xa, xc⟩
  · rw [List.take_zero]
    exact hx
  · rw [fil_zero, hn]
    exact ow ga ha h2
  · rw [fil_zero, hn]
    exact ow gb hc h3

def MomSays (w : World) (m : Mp) (pg : Int) (e : Ending) (w' : World) : Prop := ∃ v : SpV, e = .returned (vS v) ∧ Hid (v.s = mom m pg ∧ Below w.heap.size w w' ∧ SpAt w' v ∧ ∀ k, blks v k → w.heap.size ≤ k)

def mkV (m : Mp) (pg : Int) (x1 : Option Addr) (n1 c1 ga gb : Nat) : SpV := ⟨mom m pg, x1, n1, c1, some ⟨ga, 0, none⟩, n1, n1, some ⟨gb, 0, none⟩, n1, n1⟩

theorem Mb.done {w w1 wr W : World} {m : Mp} {pg : Int} {LA : List Int} {x1 : Option Addr} {n1 c1 xb ga gb : Nat} (h : Mb w1 wr m LA x1 n1 c1 xb ga gb n1) (hn : LA.length = n1) (hn2 : n1 ≤ 1000) (hLA : LA = actL m pg) (hb1 : Below w.heap.size w w1) {B : Nat} (hOw : Own w1 B 3 1 enI (.slice x1 n1 c1) LA) (hB0 : w.heap.size ≤ B) (hb : Below w.heap.size wr W) (hbl : ∀ k, w1.heap.size ≤ k → k < wr.heap.size → W.heap[k]? = wr.heap[k]?) (hbx : ∀ k, x1 = some ⟨k, 0, none⟩ → W.heap[k]? = wr.heap[k]?) :
    Below w.heap.size w W ∧ SpAt W (mkV m pg x1 n1 c1 ga gb) ∧ ∀ k, blks (mkV m pg x1 n1 c1 ga gb) k → w.heap.size ≤ k := by
  subst hLA
  refine ⟨?_, ?_, ?_⟩
  · exact (hb1.trans (h.bel.mono hb1.size)).trans hb
  · have ha := h.la
    have hc := h.lb
    rw [← hn, fil_all] at ha hc
    rw [hn] at ha hc
    have hA := (h.la.tb (g := ga) rfl)
    have hC := (h.lb.tb (g := gb) rfl)
    have ho := (hOw.below h.bel)
    refine ⟨own_nu (ho.same fun g hg => ?_), own_nu (ha.same fun g hg => ?_), own_nu (hc.same fun g hg => ?_), hn2, hn2, hn2⟩
    · obtain ⟨x', c', e, _, _, h3⟩ := ho.form
      injection e with e1 e2 e3
      cases x1 with
      | none => simp [Value.ownBlock] at hg
      | some ad =>
        obtain ⟨g', rfl, _, _⟩ := h3 ad e1.symm
        simp [Value.ownBlock] at hg
        subst hg
        exact hbx g' rfl
    · simp [Value.ownBlock] at hg
      subst hg
      exact hbl _ hA.1 hA.2.lt
    · simp [Value.ownBlock] at hg
      subst hg
      exact hbl _ hC.1 hC.2.lt
  · intro k hk
    have z1 := hb1.size
    rcases hk with ⟨hn0, a, ha, rfl⟩ | ⟨hn0, a, ha, rfl⟩ | ⟨hn0, a, ha, rfl⟩
    · obtain ⟨x', c', e, _, _, h3⟩ := hOw.form
      injection e with e1 e2 e3
      obtain ⟨g, rfl, hB, _⟩ := h3 a (by rw [← e1]; exact ha)
      exact Nat.le_trans hB0 hB
    · simp [mkV] at ha
      rw [← ha]
      have := (h.la.tb (g := ga) rfl).1
      show w.heap.size ≤ ga
      omega
    · simp [mkV] at ha
      rw [← ha]
      have := (h.lb.tb (g := gb) rfl).1
      show w.heap.size ≤ gb
      omega

set_option maxHeartbeats 6400000 in
theorem moment_any {w : World} {x : Option Addr} {n c : Nat} (m : Mp) (h : At.Os w x n c m.osds) (hk : m.pool.k ≤ 9223372036854775807) (pg : Int) :
    Calls Try.prog 19 #[vM m.ep m.pool x n c, .int .i64 pg] w fun e w' => MomSays w m pg e w' := by
  obtain ⟨w0, hw0⟩ : ∃ w0, w0 = (w.alloc (.cells #[.int .i64 m.ep, .int .i64 m.pool.k, .int .i64 m.pool.m, .int .i64 m.pool.pgs, .int .i64 m.pool.dom, .slice x n c] 32)).alloc (.cells #[.int .i64 0, .int .i64 0, .slice none 0 0, .slice none 0 0, .slice none 0 0, .int .i64 0] 25) := ⟨_, rfl⟩
  have b0 : Below w.heap.size w w0 := by rw [hw0]; exact on (al _ _) (al _ _)
  have hz0 : w0.heap.size = w.heap.size + 2 := by rw [hw0]; simp
  have q0 : w0.cell? ⟨w.heap.size, 0, none⟩ = some (.int .i64 m.ep) := by rw [hw0]; go_simp
  have q1 : w0.cell? ⟨w.heap.size, 1, none⟩ = some (.int .i64 m.pool.k) := by rw [hw0]; go_simp
  have q2 : w0.cell? ⟨w.heap.size, 2, none⟩ = some (.int .i64 m.pool.m) := by rw [hw0]; go_simp
  have q3 : w0.cell? ⟨w.heap.size, 3, none⟩ = some (.int .i64 m.pool.pgs) := by rw [hw0]; go_simp
  have q4 : w0.cell? ⟨w.heap.size, 4, none⟩ = some (.int .i64 m.pool.dom) := by rw [hw0]; go_simp
  have q5 : w0.cell? ⟨w.heap.size, 5, none⟩ = some (.slice x n c) := by rw [hw0]; go_simp
  have q6 : w0.heap[w.heap.size + 1]? = some (.cells #[.int .i64 0, .int .i64 0, .slice none 0 0, .slice none 0 0, .slice none 0 0, .int .i64 0] 25 (0, 0)) := by
    have := heap_alloc_new (w.alloc (.cells #[.int .i64 m.ep, .int .i64 m.pool.k, .int .i64 m.pool.m, .int .i64 m.pool.pgs, .int .i64 m.pool.dom, .slice x n c] 32)) (.cells #[.int .i64 0, .int .i64 0, .slice none 0 0, .slice none 0 0, .slice none 0 0, .int .i64 0] 25)
    rw [World.size_alloc, ← hw0] at this
    exact this
  have HQ : Hid (∀ W, Below w0.heap.size w0 W → W.cell? ⟨w.heap.size, 0, none⟩ = some (.int .i64 m.ep) ∧ W.cell? ⟨w.heap.size, 1, none⟩ = some (.int .i64 m.pool.k) ∧ W.cell? ⟨w.heap.size, 2, none⟩ = some (.int .i64 m.pool.m) ∧ W.cell? ⟨w.heap.size, 3, none⟩ = some (.int .i64 m.pool.pgs) ∧ W.cell? ⟨w.heap.size, 4, none⟩ = some (.int .i64 m.pool.dom) ∧ W.cell? ⟨w.heap.size, 5, none⟩ = some (.slice x n c)) := fun W hb => ⟨keep hb q0, keep hb q1, keep hb q2, keep hb q3, keep hb q4, keep hb q5⟩
  have HR6 : Hid (∀ W, Below w0.heap.size w0 W → W.heap[w.heap.size + 1]? = some (.cells #[.int .i64 0, .int .i64 0, .slice none 0 0, .slice none 0 0, .slice none 0 0, .int .i64 0] 25 (0, 0))) := fun W hb => (hb.block _ (by omega)).trans q6
  have cA := acting_any m (h.below b0) hk pg
  have HF : Hid (∀ (id : Int) (W : World), Below w0.heap.size w0 W → Calls Try.prog 26 #[vM m.ep m.pool x n c, .int .i64 id] W fun e w' => e = .returned (.tuple #[vO (findP m.osds id).1, .bool (findP m.osds id).2]) ∧ Below W.heap.size W w') := fun id W hb => find_any m id (h.below (on b0 hb))
  have HB := hid b0
  have HW := hid hw0
  have HZ0 := hid hz0
  have hln := upL_len m pg
  rw [← actL_len] at hln
  unfold UpSays at cA
  rw [hw0] at cA
  generalize upE m pg = EE at *
  unfold vM at cA HF ⊢
  obtain ⟨LA, hLA⟩ : ∃ LA, LA = actL m pg := ⟨_, rfl⟩
  rw [← hLA] at cA hln
  have HLA := hid hLA
  clear h b0 hw0 q0 q1 q2 q3 q4 q5 q6 hk hLA hz0
  go_enter Try.func19, Try.ntmps19
  go_wp2_with (go_at_call 25; refine cA.mono ?_; rintro e w1 ⟨x1, n1, c1, rfl, H1⟩; clear cA; rw [← HW.out] at H1)
  have hn1 := form_slice H1.out.2
  have hn32 : n1 ≤ 32 := by omega
  have HLn := hid hn1
  clear hn1 hln
  obtain ⟨p0, p1, p2, p3, p4, p5⟩ := HQ.out w1 H1.out.1
  have hmk : ∀ W : World, (Instr.makeSlice 23 (.int .i64 (n1 : Int)) (.int .i64 (n1 : Int))).run Try.prog W = .ok (.slice (some ⟨W.heap.size, 0, none⟩) n1 n1) (W.alloc (.cells ((List.replicate n1 (0 : Int)).map fun v => Value.int .i64 v).toArray 3)) := fun W => Cr.run_make_ns W 23 3 Try.underlying23 (by kernel_rfl) n1 (by omega)
  obtain ⟨Z, hZ⟩ : ∃ Z : Obj, Z = .cells ((List.replicate n1 (0 : Int)).map fun v => Value.int .i64 v).toArray 3 := ⟨_, rfl⟩
  rw [← hZ] at hmk
  have HZ := hid hZ
  clear hZ
  go_cut [7] (fun s7 wc => ∃ xb ga gb : Nat, s7 = .pointer (some ⟨xb, 0, none⟩) ∧ Hid (Mb w1 wc m LA x1 n1 c1 xb ga gb 0))
  case first =>
    have bD : Below w1.heap.size w1 w1.drew := (Below.refl _ _).drew
    have d0 := keep bD p0
    have HBD := hid bD
    clear bD p0 p1 p2 p3 p4 p5
    refine wp_region_held_drew (S := fun v => v.cell? ⟨w.heap.size, 0, none⟩ = some (.int .i64 m.ep)) (by kernel_rfl) d0 (fun hHeld => ?_)
    generalize w1.drew = wD at *
    have kp1 : ∀ (W : World) (o : Obj), W.cell? ⟨w.heap.size, 0, none⟩ = some (.int .i64 m.ep) → (W.alloc o).cell? ⟨w.heap.size, 0, none⟩ = some (.int .i64 m.ep) := fun W o hc => keep (al W o) hc
    obtain ⟨Y, hY⟩ : ∃ Y : Obj, Y = .cells #[.int .i64 0, .int .i64 0, .slice none 0 0, .slice none 0 0, .slice none 0 0, .int .i64 0] 25 := ⟨_, rfl⟩
    have HE : Hid (∀ (A B C : Obj), Below w1.heap.size w1 (((wD.alloc A).alloc B).alloc C) ∧ (((wD.alloc A).alloc B).alloc C).heap[wD.heap.size]? = some A ∧ (((wD.alloc A).alloc B).alloc C).heap[wD.heap.size + 1]? = some B ∧ (((wD.alloc A).alloc B).alloc C).heap[wD.heap.size + 1 + 1]? = some C) := fun A B C => by
      refine ⟨on HBD.out (on (al _ _) (on (al _ _) (al _ _))), ?_, ?_, ?_⟩
      · exact (Below.heap_alloc _ _ _ (by simp; omega)).trans ((Below.heap_alloc _ _ _ (by simp)).trans (heap_alloc_new wD _))
      · have := heap_alloc_new (wD.alloc A) B
        rw [World.size_alloc] at this
        exact (Below.heap_alloc _ _ _ (by simp)).trans this
      · have := heap_alloc_new ((wD.alloc A).alloc B) C
        rw [World.size_alloc, World.size_alloc] at this
        exact this
    have hzD := HBD.out.size
    refine By.hk 0 ?_
    refine By.hk 1 ?_
    refine By.hk 2 ?_
    refine By.hk 3 ?_
    refine By.hk 4 ?_
    refine By.hk 5 ?_
    refine By.hk 6 ?_
    refine By.hk 8 ?_
    refine By.hk 9 ?_
    refine wpAnyH_ready (rs := [7, 10, 12]) (by kernel_rfl) (by simp) ?_
    refine AllReadyH.cons rfl (fun K hK => ?_) (AllReadyH.cons rfl (fun K hK => ?_) (AllReadyH.cons rfl (fun K hK => ?_) AllReadyH.nil))
    · go_simp
      refine hK.out _ _ (kp1 _ _ (by first | exact d0 | exact kp1 _ _ d0 | exact kp1 _ _ (kp1 _ _ d0))) (fun hHeld => ?_)
      clear hK K
      refine wpAnyH_ready (rs := [10, 12]) (by kernel_rfl) (by simp) ?_
      refine AllReadyH.cons rfl (fun K hK => ?_) (AllReadyH.cons rfl (fun K hK => ?_) AllReadyH.nil)
      · go_simp
        refine hK.out _ _ (kp1 _ _ (by first | exact d0 | exact kp1 _ _ d0 | exact kp1 _ _ (kp1 _ _ d0))) (fun hHeld => ?_)
        clear hK K
        refine By.hk 11 ?_
        refine wpAnyH_ready (rs := [12]) (by kernel_rfl) (by simp) ?_
        refine AllReadyH.cons rfl (fun K hK => ?_) AllReadyH.nil
        go_simp
        refine hK.out _ _ (kp1 _ _ (kp1 _ _ (kp1 _ _ d0))) (fun hHeld => ?_)
        clear hK K
        refine wpAnyH_ready (rs := [13]) (by kernel_rfl) (by simp) ?_
        refine AllReadyH.cons rfl (fun K hK => ?_) AllReadyH.nil
        go_simp
        refine hK.out _ _ (kp1 _ _ (kp1 _ _ (kp1 _ _ d0))) (fun hHeld => ?_)
        clear hK K
        refine wpAnyH_done (by kernel_rfl) ?_ _
        go_wp2_with fail
        go_meet
        case rel => exact ⟨(wD.heap.size + 1 + 1), wD.heap.size, (wD.heap.size + 1), rfl, mb_start HLn.out (by omega) (HE.out _ _ _).1 Z HZ.out (HE.out _ _ _).2.2.2 (HE.out _ _ _).2.1 (HE.out _ _ _).2.2.1 (by omega) (by omega) (by omega) (by omega) (by omega) (by omega)⟩
      · go_simp
        refine hK.out _ _ (kp1 _ _ (by first | exact d0 | exact kp1 _ _ d0 | exact kp1 _ _ (kp1 _ _ d0))) (fun hHeld => ?_)
        clear hK K
        refine wpAnyH_ready (rs := [10]) (by kernel_rfl) (by simp) ?_
        refine AllReadyH.cons rfl (fun K hK => ?_) AllReadyH.nil
        go_simp
        refine hK.out _ _ (kp1 _ _ (kp1 _ _ (kp1 _ _ d0))) (fun hHeld => ?_)
        clear hK K
        refine By.hk 11 ?_
        refine wpAnyH_ready (rs := [13]) (by kernel_rfl) (by simp) ?_
        refine AllReadyH.cons rfl (fun K hK => ?_) AllReadyH.nil
        go_simp
        refine hK.out _ _ (kp1 _ _ (kp1 _ _ (kp1 _ _ d0))) (fun hHeld => ?_)
        clear hK K
        refine wpAnyH_done (by kernel_rfl) ?_ _
        go_wp2_with fail
        go_meet
        case rel => exact ⟨(wD.heap.size + 1), wD.heap.size, (wD.heap.size + 1 + 1), rfl, mb_start HLn.out (by omega) (HE.out _ _ _).1 Z HZ.out (HE.out _ _ _).2.2.1 (HE.out _ _ _).2.1 (HE.out _ _ _).2.2.2 (by omega) (by omega) (by omega) (by omega) (by omega) (by omega)⟩
    · go_simp
      refine hK.out _ _ (kp1 _ _ (by first | exact d0 | exact kp1 _ _ d0 | exact kp1 _ _ (kp1 _ _ d0))) (fun hHeld => ?_)
      clear hK K
      refine wpAnyH_ready (rs := [7, 12]) (by kernel_rfl) (by simp) ?_
      refine AllReadyH.cons rfl (fun K hK => ?_) (AllReadyH.cons rfl (fun K hK => ?_) AllReadyH.nil)
      · go_simp
        refine hK.out _ _ (kp1 _ _ (by first | exact d0 | exact kp1 _ _ d0 | exact kp1 _ _ (kp1 _ _ d0))) (fun hHeld => ?_)
        clear hK K
        refine By.hk 11 ?_
        refine wpAnyH_ready (rs := [12]) (by kernel_rfl) (by simp) ?_
        refine AllReadyH.cons rfl (fun K hK => ?_) AllReadyH.nil
        go_simp
        refine hK.out _ _ (kp1 _ _ (kp1 _ _ (kp1 _ _ d0))) (fun hHeld => ?_)
        clear hK K
        refine wpAnyH_ready (rs := [13]) (by kernel_rfl) (by simp) ?_
        refine AllReadyH.cons rfl (fun K hK => ?_) AllReadyH.nil
        go_simp
        refine hK.out _ _ (kp1 _ _ (kp1 _ _ (kp1 _ _ d0))) (fun hHeld => ?_)
        clear hK K
        refine wpAnyH_done (by kernel_rfl) ?_ _
        go_wp2_with fail
        go_meet
        case rel => exact ⟨(wD.heap.size + 1 + 1), (wD.heap.size + 1), wD.heap.size, rfl, mb_start HLn.out (by omega) (HE.out _ _ _).1 Z HZ.out (HE.out _ _ _).2.2.2 (HE.out _ _ _).2.2.1 (HE.out _ _ _).2.1 (by omega) (by omega) (by omega) (by omega) (by omega) (by omega)⟩
      · go_simp
        refine hK.out _ _ (kp1 _ _ (by first | exact d0 | exact kp1 _ _ d0 | exact kp1 _ _ (kp1 _ _ d0))) (fun hHeld => ?_)
        clear hK K
        refine wpAnyH_ready (rs := [7]) (by kernel_rfl) (by simp) ?_
        refine AllReadyH.cons rfl (fun K hK => ?_) AllReadyH.nil
        go_simp
        refine hK.out _ _ (kp1 _ _ (kp1 _ _ (kp1 _ _ d0))) (fun hHeld => ?_)
        clear hK K
        refine By.hk 11 ?_
        refine wpAnyH_ready (rs := [13]) (by kernel_rfl) (by simp) ?_
        refine AllReadyH.cons rfl (fun K hK => ?_) AllReadyH.nil
        go_simp
        refine hK.out _ _ (kp1 _ _ (kp1 _ _ (kp1 _ _ d0))) (fun hHeld => ?_)
        clear hK K
        refine wpAnyH_done (by kernel_rfl) ?_ _
        go_wp2_with fail
        go_meet
        case rel => exact ⟨(wD.heap.size + 1), (wD.heap.size + 1 + 1), wD.heap.size, rfl, mb_start HLn.out (by omega) (HE.out _ _ _).1 Z HZ.out (HE.out _ _ _).2.2.1 (HE.out _ _ _).2.2.2 (HE.out _ _ _).2.1 (by omega) (by omega) (by omega) (by omega) (by omega) (by omega)⟩
    · go_simp
      refine hK.out _ _ (kp1 _ _ (by first | exact d0 | exact kp1 _ _ d0 | exact kp1 _ _ (kp1 _ _ d0))) (fun hHeld => ?_)
      clear hK K
      refine wpAnyH_ready (rs := [7, 10]) (by kernel_rfl) (by simp) ?_
      refine AllReadyH.cons rfl (fun K hK => ?_) (AllReadyH.cons rfl (fun K hK => ?_) AllReadyH.nil)
      · go_simp
        refine hK.out _ _ (kp1 _ _ (by first | exact d0 | exact kp1 _ _ d0 | exact kp1 _ _ (kp1 _ _ d0))) (fun hHeld => ?_)
        clear hK K
        refine wpAnyH_ready (rs := [10]) (by kernel_rfl) (by simp) ?_
        refine AllReadyH.cons rfl (fun K hK => ?_) AllReadyH.nil
        go_simp
        refine hK.out _ _ (kp1 _ _ (kp1 _ _ (kp1 _ _ d0))) (fun hHeld => ?_)
        clear hK K
        refine By.hk 11 ?_
        refine wpAnyH_ready (rs := [13]) (by kernel_rfl) (by simp) ?_
        refine AllReadyH.cons rfl (fun K hK => ?_) AllReadyH.nil
        go_simp
        refine hK.out _ _ (kp1 _ _ (kp1 _ _ (kp1 _ _ d0))) (fun hHeld => ?_)
        clear hK K
        refine wpAnyH_done (by kernel_rfl) ?_ _
        go_wp2_with fail
        go_meet
        case rel => exact ⟨wD.heap.size, (wD.heap.size + 1), (wD.heap.size + 1 + 1), rfl, mb_start HLn.out (by omega) (HE.out _ _ _).1 Z HZ.out (HE.out _ _ _).2.1 (HE.out _ _ _).2.2.1 (HE.out _ _ _).2.2.2 (by omega) (by omega) (by omega) (by omega) (by omega) (by omega)⟩
      · go_simp
        refine hK.out _ _ (kp1 _ _ (by first | exact d0 | exact kp1 _ _ d0 | exact kp1 _ _ (kp1 _ _ d0))) (fun hHeld => ?_)
        clear hK K
        refine wpAnyH_ready (rs := [7]) (by kernel_rfl) (by simp) ?_
        refine AllReadyH.cons rfl (fun K hK => ?_) AllReadyH.nil
        go_simp
        refine hK.out _ _ (kp1 _ _ (kp1 _ _ (kp1 _ _ d0))) (fun hHeld => ?_)
        clear hK K
        refine By.hk 11 ?_
        refine wpAnyH_ready (rs := [13]) (by kernel_rfl) (by simp) ?_
        refine AllReadyH.cons rfl (fun K hK => ?_) AllReadyH.nil
        go_simp
        refine hK.out _ _ (kp1 _ _ (kp1 _ _ (kp1 _ _ d0))) (fun hHeld => ?_)
        clear hK K
        refine wpAnyH_done (by kernel_rfl) ?_ _
        go_wp2_with fail
        go_meet
        case rel => exact ⟨wD.heap.size, (wD.heap.size + 1 + 1), (wD.heap.size + 1), rfl, mb_start HLn.out (by omega) (HE.out _ _ _).1 Z HZ.out (HE.out _ _ _).2.1 (HE.out _ _ _).2.2.2 (HE.out _ _ _).2.2.1 (by omega) (by omega) (by omega) (by omega) (by omega) (by omega)⟩
  case rest =>
    obtain ⟨xb, ga, gb, rfl, HC⟩ := hcut
    clear hmk HZ p0 p1 p2 p3 p4 p5
    go_wp2_with fail
    go_loopw [32] (fun i wr => ∃ k : Nat, k ≤ n1 ∧ i = .int .i64 k ∧ Hid (Mb w1 wr m LA x1 n1 c1 xb ga gb k)) (fun i _ => n1 - (intOf i).toNat)
    case atStart => exact ⟨0, by omega, rfl, HC.out⟩
    case round =>
      clear HC
      obtain ⟨k, hk, rfl, HR⟩ := hrel
      have hM := HR.out
      have x0 : wr.cell? ⟨xb, 0, none⟩ = some (.int .i64 m.ep) := cell_heap hM.box rfl
      have x1' : wr.cell? ⟨xb, 1, none⟩ = some (.int .i64 m.ep) := cell_heap hM.box rfl
      have x2 : wr.cell? ⟨xb, 2, none⟩ = some (.slice x1 n1 c1) := cell_heap hM.box rfl
      have x3 : wr.cell? ⟨xb, 3, none⟩ = some (.slice (some ⟨ga, 0, none⟩) n1 n1) := cell_heap hM.box rfl
      have x4 : wr.cell? ⟨xb, 4, none⟩ = some (.slice (some ⟨gb, 0, none⟩) n1 n1) := cell_heap hM.box rfl
      have x5 : wr.cell? ⟨xb, 5, none⟩ = some (.int .i64 (prm (LA.take k))) := cell_heap hM.box rfl
      have fx := fr_heap hM.box 5
      have hxa := hM.xa
      have hxc := hM.xc
      have hab := hM.ab
      by_cases hlt : k < n1
      · have hkn : (k : Int) < (n1 : Int) := by omega
        obtain ⟨z, hz⟩ : ∃ z, LA[k]? = some z := ⟨LA[k]'(by have := HLn.out; omega), List.getElem?_eq_getElem (by have := HLn.out; omega)⟩
        have o1 := H1.out.2.below hM.bel
        obtain ⟨g, c6, e6, _, _, hg1, hg2⟩ := o1.there (fun e => by rw [e] at hz; simp at hz)
        injection e6 with e61 e62 e63
        subst e61
        have d0 := cell_own o1 hz
        have da := cell_own hM.la (fil_get hz)
        have db := cell_own hM.lb (fil_get hz)
        have fa := hM.la.frozen (k := k)
        have fb := hM.lb.frozen (k := k)
        have la := cell_lt' da
        have lb := cell_lt' db
        have lx := cell_lt' x5
        have cF := HF.out z wr (on H1.out.1 hM.bel)
        obtain ⟨p0, p1, p2, p3, p4, p5⟩ := HQ.out wr (on H1.out.1 hM.bel)
        have HLF := hid (And.intro (lf_eq m.osds z) (bo_eq m.osds z))
        have HZ := hid hz
        clear hM o1 hz e62 e63 hg1 hg2 x0 x1' x2
        generalize (findP m.osds z).2 = ok at *
        generalize (findP m.osds z).1 = o at *
        obtain ⟨m0, m1, m2, m3, m4, m5, m6, m7⟩ := o
        unfold vO at cF
        dsimp only at cF HLF
        go_wp2_with (go_at_call 26; refine cF.mono ?_; rintro e w2 ⟨rfl, hb2⟩; clear cF)
        obtain ⟨w3, hw3⟩ : ∃ w3, w3 = w2.alloc (.cells #[.int .i64 m0, .bool m1, .bool m2, .int .i64 m3, .int .i64 m4, .int .i64 m5, .int .i64 m6, .int .i64 m7] 45) := ⟨_, rfl⟩
        rw [← hw3]
        have b3 : Below wr.heap.size wr w3 := by rw [hw3]; exact on hb2 (al _ _)
        have u4 : w3.cell? ⟨w2.heap.size, 4, none⟩ = some (.int .i64 m4) := by rw [hw3]; go_simp
        have u5 : w3.cell? ⟨w2.heap.size, 5, none⟩ = some (.int .i64 m5) := by rw [hw3]; go_simp
        have bD : Below w3.heap.size w3 w3.drew := (Below.refl _ _).drew
        have b4 := on b3 bD
        have v4 := keep bD u4
        have v5 := keep bD u5
        have y3 := keep b4 x3
        have y4 := keep b4 x4
        have y5 := keep b4 x5
        have fy := keepf b4 lx fx
        have ea := keep b4 da
        have eb := keep b4 db
        have ga2 := keepf b4 la fa
        have gb2 := keepf b4 lb fb
        have z2 := hb2.size
        have na : w2.heap.size ≠ ga := by omega
        have nb : w2.heap.size ≠ gb := by omega
        have nba : gb ≠ ga := fun e => hab e.symm
        have HN : Hid (Below wr.heap.size wr w3.drew) := b4
        clear hw3 u4 u5 bD b3 b4 da db fa fb p0 p1 p2 p3 p4 p5 d0 x3 x4 x5 fx
        refine wp_region_held_drew (S := fun v => (v.cell? ⟨xb, 3, none⟩ = some (.slice (some ⟨ga, 0, none⟩) n1 n1) ∧ v.cell? ⟨xb, 4, none⟩ = some (.slice (some ⟨gb, 0, none⟩) n1 n1)) ∧ v.cell? ⟨w2.heap.size, 4, none⟩ = some (.int .i64 m4) ∧ v.cell? ⟨w2.heap.size, 5, none⟩ = some (.int .i64 m5)) (by kernel_rfl) ⟨⟨y3, y4⟩, v4, v5⟩ (fun hHeld => ?_)
        generalize w3.drew = wD at *
        have s1 : ((wD.setCell ⟨ga, k, none⟩ (.int .i64 m4)).cell? ⟨xb, 3, none⟩ = some (.slice (some ⟨ga, 0, none⟩) n1 n1) ∧ (wD.setCell ⟨ga, k, none⟩ (.int .i64 m4)).cell? ⟨xb, 4, none⟩ = some (.slice (some ⟨gb, 0, none⟩) n1 n1)) ∧ (wD.setCell ⟨ga, k, none⟩ (.int .i64 m4)).cell? ⟨w2.heap.size, 4, none⟩ = some (.int .i64 m4) ∧ (wD.setCell ⟨ga, k, none⟩ (.int .i64 m4)).cell? ⟨w2.heap.size, 5, none⟩ = some (.int .i64 m5) := ⟨⟨cell_put y3 hxa, cell_put y4 hxa⟩, cell_put v4 na, cell_put v5 na⟩
        have s2 : (((wD.setCell ⟨ga, k, none⟩ (.int .i64 m4)).setCell ⟨gb, k, none⟩ (.int .i64 m5)).cell? ⟨xb, 3, none⟩ = some (.slice (some ⟨ga, 0, none⟩) n1 n1) ∧ ((wD.setCell ⟨ga, k, none⟩ (.int .i64 m4)).setCell ⟨gb, k, none⟩ (.int .i64 m5)).cell? ⟨xb, 4, none⟩ = some (.slice (some ⟨gb, 0, none⟩) n1 n1)) ∧ ((wD.setCell ⟨ga, k, none⟩ (.int .i64 m4)).setCell ⟨gb, k, none⟩ (.int .i64 m5)).cell? ⟨w2.heap.size, 4, none⟩ = some (.int .i64 m4) ∧ ((wD.setCell ⟨ga, k, none⟩ (.int .i64 m4)).setCell ⟨gb, k, none⟩ (.int .i64 m5)).cell? ⟨w2.heap.size, 5, none⟩ = some (.int .i64 m5) := ⟨⟨cell_put s1.1.1 hxc, cell_put s1.1.2 hxc⟩, cell_put s1.2.1 nb, cell_put s1.2.2 nb⟩
        have eb2 := cell_put (g := ga) (k := k) (v := .int .i64 m4) eb nba
        have gb3 := frz_put (g := ga) (k := k) (v := .int .i64 m4) (cell_lt' eb) gb2 nba
        have y6 := cell_put (g := gb) (k := k) (v := .int .i64 m5) (cell_put (g := ga) (k := k) (v := .int .i64 m4) y5 hxa) hxc
        have fy6 := frz_put (g := gb) (k := k) (v := .int .i64 m5) (cell_lt' (cell_put (g := ga) (k := k) (v := .int .i64 m4) y5 hxa)) (frz_put (g := ga) (k := k) (v := .int .i64 m4) (cell_lt' y5) fy hxa) hxc
        refine By.hk 0 ?_
        refine By.hk 1 ?_
        refine By.hk 2 ?_
        refine By.hk 3 ?_
        refine By.hk 4 ?_
        refine By.hk 5 ?_
        refine By.hk 6 ?_
        refine By.hk 7 ?_
        refine By.hk 8 ?_
        refine By.hk 9 ?_
        refine By.hk 10 ?_
        refine wpAnyH_ready (rs := [11]) (by kernel_rfl) (by simp) ?_
        refine AllReadyH.cons rfl (fun K hK => ?_) AllReadyH.nil
        go_simp
        refine hK.out _ _ s1 (fun hHeld => ?_)
        clear hK K
        refine By.hk 12 ?_
        refine wpAnyH_ready (rs := [13]) (by kernel_rfl) (by simp) ?_
        refine AllReadyH.cons rfl (fun K hK => ?_) AllReadyH.nil
        go_simp
        refine hK.out _ _ s2 (fun hHeld => ?_)
        clear hK K
        refine wpAnyH_done (by kernel_rfl) ?_ _
        clear s1 s2 eb2 gb3 hHeld v4 v5 ea eb ga2 gb2 y3 y4 y5 fy
        obtain ⟨W', hW'⟩ : ∃ W', W' = (wD.setCell ⟨ga, k, none⟩ (.int .i64 m4)).setCell ⟨gb, k, none⟩ (.int .i64 m5) := ⟨_, rfl⟩
        rw [← hW'] at y6 fy6 ⊢
        have HX : Hid ((prm (LA.take k) ≠ -1 → Mb w1 W' m LA (some ⟨g, 0, none⟩) n1 c1 xb ga gb (k + 1)) ∧ (prm (LA.take k) = -1 → Mb w1 (W'.setCell ⟨xb, 5, none⟩ (.int .i64 z)) m LA (some ⟨g, 0, none⟩) n1 c1 xb ga gb (k + 1))) := HR.out.next HZ.out HN.out (by rw [hW', HLF.out.1, HLF.out.2])
        clear hW' HR HLF
        generalize prm (LA.take k) = pk at *
        by_cases hp : pk = -1
        · have hq : (pk == (-1 : Int)) = true := by simpa using hp
          have HP := hid hp
          clear hp
          go_wp2_with fail
          go_roundw
          case rel => exact ⟨k + 1, by omega, by go_num, HX.out.2 HP.out⟩
          case measure => simp [intOf]; omega
        · have hq : (pk == (-1 : Int)) = false := by simpa using hp
          have HP := hid hp
          clear hp
          go_wp2_with fail
          go_roundw
          case rel => exact ⟨k + 1, by omega, by go_num, HX.out.1 HP.out⟩
          case measure => simp [intOf]; omega
      · have hk2 : k = n1 := by omega
        subst hk2
        have hr6 := HR6.out wr (on H1.out.1 hM.bel)
        have f0 := fr_heap hr6 0
        have f1 := fr_heap hr6 1
        have f2 := fr_heap hr6 2
        have f3 := fr_heap hr6 3
        have f4 := fr_heap hr6 4
        have f5 := fr_heap hr6 5
        have c0 : wr.cell? ⟨w.heap.size + 1, 0, none⟩ = some (.int .i64 0) := cell_heap hr6 rfl
        have c1' : wr.cell? ⟨w.heap.size + 1, 1, none⟩ = some (.int .i64 0) := cell_heap hr6 rfl
        have c2 : wr.cell? ⟨w.heap.size + 1, 2, none⟩ = some (.slice none 0 0) := cell_heap hr6 rfl
        have c3 : wr.cell? ⟨w.heap.size + 1, 3, none⟩ = some (.slice none 0 0) := cell_heap hr6 rfl
        have c4 : wr.cell? ⟨w.heap.size + 1, 4, none⟩ = some (.slice none 0 0) := cell_heap hr6 rfl
        have c5 : wr.cell? ⟨w.heap.size + 1, 5, none⟩ = some (.int .i64 0) := cell_heap hr6 rfl
        have htk : LA.take k = LA := List.take_of_length_le (by have := HLn.out; omega)
        rw [htk] at x5
        have hz0 := HZ0.out
        have hxb := hM.hx
        have hb01 := H1.out.1
        have hsz1 := hb01.size
        have hT := turns_put6 wr (w.heap.size + 1) (mkV m pg x1 k c1 ga gb)
        have hgx : ∀ j, x1 = some ⟨j, 0, none⟩ → w0.heap.size ≤ j ∧ j < w1.heap.size := fun j e => by
          obtain ⟨x', c', e', _, _, h3⟩ := H1.out.2.form
          injection e' with e1 e2 e3
          obtain ⟨g', e9, hB, hG⟩ := h3 ⟨j, 0, none⟩ (by rw [← e1]; exact e)
          injection e9 with e9
          exact ⟨by omega, by omega⟩
        have hszr := hM.bel.size
        have HV := hid (Mb.done (w := w) (W := put6 wr (w.heap.size + 1) (mkV m pg x1 k c1 ga gb)) hM HLn.out (by omega) HLA.out (HB.out.trans (hb01.mono (by omega))) H1.out.2 (by omega) (hT.below (fun j e => by
          have e' : j = w.heap.size + 1 := e
          omega) (by omega)) (fun j h1 h2 => hT.block j h2 (by show ¬ j = w.heap.size + 1; omega)) (fun j e => by
          obtain ⟨h1, h2⟩ := hgx j e
          exact hT.block j (by omega) (by show ¬ j = w.heap.size + 1; omega)))
        have hbx := put6_box hr6 rfl (mkV m pg x1 k c1 ga gb)
        have hLA := HLA.out
        have e6 : put6 wr (w.heap.size + 1) (mkV m pg x1 k c1 ga gb) = (((((wr.setCell ⟨w.heap.size + 1, 0, none⟩ (.int .i64 m.ep)).setCell ⟨w.heap.size + 1, 1, none⟩ (.int .i64 m.ep)).setCell ⟨w.heap.size + 1, 2, none⟩ (.slice x1 k c1)).setCell ⟨w.heap.size + 1, 3, none⟩ (.slice (some ⟨ga, 0, none⟩) k k)).setCell ⟨w.heap.size + 1, 4, none⟩ (.slice (some ⟨gb, 0, none⟩) k k)).setCell ⟨w.heap.size + 1, 5, none⟩ (.int .i64 (prm LA)) := by
          rw [hLA]
          rfl
        obtain ⟨a0, a1, a2, a3, a4, a5⟩ := hbx.at
        have hvS : vS (mkV m pg x1 k c1 ga gb) = .agg #[.int .i64 m.ep, .int .i64 m.ep, .slice x1 k c1, .slice (some ⟨ga, 0, none⟩) k k, .slice (some ⟨gb, 0, none⟩) k k, .int .i64 (prm LA)] := by
          rw [hLA]
          rfl
        have HVS := hid hvS
        have HE6 := hid e6
        have a5' : (put6 wr (w.heap.size + 1) (mkV m pg x1 k c1 ga gb)).cell? ⟨w.heap.size + 1, 5, none⟩ = some (.int .i64 (prm LA)) := by rw [hLA]; exact a5
        have HA := hid (And.intro a0 (And.intro a1 (And.intro a2 (And.intro a3 (And.intro a4 a5')))))
        clear hM hLA e6 hvS a0 a1 a2 a3 a4 a5 a5' hbx hT hgx
        go_wp2_with fail
        rw [← HE6.out]
        refine bodyPost_ret (v := vS (mkV m pg x1 k c1 ga gb)) ?_ rfl ?_
        · rw [results_cell1 rfl, HVS.out]
          obtain ⟨a0, a1, a2, a3, a4, a5⟩ := HA.out
          generalize put6 wr (w.heap.size + 1) (mkV m pg x1 k c1 ga gb) = W9 at a0 a1 a2 a3 a4 a5 ⊢
          unfold mkV mom at a0 a1 a2 a3 a4
          dsimp only at a0 a1 a2 a3 a4
          clear HA HV HE6 HVS HQ HR6 HF
          go_simp
        · exact ⟨_, rfl, rfl, HV.out.1, HV.out.2.1, HV.out.2.2⟩

end Go.Proofs.Ythlfmbijagpggaa.Iv
