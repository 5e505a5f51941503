/-
  What is known while a branch grows: its two lists, and what is under each number.
  Conditions: none.
-/
import Derived.Test.YthiomhbehajldaaCrTog
import Derived.Test.YthiomhbehajldaaAtBox
namespace Go.Proofs.Ythiomhbehajldaa.Cr
open Go.RowKit By Fl At
open Sr (Wd Ws enW)
set_option linter.unusedVariables false
set_option linter.unusedSimpArgs false
set_option maxRecDepth 100000

def Fp (w : World) (RE RU : Value) (j : Nat) : Prop := w.heap.size + 2 ≤ j ∧ RE.ownBlock ≠ some j ∧ RU.ownBlock ≠ some j

structure Gw (w wr : World) (d : Nat) (A : List Osd) (W : List Wd) (RE RU : Value) (U : List Bv) : Prop where
  bel : Below w.heap.size w wr
  res : wr.heap[w.heap.size]? = some (.cells #[.slice none 0 0, .slice none 0 0] 54 (0, 0))
  loc : wr.heap[w.heap.size + 1]? = some (.cells #[RE, RU] 54 (0, 0))
  oe : Own wr (w.heap.size + 2) 63 2 enW RE W
  ou : Own wr (w.heap.size + 2) 54 2 enB RU U
  ul : U.length = (wg (d + 1) A).length
  subs : ∀ (k : Nat) (a : Wd) (u : Bv), (wg (d + 1) A)[k]? = some a → U[k]? = some u → BrAt wr (Fp w RE RU) d u (sub A (d + 1) a.id)

section
variable {w wr : World} {d : Nat} {A : List Osd} {W : List Wd} {RE RU : Value} {U : List Bv}

theorem Gw.lt (h : Gw w wr d A W RE RU U) : w.heap.size + 1 < wr.heap.size := (Array.getElem?_eq_some_iff.1 h.loc).1

theorem Gw.below {w' : World} (h : Gw w wr d A W RE RU U) (hb : Below wr.heap.size wr w') : Gw w w' d A W RE RU U := by
  have hl := h.lt
  exact ⟨on h.bel hb, (hb.block _ (by omega)).trans h.res, (hb.block _ hl).trans h.loc, h.oe.below hb, h.ou.below hb, h.ul, fun k a u ha hu => BrAt.below hb d u _ (h.subs k a u ha hu)⟩

theorem Gw.start (w : World) (d : Nat) : Gw w ((w.alloc (.cells #[.slice none 0 0, .slice none 0 0] 54)).alloc (.cells #[.slice none 0 0, .slice none 0 0] 54)) d [] (wg (d + 1) []) (.slice none 0 0) (.slice none 0 0) [] := by
  have s1 : (w.alloc (.cells #[.slice none 0 0, .slice none 0 0] 54)).heap.size = w.heap.size + 1 := by simp
  refine ⟨on (al _ _) (al _ _), ?_, ?_, Own.nil _ _ _ _ _, Own.nil _ _ _ _ _, rfl, fun k a u ha hu => by simp at hu⟩
  · exact ((al (w.alloc _) _).block _ (by omega)).trans (heap_alloc_new w _)
  · have := heap_alloc_new (w.alloc (.cells #[.slice none 0 0, .slice none 0 0] 54)) (.cells #[.slice none 0 0, .slice none 0 0] 54)
    rw [s1] at this
    exact this

theorem Gw.ee (h : Gw w wr d A W RE RU U) {j : Nat} (e : RE.ownBlock = some j) : RU.ownBlock ≠ some j := fun e2 => by
  have := (h.oe.tb e).2.same (h.ou.tb e2).2
  revert this
  decide

theorem Gw.pushE (h : Gw w wr d A W RE RU U) (k z : Int) (hW : W.length ≤ 1000) :
    ∃ x' c' w3, (Builtin.append_ #[51, 51] 51 #[RE, .slice (some ⟨wr.heap.size, 0, none⟩) 1 1]).run Try.prog (wr.alloc (.cells #[.int .i64 k, .int .i64 z] 63)) = .ok (.slice x' (W.length + 1) c') w3 ∧
      w3.cell? ⟨w.heap.size + 1, 0, none⟩ = some RE ∧ w3.frozen? ⟨w.heap.size + 1, 0, none⟩ = false ∧ Below w.heap.size w w3 ∧ Below wr.heap.size wr (wr.alloc (.cells #[.int .i64 k, .int .i64 z] 63)) ∧
      Hid (Gw w (w3.setCell ⟨w.heap.size + 1, 0, none⟩ (.slice x' (W.length + 1) c')) d A (W ++ [⟨k, z⟩]) (.slice x' (W.length + 1) c') RU U) := by
  have b1 := al wr (.cells #[.int .i64 k, .int .i64 z] 63)
  have h2 := h.below b1
  have hl := h2.lt
  obtain ⟨x', c', w3, hap, HO⟩ := h2.oe.push Sr.wrow (by omega) ⟨wr.heap.size, 0, none⟩ 1 1 [⟨k, z⟩] rfl (fun j u hj => by
    rw [add_at, Nat.zero_add]
    rw [flat_one] at hj
    match j, hj with
    | 0, hj => simpa [enW] using hj
    | 1, hj => simpa [enW] using hj
    | j + 2, hj => simp [enW] at hj) (by omega)
  obtain ⟨o3, t3, n3⟩ := HO.out
  generalize wr.alloc (.cells #[.int .i64 k, .int .i64 z] 63) = V at *
  have ne1 : ¬ RE.ownBlock = some (w.heap.size + 1) := fun e => by have := (h2.oe.tb e).1; omega
  have ne0 : ¬ RE.ownBlock = some w.heap.size := fun e => by have := (h2.oe.tb e).1; omega
  have l3 := (t3.block _ hl ne1).trans h2.loc
  have r3 := (t3.block _ (by omega) ne0).trans h2.res
  have t4 : Turns (fun j => j = w.heap.size + 1) w3 (w3.setCell ⟨w.heap.size + 1, 0, none⟩ (.slice x' (W.length + 1) c')) := turns_put (Turns.refl _ w3) 0 _
  have T : Turns (fun j => RE.ownBlock = some j ∨ j = w.heap.size + 1) V (w3.setCell ⟨w.heap.size + 1, 0, none⟩ (.slice x' (W.length + 1) c')) := (t3.weak fun j e => .inl e).trans (t4.weak fun j e => .inr e)
  have b3 : Below w.heap.size w w3 := h2.bel.trans (t3.below (fun j e => by have := (h2.oe.tb e).1; omega) (by omega))
  refine ⟨x', c', w3, hap, cell_heap l3 rfl, fr_heap l3 0, b3, b1, ?_, ?_, ?_, ?_, ?_, h.ul, fun i a u ha hu => ?_⟩
  · exact b3.trans (t4.below (fun j e => by omega) (by have := t3.size; omega))
  · exact (t4.block _ (by have := t3.size; omega) (by omega)).trans r3
  · exact heap_set l3 _
  · exact o3.turns t4 (fun g hg e => by have := (o3.tb hg).1; omega)
  · exact h2.ou.turns T (fun g hg e => by
      rcases e with e | e
      · exact h2.ee e hg
      · have := (h2.ou.tb hg).1; omega)
  · have q := BrAt.mono (F' := fun j => Fp w RE RU j ∧ j < V.heap.size) (fun j h1 h3 => ⟨h1, h3⟩) d u _ (h2.subs i a u ha hu)
    have q2 := BrAt.turns T (fun j hj e => by
      rcases e with e | e
      · exact hj.1.2.1 e
      · have := hj.1.1; omega) d u _ q
    refine BrAt.mono (fun j hj _ => ⟨hj.1.1, fun e => ?_, hj.1.2.2⟩) d u _ q2
    rcases n3 j e with e2 | e2
    · exact hj.1.2.1 e2
    · have := hj.2; omega

theorem sub_app (A G : List Osd) (d : Nat) (k : Int) : sub (A ++ G) d k = sub A d k ++ sub G d k := by simp [sub]
theorem sub_all {G : List Osd} {d : Nat} {k : Int} (h : ∀ o ∈ G, kO d o = k) : sub G d k = G := by
  unfold sub
  rw [List.filter_eq_self]
  intro o ho
  simp [h o ho]
theorem sub_no {G : List Osd} {d : Nat} {k : Int} (h : ∀ o ∈ G, kO d o ≠ k) : sub G d k = [] := by
  unfold sub
  rw [List.filter_eq_nil_iff]
  intro o ho
  simp [h o ho]

theorem Gw.pushU (h : Gw w wr d A W RE RU U) (v : Bv) (G : List Osd) (V0 : Nat) (k : Int) (hv : BrAt wr (fun j => V0 ≤ j) d v G) (h0 : w.heap.size + 2 ≤ V0) (h1 : ∀ j, RE.ownBlock = some j → j < V0) (h2' : ∀ j, RU.ownBlock = some j → j < V0)
    (hA : ∀ o ∈ A, kO (d + 1) o < k) (hG : ∀ o ∈ G, kO (d + 1) o = k) (hne : G ≠ []) (hU : U.length ≤ 1000) :
    ∃ x' c' w3, (Builtin.append_ #[52, 52] 52 #[RU, .slice (some ⟨wr.heap.size, 0, none⟩) 1 1]).run Try.prog (wr.alloc (.cells #[.slice v.x v.n v.c, .slice v.y v.m v.d] 54)) = .ok (.slice x' (U.length + 1) c') w3 ∧
      w3.cell? ⟨w.heap.size + 1, 1, none⟩ = some RU ∧ w3.frozen? ⟨w.heap.size + 1, 1, none⟩ = false ∧ Below w.heap.size w w3 ∧ Below wr.heap.size wr (wr.alloc (.cells #[.slice v.x v.n v.c, .slice v.y v.m v.d] 54)) ∧
      Hid (Gw w (w3.setCell ⟨w.heap.size + 1, 1, none⟩ (.slice x' (U.length + 1) c')) d (A ++ G) W RE (.slice x' (U.length + 1) c') (U ++ [v])) := by
  have b1 := al wr (.cells #[.slice v.x v.n v.c, .slice v.y v.m v.d] 54)
  have h2 := h.below b1
  have hl := h2.lt
  have hv2 := BrAt.below b1 d v G hv
  obtain ⟨x', c', w3, hap, HO⟩ := h2.ou.push brow (by omega) ⟨wr.heap.size, 0, none⟩ 1 1 [v] rfl (fun j u hj => by
    rw [add_at, Nat.zero_add]
    rw [flat_one] at hj
    match j, hj with
    | 0, hj => simpa [enB] using hj
    | 1, hj => simpa [enB] using hj
    | j + 2, hj => simp [enB] at hj) (by omega)
  obtain ⟨o3, t3, n3⟩ := HO.out
  generalize wr.alloc (.cells #[.slice v.x v.n v.c, .slice v.y v.m v.d] 54) = V at *
  have ne1 : ¬ RU.ownBlock = some (w.heap.size + 1) := fun e => by have := (h2.ou.tb e).1; omega
  have ne0 : ¬ RU.ownBlock = some w.heap.size := fun e => by have := (h2.ou.tb e).1; omega
  have l3 := (t3.block _ hl ne1).trans h2.loc
  have r3 := (t3.block _ (by omega) ne0).trans h2.res
  have t4 : Turns (fun j => j = w.heap.size + 1) w3 (w3.setCell ⟨w.heap.size + 1, 1, none⟩ (.slice x' (U.length + 1) c')) := turns_put (Turns.refl _ w3) 1 _
  have T : Turns (fun j => RU.ownBlock = some j ∨ j = w.heap.size + 1) V (w3.setCell ⟨w.heap.size + 1, 1, none⟩ (.slice x' (U.length + 1) c')) := (t3.weak fun j e => .inl e).trans (t4.weak fun j e => .inr e)
  have b3 : Below w.heap.size w w3 := h2.bel.trans (t3.below (fun j e => by have := (h2.ou.tb e).1; omega) (by omega))
  have hg := wg_group hA hG hne
  have move : ∀ (u : Bv) (K : List Osd), BrAt V (Fp w RE RU) d u K → BrAt (w3.setCell ⟨w.heap.size + 1, 1, none⟩ (.slice x' (U.length + 1) c')) (Fp w RE (.slice x' (U.length + 1) c')) d u K := fun u K q0 => by
    have q := BrAt.mono (F' := fun j => Fp w RE RU j ∧ j < V.heap.size) (fun j h1 h3 => ⟨h1, h3⟩) d u _ q0
    have q2 := BrAt.turns T (fun j hj e => by
      rcases e with e | e
      · exact hj.1.2.2 e
      · have := hj.1.1; omega) d u _ q
    refine BrAt.mono (fun j hj _ => ⟨hj.1.1, hj.1.2.1, fun e => ?_⟩) d u _ q2
    rcases n3 j e with e2 | e2
    · exact hj.1.2.2 e2
    · have := hj.2; omega
  refine ⟨x', c', w3, hap, cell_heap l3 rfl, fr_heap l3 1, b3, b1, ?_, ?_, ?_, ?_, ?_, ?_, fun i a u ha hu => ?_⟩
  · exact b3.trans (t4.below (fun j e => by omega) (by have := t3.size; omega))
  · exact (t4.block _ (by have := t3.size; omega) (by omega)).trans r3
  · exact heap_set l3 _
  · exact h2.oe.turns T (fun g hg e => by
      rcases e with e | e
      · exact h2.ee hg e
      · have := (h2.oe.tb hg).1; omega)
  · have := o3.turns t4 (fun g hg e => by have := (o3.tb hg).1; omega)
    exact this
  · rw [hg, List.length_append, List.length_append, h.ul]
    rfl
  · rw [hg] at ha
    by_cases hi : i < U.length
    · rw [List.getElem?_append_left (by rw [← h.ul]; exact hi)] at ha
      rw [List.getElem?_append_left hi] at hu
      have hak : a.id ≠ k := fun e => by
        obtain ⟨o, ho, e2⟩ := (wg_has (d + 1) a.id A).1 ⟨a, List.mem_of_getElem? ha, rfl⟩
        have := hA o ho
        omega
      rw [sub_app, sub_no (G := G) (fun o ho e => hak (by rw [← e, hG o ho])), List.append_nil]
      exact move u _ (h2.subs i a u ha hu)
    · have hi2 : i = U.length := by
        have := (List.getElem?_eq_some_iff.1 hu).1
        simp at this
        omega
      subst hi2
      rw [List.getElem?_append_right (Nat.le_refl _)] at hu
      rw [h.ul, List.getElem?_append_right (Nat.le_refl _)] at ha
      simp at ha hu
      subst ha hu
      rw [sub_app, sub_all hG, sub_no (G := A) (fun o ho e => by have := hA o ho; simp at e; omega), List.nil_append]
      refine move v _ (BrAt.mono (fun j hj _ => ⟨by omega, fun e => ?_, fun e => ?_⟩) d v _ hv2)
      · have := h1 j e; omega
      · have := h2' j e; omega

/- The end: the branch is handed back. -/
theorem Gw.done {xe xu : Option Addr} {ne ce nu cu : Nat} {S : List Osd} (h : Gw w wr d S (wg (d + 1) S) (.slice xe ne ce) (.slice xu nu cu) U) (hS : (wg (d + 1) S).length ≤ 1000) :
    Below w.heap.size w ((wr.setCell ⟨w.heap.size, 0, none⟩ (.slice xe ne ce)).setCell ⟨w.heap.size, 1, none⟩ (.slice xu nu cu)) ∧ BrAt ((wr.setCell ⟨w.heap.size, 0, none⟩ (.slice xe ne ce)).setCell ⟨w.heap.size, 1, none⟩ (.slice xu nu cu)) (fun j => w.heap.size ≤ j) (d + 1) ⟨xe, ne, ce, xu, nu, cu⟩ S := by
  have hl := h.lt
  have t4 : Turns (fun j => j = w.heap.size) wr ((wr.setCell ⟨w.heap.size, 0, none⟩ (.slice xe ne ce)).setCell ⟨w.heap.size, 1, none⟩ (.slice xu nu cu)) := turns_put (turns_put (Turns.refl _ wr) 0 _) 1 _
  refine ⟨h.bel.trans (t4.below (fun j e => by omega) (by omega)), ?_⟩
  have hw := Sr.own_ws h.oe (by omega)
  have hb := own_bs h.ou
  have i1 : Inn (fun j => w.heap.size + 2 ≤ j) xe ne := fun hn a ha => by
    subst ha
    have hf := h.oe.form
    obtain ⟨x', c', e, _, _, h3⟩ := hf
    injection e with e1 e2 e3
    obtain ⟨g, rfl, hB, _⟩ := h3 a e1.symm
    exact hB
  have i2 : Inn (fun j => w.heap.size + 2 ≤ j) xu nu := fun hn a ha => by
    subst ha
    have hf := h.ou.form
    obtain ⟨x', c', e, _, _, h3⟩ := hf
    injection e with e1 e2 e3
    obtain ⟨g, rfl, hB, _⟩ := h3 a e1.symm
    exact hB
  exact ⟨ws_turns hw t4 (fun hn a ha e => by have : w.heap.size + 2 ≤ a.block := i1 hn a ha; omega), fun hn a ha => by have : w.heap.size + 2 ≤ a.block := i1 hn a ha; show w.heap.size ≤ a.block; omega, U, hb.turns t4 (fun hn a ha e => by have : w.heap.size + 2 ≤ a.block := i2 hn a ha; omega), fun hn a ha => by have : w.heap.size + 2 ≤ a.block := i2 hn a ha; show w.heap.size ≤ a.block; omega, h.ul, fun k a u ha hu => BrAt.mono (fun j hj _ => by have := hj.1; omega) d u _ (BrAt.turns t4 (fun j hj e => by have := hj.1; omega) d u _ (h.subs k a u ha hu))⟩

end

end Go.Proofs.Ythiomhbehajldaa.Cr
