/-
  Package crush: the places of a choice, one behind the other.
  Conditions: the map lies in memory and may be; numbers of 32 bits.
-/
import Derived.Deep.DeepCutAuto
import Derived.Test.YthlfmbijagpggaaCrTop
import Derived.Test.YthlfmbijagpggaaCrFind
import Derived.Test.YthlfmbijagpggaaCrRep
import Derived.Test.YthlfmbijagpggaaByHk
namespace Go.Proofs.Ythlfmbijagpggaa.Cr
open Go.RowKit Go.Shelf By Fl At
open Sr (Wd Ws enW)
set_option linter.unusedVariables false
set_option linter.unusedSimpArgs false
set_option maxRecDepth 100000

theorem flat_setI : ∀ (l : List Int) (k : Nat) (z : Int), flat enI (l.set k z) = (flat enI l).set k (.int .i64 z)
  | [], k, z => by simp [flat]
  | a :: l, 0, z => by simp [flat, enI]
  | a :: l, k + 1, z => by
    rw [List.set_cons_succ, flat_cons, flat_cons, flat_setI l k z]
    simp [enI]
theorem own_setI {w : World} {B g n c : Nat} {l : List Int} (h : Own w B 3 1 enI (.slice (some ⟨g, 0, none⟩) n c) l) (k : Nat) (z : Int) : Own (w.setCell ⟨g, k, none⟩ (.int .i64 z)) B 3 1 enI (.slice (some ⟨g, 0, none⟩) n c) (l.set k z) := by
  have hn := h.heap.1
  unfold Own at h ⊢
  rw [flat_setI, List.length_set, hn]
  rw [hn] at h
  exact own_setCell h _ _

/- The first k places, and Holes behind them. -/
def lst (L : List Osd) (d want x k : Nat) : List Int := (chO L d want x k).map idP ++ List.replicate (want - k) (-1)

theorem lst_zero (L : List Osd) (d want x : Nat) : lst L d want x 0 = List.replicate want (-1) := by simp [lst, chO]
theorem lst_all (L : List Osd) (d want x : Nat) : lst L d want x want = chs L d want x := by simp [lst, chs]
theorem lst_none {L : List Osd} {d want x k : Nat} (hk : k < want) (h : fnd (fT L want x k) d (tk d (chO L d want x k)) 50 = none) : lst L d want x (k + 1) = lst L d want x k := by
  unfold lst
  simp only [chO, h, List.map_append, List.map_cons, List.map_nil, idP]
  rw [List.append_assoc, show want - k = (want - (k + 1)) + 1 by omega, List.replicate_succ]
  rfl
theorem lst_some {L : List Osd} {d want x k : Nat} {p : Pa} (hk : k < want) (h : fnd (fT L want x k) d (tk d (chO L d want x k)) 50 = some p) : lst L d want x (k + 1) = (lst L d want x k).set k p.id := by
  unfold lst
  have hl : ((chO L d want x k).map idP).length = k := by rw [List.length_map, chO_len]
  rw [List.set_append_right _ _ (by omega), hl, Nat.sub_self]
  simp only [chO, h, List.map_append, List.map_cons, List.map_nil, idP]
  rw [List.append_assoc, show want - k = (want - (k + 1)) + 1 by omega, List.replicate_succ]
  rfl
theorem tk_none {L : List Osd} {d want x k : Nat} (h : fnd (fT L want x k) d (tk d (chO L d want x k)) 50 = none) : tk d (chO L d want x (k + 1)) = tk d (chO L d want x k) := by
  simp only [chO]
  rw [tk_app, h]
  simp
theorem tk_some {L : List Osd} {d want x k : Nat} {p : Pa} (h : fnd (fT L want x k) d (tk d (chO L d want x k)) 50 = some p) : tk d (chO L d want x (k + 1)) = tk d (chO L d want x k) ++ [kP d p] := by
  simp only [chO]
  rw [tk_app, h]
theorem lst_full {L : List Osd} (h : NN L) {d want x k : Nat} (hk : k ≤ want) (hf : (tk d (chO L d want x k)).length = rm d L) : lst L d want x k = chs L d want x := by
  have := full_rest h hf (want - k)
  rw [show k + (want - k) = want by omega] at this
  unfold lst chs
  rw [this]
  simp [idP]
theorem lst_len (L : List Osd) (d want x : Nat) {k : Nat} (hk : k ≤ want) : (lst L d want x k).length = want := by
  unfold lst
  rw [List.length_append, List.length_map, chO_len, List.length_replicate]
  omega
theorem tk_len (L : List Osd) (d want x : Nat) : ∀ k, (tk d (chO L d want x k)).length ≤ k := fun k => by
  unfold tk
  have := List.length_filterMap_le (fun p => Option.map (kP d) p) (chO L d want x k)
  rw [chO_len] at this
  exact this

theorem fnd_perm {S L : List Osd} (h : S.Perm L) (want x k d : Nat) (T : List Int) (t : Nat) : fnd (fT S want x k) d T t = fnd (fT L want x k) d T t := by
  have : fT S want x k = fT L want x k := by
    funext t
    exact dsc_perm h x _
  rw [this]

theorem own_low {w : World} {B B' : Nat} {R : Value} {l : List Int} (h : Own w B 3 1 enI R l) (hb : B' ≤ B) : Own w B' 3 1 enI R l := by
  refine ⟨h.1, ?_⟩
  rcases h.2 with h0 | ⟨g, cap, cur, hv, h1, h2⟩
  · exact .inl h0
  · exact .inr ⟨g, cap, cur, hv, Nat.le_trans hb h1, h2⟩

/- Behind the tree and the room. -/
def Cu (w1 wc : World) (gb : Nat) (v : Bv) (L : List Osd) : Prop := Below w1.heap.size w1 wc ∧ wc.cell? ⟨gb, 0, none⟩ = some (.slice v.x v.n v.c) ∧ wc.cell? ⟨gb, 1, none⟩ = some (.slice v.y v.m v.d) ∧ ∃ S, S.Perm L ∧ BrAt wc (fun _ => True) 3 v S

/- How far the places are. -/
def Ci (wc wr : World) (L : List Osd) (d want y g k : Nat) (xt : Option Addr) (nt ct : Nat) : Prop :=
  Below wc.heap.size wc wr ∧ Own wr wc.heap.size 3 1 enI (.slice (some ⟨g, 0, none⟩) want want) (lst L d want y k) ∧ Own wr wc.heap.size 3 1 enI (.slice xt nt ct) (tk d (chO L d want y k)) ∧ (Value.slice xt nt ct).ownBlock ≠ some g

end Go.Proofs.Ythlfmbijagpggaa.Cr
