/-
  8 texts of this proof, one behind the other: AtIns, AtAdd, AtKinds, AtChange, AtCheck, AtAdv, AtFacts, AtApply.
-/
import Derived.Test.YthlfmbijagpggaaGreatByHk
import Derived.Test.YthlfmbijagpggaaGreatJAtTurn
import Derived.Lib.Overlaps
import Derived.Lib.AppendZerosOnto
import Derived.Laws.NewBlocks
import Derived.Test.YthlfmbijagpggaaGreatJAtPlain
import Derived.Laws.EntriesVeiled
import Derived.Test.YthlfmbijagpggaaGreatJAtSmall
import Derived.Test.YthlfmbijagpggaaGreatAtMay
/-
  slices.Insert of one OSD into a list of one's own.
  Conditions: the list is one's own, and short.
-/
namespace Go.Proofs.YthlfmbijagpggaaGreat.At
open Go.RowKit By Fl
set_option linter.unusedVariables false
set_option linter.unusedSimpArgs false
set_option maxRecDepth 100000

theorem run_copy_sz {P : Program} (w : World) (dT sT ty elem : TypeId) (sz g o dLen dCap : Nat) (a : Addr) (sLen sCap k : Nat) (cur : Array Value) (t : TypeId) (cs : List Value)
    (hu : P.underlying dT = some (.slice elem)) (hs : (P.info? elem).map (·.size) = some sz)
    (hg : w.heap[g]? = some (.cells cur t (0, 0))) (hk : Nat.min sLen dLen = k) (hn : cs.length = k * sz)
    (hsrc : ∀ j v, cs[j]? = some v → w.cell? (a.add j) = some v) (hfit : o + cs.length ≤ cur.size) (h1 : ∀ v ∈ cs, v.oneCell' = true) :
    (Builtin.copy_ #[dT, sT] ty #[.slice (some ⟨g, o, none⟩) dLen dCap, .slice (some a) sLen sCap]).run P w =
      .ok (goInt k) (w.setRow g (cur.toList.take o ++ cs ++ cur.toList.drop (o + cs.length)).toArray) := by
  have hl := run_loadCells_list (P := P) w a cs hsrc
  have hst := run_storeCells_at P g o t cs 0 cur w hg (by simpa using hfit) h1
  cases hq : P.info? elem with
  | none => simp [hq] at hs
  | some i =>
    have hi : i.size = sz := by simpa [hq] using hs
    have hk' : min sLen dLen = k := hk
    simp [Builtin.copy_, run_underlying hu, Builtin.lenOf, Builtin.firstCells, sizeOf, typeInfo, hq, hi, hk', ← hn, hl, hst]

theorem wpList_copy_at {P : Program} (w : World) {ops : Array Oper} {rest : List Oper} {o : Oper} {a : Act} {Q : Exit → Act → World → Prop} (hgd : o.guard = none) (d s : Operand) (t t' : TypeId)
    (ho : o.op = .call { callee := .builtin .copy, args := #[d, s], argTypes := #[t, t'] }) (v u : Value) (hd : a.eval d = v) (hs : a.eval s = u) {v' : Value} {w' : World}
    (hr : (Builtin.copy_ #[t, t'] o.type #[v, u]).run P w = .ok v' w') (h : wpList P ops Q rest (a.put o.dst v') w') : wpList P ops Q (o :: rest) a w :=
  wpList_plain hgd fun _ hK => by
    unfold Oper.wp execOp
    simp only [ho, resolve, invoke, builtin, Sem.run_bind, Sem.run_pure, Result.andThen_ok, List.map_toArray, List.map_cons, List.map_nil, hd, hs, hr]
    exact hK _ _ h

/- A copy that comes up alone in a region that draws its order. -/
theorem st_copy {P : Program} {w w' : World} {ops : Array Oper} {o : Oper} {a : Act} {K : Act → World → Prop} {Q : Exit → Act → World → Prop} {v' : Value} (hg : Region.wanted o (yielded ops a.tmps) = true) (s x : Operand) (t : TypeId)
    (ho : o.op = .call { callee := .builtin .copy, args := #[s, x], argTypes := #[t, t] }) (v1 v2 : Value) (hs : a.eval s = v1) (hx : a.eval x = v2) (hr : (Builtin.copy_ #[t, t] o.type #[v1, v2]).run P w = .ok v' w')
    (h : K (a.put o.dst v') w') : if Region.wanted o (yielded ops a.tmps) = true then Oper.wp P o a w K Q else K (a.put o.dst undef) w := by
  rw [if_pos hg]
  unfold Oper.wp execOp
  simp only [ho, resolve, invoke, builtin, Sem.run_bind, Sem.run_pure, Result.andThen_ok, List.map_toArray, List.map_cons, List.map_nil, hs, hx, hr]
  exact h

theorem osz : (Tryz.prog.info? 53).map (·.size) = some 8 := by kernel_rfl

def spl (cur : List Value) (o : Nat) (cs : List Value) : List Value := cur.take o ++ cs ++ cur.drop (o + cs.length)

theorem spl_len (cur : List Value) (o : Nat) (cs : List Value) (h : o + cs.length ≤ cur.length) : (spl cur o cs).length = cur.length := by
  simp [spl]
  omega

theorem spl_take (cur : List Value) (o : Nat) (cs : List Value) (h : o + cs.length ≤ cur.length) : (spl cur o cs).take (o + cs.length) = cur.take o ++ cs := by
  unfold spl
  rw [List.take_left' (by simp; omega)]

theorem spl_drop (cur : List Value) (o : Nat) (cs : List Value) (h : o + cs.length ≤ cur.length) (k : Nat) (hk : k = o) : (spl cur o cs).drop k = cs ++ cur.drop (o + cs.length) := by
  subst hk
  unfold spl
  rw [List.append_assoc, List.drop_left' (by simp; omega)]

theorem spl_low (cur : List Value) (o : Nat) (cs : List Value) (h : o + cs.length ≤ cur.length) (k : Nat) (hk : k ≤ o) : (spl cur o cs).take k = cur.take k := by
  unfold spl
  rw [List.append_assoc, List.take_append_of_le_length (by simp; omega), List.take_take, Nat.min_eq_left hk]

/- Up by one, then one more: room. -/
theorem ins_room (cur : List Value) (L : List Osd) (o : Osd) (i n : Nat) (hL : L.length = n) (hi : i < n) (hc : (n + 1) * 8 ≤ cur.length) (ht : cur.take (n * 8) = flat enO L) :
    (spl (spl cur ((i + 1) * 8) (flat enO (L.drop i))) (i * 8) (enO o)).take ((n + 1) * 8) = flat enO (L.take i ++ o :: L.drop i) := by
  have hD : (flat enO (L.drop i)).length = (n - i) * 8 := by rw [flat_len orow.len, List.length_drop, hL]
  have hE : (enO o).length = 8 := rfl
  have e1 : (spl cur ((i + 1) * 8) (flat enO (L.drop i))).length = cur.length := spl_len _ _ _ (by omega)
  have e2 : (spl cur ((i + 1) * 8) (flat enO (L.drop i))).take (i * 8) = flat enO (L.take i) := by
    rw [spl_low _ _ _ (by omega) _ (by omega), ← flat_take orow.len, ← ht, List.take_take, Nat.min_eq_left (by omega)]
  have e3 := spl_drop cur ((i + 1) * 8) (flat enO (L.drop i)) (by omega) (i * 8 + 8) (by omega)
  rw [show spl (spl cur ((i + 1) * 8) (flat enO (L.drop i))) (i * 8) (enO o) = (spl cur ((i + 1) * 8) (flat enO (L.drop i))).take (i * 8) ++ enO o ++ (spl cur ((i + 1) * 8) (flat enO (L.drop i))).drop (i * 8 + 8) from rfl, e2, e3, ← List.append_assoc, List.take_left' (by
    simp only [List.length_append, hD, hE, flat_len orow.len, List.length_take, hL]
    omega), flat_app, flat_cons, List.append_assoc]

/- One more, then the rest: a new row. -/
theorem ins_new (cur : List Value) (L : List Osd) (o : Osd) (i n : Nat) (hL : L.length = n) (hi : i < n) (hc : (n + 1) * 8 ≤ cur.length) (ht : cur.take (i * 8) = flat enO (L.take i)) :
    (spl (spl cur (i * 8) (enO o)) ((i + 1) * 8) (flat enO (L.drop i))).take ((n + 1) * 8) = flat enO (L.take i ++ o :: L.drop i) := by
  have hD : (flat enO (L.drop i)).length = (n - i) * 8 := by rw [flat_len orow.len, List.length_drop, hL]
  have hE : (enO o).length = 8 := rfl
  have e1 : (spl cur (i * 8) (enO o)).length = cur.length := spl_len _ _ _ (by omega)
  have e2 := spl_take cur (i * 8) (enO o) (by omega)
  rw [hE, ht, show i * 8 + 8 = (i + 1) * 8 by omega] at e2
  have e3 := spl_take (spl cur (i * 8) (enO o)) ((i + 1) * 8) (flat enO (L.drop i)) (by omega)
  rw [hD, e2, show (i + 1) * 8 + (n - i) * 8 = (n + 1) * 8 by omega] at e3
  rw [e3, flat_app, flat_cons, List.append_assoc]

/- What is handed over: one OSD in a block of its own. -/
theorem OBox.src {w : World} {a : Nat} {o : Osd} (h : OBox w a o) (j : Nat) (v : Value) (hv : (enO o)[j]? = some v) : w.cell? ((⟨a, 0, none⟩ : Addr).add j) = some v := by
  rw [add_at, Nat.zero_add]
  exact cell_heap h (by simpa [enO] using hv)

def Inserted (w w' : World) (B : Nat) (R R' : Value) (L : List Osd) : Prop := Own w' B 53 8 enO R' L ∧ Turns (fun k => R.ownBlock = some k) w w' ∧ ∀ g, R'.ownBlock = some g → R.ownBlock = some g ∨ w.heap.size ≤ g

theorem zc_size (z : Array Value) (n : Nat) : (Builtin.zeroCells z n).size = n * z.size := by simp [Builtin.zeroCells]

end Go.Proofs.YthlfmbijagpggaaGreat.At

/-
  Package atlas: add.
  Conditions: the map is one's own.
-/
namespace Go.Proofs.YthlfmbijagpggaaGreat.At
open Go.RowKit By Fl
set_option linter.unusedVariables false
set_option linter.unusedSimpArgs false
set_option maxRecDepth 100000

def inAt (o : Osd) (L : List Osd) : Nat := match L.findIdx? (overId o.id) with | some k => k | none => L.length

theorem ins_at (o : Osd) (L : List Osd) : ins o L = L.take (inAt o L) ++ o :: L.drop (inAt o L) := by
  unfold ins inAt
  cases h : L.findIdx? (overId o.id) with
  | none => simp
  | some k => rfl

theorem inAt_le (o : Osd) (L : List Osd) : inAt o L ≤ L.length := by
  unfold inAt
  cases h : L.findIdx? (overId o.id) with
  | none => exact Nat.le_refl _
  | some k =>
    obtain ⟨a, ha, _⟩ := idx_some h
    exact Nat.le_of_lt (List.getElem?_eq_some_iff.1 ha).1

theorem idx_inAt (o : Osd) (L : List Osd) : idx (overId o.id) L = (inAt o L : Int) ∨ (idx (overId o.id) L = -1 ∧ inAt o L = L.length) := by
  unfold idx inAt
  cases h : L.findIdx? (overId o.id) with
  | none => exact .inr ⟨rfl, rfl⟩
  | some k => exact .inl rfl

theorem added {w w4 w5 : World} {B p n c c' at_ : Nat} {x x' : Option Addr} {m : Mp} {o : Osd} {L : List Osd} (h : MapAt w B p m (.slice x n c)) (b4 : Below w.heap.size w w4) (H5 : Inserted w4 w5 B (.slice x n c) (.slice x' (n + 1) c') (m.osds.take at_ ++ o :: m.osds.drop at_))
    (hp5 : w5.heap[p]? = some (.cells #[.int .i64 m.ep, .int .i64 m.pool.k, .int .i64 m.pool.m, .int .i64 m.pool.pgs, .int .i64 m.pool.dom, .slice x n c] 49 (0, 0))) (hn : n < 64) (hL : L = m.osds.take at_ ++ o :: m.osds.drop at_) (hl : n = m.osds.length) :
    Turned w (w5.setCell ⟨p, 5, none⟩ (.slice x' (n + 1) c')) B p m (.slice x n c) L := by
  obtain ⟨h1, h2, h3⟩ := H5
  subst hL
  have hpl := h.lt
  have hne : ∀ g, (Value.slice x' (n + 1) c').ownBlock = some g → g ≠ p := fun g hg e => by
    rcases h3 g hg with q | q
    · exact h.apart q e
    · have := b4.size; omega
  refine ⟨.slice x' (n + 1) c', ⟨heap_set hp5 _, h1.turns (turns_put (Turns.refl _ _) _ _) hne, ?_⟩, ?_, fun g hg => (h3 g hg).imp (fun h => h) (fun h => by have := b4.size; omega)⟩
  · show (m.osds.take at_ ++ o :: m.osds.drop at_).length ≤ 64
    have := List.length_take_le at_ m.osds
    simp
    omega
  · exact (((Turns.of_below b4).trans h2).weak (fun k hk => .inr hk)).setCell (p := ⟨p, 5, none⟩) (.inl (.inl rfl)) _

end Go.Proofs.YthlfmbijagpggaaGreat.At

/-
  Package atlas: the table of kinds.
  Conditions: none.
-/
namespace Go.Proofs.YthlfmbijagpggaaGreat.At
open Go.RowKit By Fl
set_option linter.unusedVariables false
set_option linter.unusedSimpArgs false
set_option maxRecDepth 100000

end Go.Proofs.YthlfmbijagpggaaGreat.At

/-
  Package atlas: which changes may be.
  Conditions: none.
-/
namespace Go.Proofs.YthlfmbijagpggaaGreat.At
open Go.RowKit By Fl
set_option linter.unusedVariables false
set_option linter.unusedSimpArgs false
set_option maxRecDepth 100000

theorem wi_z (b : Int) (h : 0 ≤ b) : wi 0 0 b = true := (wi_iff _ _ _).2 ⟨by omega, h⟩

end Go.Proofs.YthlfmbijagpggaaGreat.At

/-
  Package atlas: CheckChange.
  Conditions: none.
-/
namespace Go.Proofs.YthlfmbijagpggaaGreat.At
open Go.RowKit By Fl
set_option linter.unusedVariables false
set_option linter.unusedSimpArgs false
set_option maxRecDepth 100000

theorem kind_cases {k : Int} (h : wi k 1 6 = true) : k = 1 ∨ k = 2 ∨ k = 3 ∨ k = 4 ∨ k = 5 ∨ k = 6 := by
  rw [wi_iff] at h
  omega

end Go.Proofs.YthlfmbijagpggaaGreat.At

/-
  Package atlas: advance.
  Conditions: the map is one's own, its epoch is one that may be.
-/
namespace Go.Proofs.YthlfmbijagpggaaGreat.At
open Go.RowKit By Fl
set_option linter.unusedVariables false
set_option linter.unusedSimpArgs false
set_option maxRecDepth 100000

def Moved (w w' : World) (B p : Nat) (R : Value) (m : Mp) : Prop := ∃ R', MapAt w' B p m R' ∧ Turns (fun k => k = p ∨ R.ownBlock = some k) w w' ∧ ∀ g, R'.ownBlock = some g → R.ownBlock = some g ∨ w.heap.size ≤ g

theorem Moved.not {w w' : World} {B p : Nat} {m : Mp} {R : Value} (h : MapAt w B p m R) (b : Below w.heap.size w w') : Moved w w' B p R m := ⟨R, h.below b, Turns.of_below b, fun g hg => .inl hg⟩

theorem Turned.from {w w1 w' : World} {B p : Nat} {m : Mp} {R : Value} {L : List Osd} (b : Below w.heap.size w w1) (h : Turned w1 w' B p m R L) : Moved w w' B p R ⟨m.ep, m.pool, L⟩ := by
  obtain ⟨R', h1, h2, h3⟩ := h
  exact ⟨R', h1, (Turns.of_below b).trans h2, fun g hg => (h3 g hg).imp (fun h => h) (fun h => Nat.le_trans b.size h)⟩

theorem Moved.up {w w' : World} {B p : Nat} {m : Mp} {R : Value} (h : Moved w w' B p R m) (e : Int) : Moved w (w'.setCell ⟨p, 0, none⟩ (.int .i64 e)) B p R ⟨e, m.pool, m.osds⟩ := by
  obtain ⟨R', h1, h2, h3⟩ := h
  exact ⟨R', ⟨heap_set h1.blk _, h1.own.turns (turns_put (Turns.refl _ _) _ _) (fun g hg => h1.apart hg), h1.small⟩, h2.setCell (p := ⟨p, 0, none⟩) (.inl (.inl rfl)) _, h3⟩

theorem advP_no {m : Mp} {c : Ch} (h : mayC c = false ∨ m.ep = 1048576) : advP m c = (1, m) := by unfold advP; rw [if_pos h]
theorem advP_err {m : Mp} {c : Ch} {r : Int × List Osd} (h : mayC c = true) (h2 : m.ep ≠ 1048576) (hr : doP c.kind m.osds c.osd = r) (h3 : r.1 ≠ 0) : advP m c = (r.1, m) := by unfold advP; rw [if_neg (by simp [h, h2]), hr, if_neg h3]
theorem advP_ok {m : Mp} {c : Ch} {r : Int × List Osd} (h : mayC c = true) (h2 : m.ep ≠ 1048576) (hr : doP c.kind m.osds c.osd = r) (h3 : r.1 = 0) : advP m c = (0, ⟨m.ep + 1, m.pool, r.2⟩) := by unfold advP; rw [if_neg (by simp [h, h2]), hr, if_pos h3]

theorem turnP_err {L : List Osd} {id : Int} {f : Osd → Osd} (h : (turnP L id f).1 ≠ 0) : (turnP L id f).2 = L := by
  unfold turnP at *
  split
  · rfl
  · split
    · rfl
    · split
      · rfl
      · rename_i k hk _ x hx hn
        simp [hk, hx, hn] at h

theorem addP_err {L : List Osd} {o : Osd} (h : (addP L o).1 ≠ 0) : (addP L o).2 = L := by
  unfold addP at *
  split
  · rfl
  · split
    · rfl
    · split
      · rfl
      · rename_i h1 h2 h3
        simp [h1, h2, h3] at h

end Go.Proofs.YthlfmbijagpggaaGreat.At

/-
  A map that may be is followed by one that may be.
  Conditions: none.
-/
namespace Go.Proofs.YthlfmbijagpggaaGreat.At
open Go.RowKit By Fl
set_option linter.unusedVariables false
set_option linter.unusedSimpArgs false
set_option maxRecDepth 100000

theorem good_pw (L : List Osd) : Good L ↔ (∀ a ∈ L, osdB a = true) ∧ L.Pairwise (fun b a => lowB a b = true) := by
  rw [List.pairwise_iff_getElem]
  constructor
  · intro h
    refine ⟨fun a ha => ?_, fun i j hi hj hij => ?_⟩
    · obtain ⟨k, hk⟩ := List.mem_iff_getElem?.1 ha
      exact (h k a hk).1
    · exact (h j L[j] (List.getElem?_eq_getElem hj)).2 i L[i] hij (List.getElem?_eq_getElem hi)
  · rintro ⟨h1, h2⟩ i a hi
    obtain ⟨hl, e⟩ := List.getElem?_eq_some_iff.1 hi
    refine ⟨h1 a (List.mem_of_getElem? hi), fun k b hk hb => ?_⟩
    obtain ⟨hl2, e2⟩ := List.getElem?_eq_some_iff.1 hb
    have := h2 k i hl2 hl hk
    rw [e, e2] at this
    exact this

theorem good_ins {L : List Osd} {o : Osd} (h : Good L) (ho : osdB o = true) (hno : L.findIdx? (isId o.id) = none) : goodB (ins o L) = !movedB L o := by
  have hne : ∀ a ∈ L, a.id ≠ o.id := fun a ha e => by
    obtain ⟨k, hk⟩ := List.mem_iff_getElem?.1 ha
    have := idx_none hno k a hk
    unfold isId at this
    simp [e] at this
  rw [ins_at]
  have hlow : ∀ a ∈ L.take (inAt o L), a.id < o.id := fun a ha => by
    obtain ⟨k, hk⟩ := List.mem_iff_getElem?.1 ha
    rw [List.getElem?_take] at hk
    split at hk
    · rename_i hki
      have hov : overId o.id a = false := by
        unfold inAt at hki
        cases hq : L.findIdx? (overId o.id) with
        | none => exact idx_none hq k a hk
        | some q =>
          rw [hq] at hki
          obtain ⟨_, _, _, h4⟩ := idx_some hq
          exact h4 k a hki hk
      unfold overId at hov
      simp at hov
      have := hne a (List.mem_of_getElem? hk)
      omega
    · cases hk
  have hhigh : ∀ b ∈ L.drop (inAt o L), o.id < b.id := fun b hb => by
    obtain ⟨k, hk⟩ := List.mem_iff_getElem?.1 hb
    rw [List.getElem?_drop] at hk
    unfold inAt at hk
    cases hq : L.findIdx? (overId o.id) with
    | none =>
      rw [hq] at hk
      have := (List.getElem?_eq_some_iff.1 hk).1
      simp only [] at this
      omega
    | some q =>
      rw [hq] at hk
      obtain ⟨a, ha, h3, _⟩ := idx_some hq
      unfold overId at h3
      simp at h3
      by_cases hk0 : k = 0
      · subst hk0
        have := Option.some.inj (ha.symm.trans hk)
        subst this
        exact h3
      · have := ((lowB_iff _ _).1 ((h (q + k) b hk).2 q a (by omega) ha)).1
        omega
  have hmem : ∀ a, a ∈ L.take (inAt o L) ∨ a ∈ L.drop (inAt o L) ↔ a ∈ L := fun a => by
    rw [← List.mem_append, List.take_append_drop]
  obtain ⟨h1, h2⟩ := (good_pw L).1 h
  cases hmv : movedB L o with
  | true =>
    obtain ⟨x, hx, e1, e2⟩ := (moved_iff L o).1 hmv
    show goodB _ = false
    cases hg : goodB (L.take (inAt o L) ++ o :: L.drop (inAt o L)) with
    | false => rfl
    | true =>
      obtain ⟨_, g2⟩ := (good_pw _).1 ((goodB_iff _).1 hg)
      rw [List.pairwise_append, List.pairwise_cons] at g2
      rcases (hmem x).2 hx with q | q
      · exact absurd (((lowB_iff _ _).1 (g2.2.2 x q o List.mem_cons_self)).2 e1) e2
      · exact absurd (((lowB_iff _ _).1 (g2.2.1.1 x q)).2 e1.symm) (fun e => e2 e.symm)
  | false =>
    have hm := (moved_no L o).1 hmv
    show goodB _ = true
    rw [goodB_iff, good_pw]
    have h2' := h2
    rw [← List.take_append_drop (inAt o L) L, List.pairwise_append] at h2'
    refine ⟨fun a ha => ?_, ?_⟩
    · rw [List.mem_append, List.mem_cons] at ha
      rcases ha with q | q | q
      · exact h1 a ((hmem a).1 (.inl q))
      · rw [q]; exact ho
      · exact h1 a ((hmem a).1 (.inr q))
    · rw [List.pairwise_append, List.pairwise_cons]
      refine ⟨h2'.1, ⟨fun b hb => (lowB_iff _ _).2 ⟨hhigh b hb, fun e => (hm b ((hmem b).1 (.inr hb)) e.symm).symm⟩, h2'.2.1⟩, fun a ha b hb => ?_⟩
      rw [List.mem_cons] at hb
      rcases hb with q | q
      · rw [q]
        exact (lowB_iff _ _).2 ⟨hlow a ha, hm a ((hmem a).1 (.inl ha))⟩
      · exact h2'.2.2 a ha b q

theorem good_set {L : List Osd} {k : Nat} {x y : Osd} (h : Good L) (hx : L[k]? = some x) (e1 : y.id = x.id) (e2 : y.host = x.host) (e3 : y.rack = x.rack) (ho : osdB y = true) : Good (L.set k y) := by
  have key : ∀ (i : Nat) (a : Osd), (L.set k y)[i]? = some a → ∃ a', L[i]? = some a' ∧ a.id = a'.id ∧ a.host = a'.host ∧ a.rack = a'.rack ∧ osdB a = true := fun i a ha => by
    rw [List.getElem?_set] at ha
    split at ha
    · rename_i e
      subst e
      split at ha
      · injection ha with ha
        subst ha
        exact ⟨x, hx, e1, e2, e3, ho⟩
      · cases ha
    · exact ⟨a, ha, rfl, rfl, rfl, (h i a ha).1⟩
  intro i a ha
  obtain ⟨a', h1, h2, h3, h4, h5⟩ := key i a ha
  refine ⟨h5, fun j b hj hb => ?_⟩
  obtain ⟨b', g1, g2, g3, g4, g5⟩ := key j b hb
  have := (lowB_iff _ _).1 ((h i a' h1).2 j b' hj g1)
  rw [lowB_iff, h2, h3, h4, g2, g3, g4]
  exact this

theorem osd_parts {o : Osd} (h : osdB o = true) : (0 ≤ o.id ∧ o.id ≤ 999) ∧ (0 ≤ o.host ∧ o.host ≤ 999) ∧ (0 ≤ o.rack ∧ o.rack ≤ 999) ∧ (0 ≤ o.wt ∧ o.wt ≤ 16777216) ∧ (least o.up ≤ o.life ∧ o.life ≤ 2147483647) ∧ (least o.up ≤ o.boot ∧ o.boot ≤ 2147483647) := by
  unfold osdB at h
  simp only [Bool.and_eq_true, wi_iff, and_assoc] at h
  simp only [and_assoc]
  exact h

theorem osd_mk {o : Osd} (h : (0 ≤ o.id ∧ o.id ≤ 999) ∧ (0 ≤ o.host ∧ o.host ≤ 999) ∧ (0 ≤ o.rack ∧ o.rack ≤ 999) ∧ (0 ≤ o.wt ∧ o.wt ≤ 16777216) ∧ (least o.up ≤ o.life ∧ o.life ≤ 2147483647) ∧ (least o.up ≤ o.boot ∧ o.boot ≤ 2147483647)) : osdB o = true := by
  unfold osdB
  simp only [Bool.and_eq_true, wi_iff, and_assoc]
  simp only [and_assoc] at h
  exact h

theorem byK_same (k : Int) (o x : Osd) : (byK k o x).id = x.id ∧ (byK k o x).host = x.host ∧ (byK k o x).rack = x.rack := by
  unfold byK
  repeat' split
  all_goals exact ⟨rfl, rfl, rfl⟩

theorem byK_may {k : Int} {o x : Osd} (h1 : k ≠ 1) (hm : mayK k o = true) (hx : osdB x = true) : osdB (byK k o x) = true := by
  obtain ⟨p1, p2, p3, p4, p5, p6⟩ := osd_parts hx
  have hl : least x.up ≤ 1 ∧ 0 ≤ least x.up := by unfold least; split <;> omega
  unfold mayK at hm
  rw [if_neg h1] at hm
  unfold byK
  by_cases e2 : k = 2
  · rw [if_pos e2] at hm ⊢
    unfold upB at hm
    simp only [Bool.and_eq_true, wi_iff] at hm
    refine osd_mk ⟨p1, p2, p3, p4, ?_, ?_⟩
    · exact hm.2.1.2
    · exact hm.2.2
  · rw [if_neg e2] at hm ⊢
    by_cases e3 : k = 3
    · rw [if_pos e3]
      refine osd_mk ⟨p1, p2, p3, p4, ?_, ?_⟩
      · show least false ≤ x.life ∧ x.life ≤ 2147483647
        have : least false = 0 := rfl
        rw [this]
        omega
      · show least false ≤ x.boot ∧ x.boot ≤ 2147483647
        have : least false = 0 := rfl
        rw [this]
        omega
    · rw [if_neg e3]
      by_cases e4 : k = 4
      · rw [if_pos e4]
        exact osd_mk ⟨p1, p2, p3, p4, p5, p6⟩
      · rw [if_neg e4]
        by_cases e5 : k = 5
        · rw [if_pos e5]
          exact osd_mk ⟨p1, p2, p3, p4, p5, p6⟩
        · rw [if_neg e5]
          by_cases e6 : k = 6
          · rw [if_pos e6] at hm
            unfold wtB at hm
            simp only [Bool.and_eq_true, wi_iff] at hm
            exact osd_mk ⟨p1, p2, p3, hm.2.2, p5, p6⟩
          · rw [if_neg e6] at hm
            unfold idB at hm
            simp only [Bool.and_eq_true, eqO_iff] at hm
            refine osd_mk ⟨p1, p2, p3, ?_, p5, p6⟩
            show 0 ≤ o.wt ∧ _
            rw [hm.1]
            show (0 : Int) ≤ 0 ∧ (0 : Int) ≤ 16777216
            omega

theorem may_parts {m : Mp} (h : mayM m = true) : (0 ≤ m.ep ∧ m.ep ≤ 1048576) ∧ poolB m.pool = true ∧ m.osds.length ≤ 64 ∧ Good m.osds := by
  unfold mayM osdsB at h
  simp only [Bool.and_eq_true, wi_iff, decide_eq_true_eq, goodB_iff] at h
  exact ⟨h.1.1, h.1.2, h.2.1, h.2.2⟩

theorem may_mk {m : Mp} (h : (0 ≤ m.ep ∧ m.ep ≤ 1048576) ∧ poolB m.pool = true ∧ m.osds.length ≤ 64 ∧ Good m.osds) : mayM m = true := by
  unfold mayM osdsB
  simp only [Bool.and_eq_true, wi_iff, decide_eq_true_eq, goodB_iff]
  exact ⟨⟨h.1, h.2.1⟩, h.2.2.1, h.2.2.2⟩

theorem adv_may {m : Mp} {c : Ch} (h : mayM m = true) (h0 : (advP m c).1 = 0) : mayM (advP m c).2 = true ∧ (advP m c).2.ep = m.ep + 1 := by
  obtain ⟨p1, p2, p3, p4⟩ := may_parts h
  unfold advP at h0 ⊢
  by_cases hno : mayC c = false ∨ m.ep = 1048576
  · rw [if_pos hno] at h0
    cases h0
  · rw [if_neg hno] at h0 ⊢
    have he : m.ep ≠ 1048576 := fun e => hno (.inr e)
    have hc : mayC c = true := by
      cases hq : mayC c with
      | true => rfl
      | false => exact absurd (.inl hq) hno
    by_cases hd : (doP c.kind m.osds c.osd).1 = 0
    · rw [if_pos hd]
      refine ⟨may_mk ⟨⟨by show 0 ≤ m.ep + 1; omega, by show m.ep + 1 ≤ 1048576; omega⟩, p2, ?_⟩, rfl⟩
      unfold mayC at hc
      simp only [Bool.and_eq_true] at hc
      unfold doP at hd ⊢
      by_cases hk : c.kind = 1
      · rw [if_pos hk] at hd ⊢
        have hm := hc.2
        rw [hk] at hm
        unfold mayK at hm
        rw [if_pos rfl] at hm
        unfold addP at hd ⊢
        cases hf : m.osds.findIdx? (isId c.osd.id) with
        | some q => simp [hf] at hd
        | none =>
          rw [hf] at hd
          by_cases h64 : 64 ≤ m.osds.length
          · simp [h64] at hd
          · cases hmv : movedB m.osds c.osd with
            | true => simp [h64, hmv] at hd
            | false =>
              simp only [Option.isSome_none, Bool.false_eq_true, if_false, h64]
              refine ⟨?_, ?_⟩
              · show (ins c.osd m.osds).length ≤ 64
                rw [ins_at]
                simp
                have := inAt_le c.osd m.osds
                omega
              · show Good (ins c.osd m.osds)
                have := good_ins p4 hm hf
                rw [hmv] at this
                exact (goodB_iff _).1 this
      · rw [if_neg hk] at hd ⊢
        rw [turnP_len]
        refine ⟨p3, ?_⟩
        unfold turnP at hd ⊢
        cases hf : m.osds.findIdx? (isId c.osd.id) with
        | none => simp [hf] at hd
        | some q =>
          obtain ⟨x, hx, _, _⟩ := idx_some hf
          rw [hf] at hd
          simp only [hx] at hd ⊢
          by_cases hq : eqO (byK c.kind c.osd x) x = true
          · simp [hq] at hd
          · simp only [hq]
            obtain ⟨s1, s2, s3⟩ := byK_same c.kind c.osd x
            exact good_set p4 hx s1 s2 s3 (byK_may hk hc.2 (p4 q x hx).1)
    · rw [if_neg hd] at h0
      exact absurd h0 hd

def applyP (m : Mp) (c : Ch) : Int × Mp := if mayM m = true then (if (advP m c).1 = 0 then advP m c else ((advP m c).1, noM)) else (1, noM)

end Go.Proofs.YthlfmbijagpggaaGreat.At

/-
  slices.Clone at OSDs; atlas.Apply.
  Conditions: lists lie in memory.
-/
namespace Go.Proofs.YthlfmbijagpggaaGreat.At
open Go.RowKit By Fl
set_option linter.unusedVariables false
set_option linter.unusedSimpArgs false
set_option maxRecDepth 100000

/- append([]Osd{}, l...) -/
theorem copy_own {w : World} {B : Nat} {x : Option Addr} {n c : Nat} {L : List Osd} (h : Os w x n c L) (hn : n ≤ 1000) (hB : B ≤ w.heap.size) (hx : x ≠ none) : ∃ x' c' w', (Builtin.append_ #[47, 47] 47 #[.slice (some ⟨w.heap.size, 0, none⟩) 0 0, .slice x n c]).run Tryz.prog (w.alloc (.cells #[] 53)) = .ok (.slice x' n c') w' ∧
    Hid (Own w' B 53 8 enO (.slice x' n c') L ∧ Below w.heap.size w w' ∧ ∀ g, (Value.slice x' n c').ownBlock = some g → w.heap.size ≤ g) := by
  cases x with
  | none => exact absurd rfl hx
  | some ad =>
    have h0 := h.below (al w (.cells #[] 53))
    have hl := h.len
    obtain ⟨x', c', w', hr, H⟩ := (Own.empty w (B := B) hB 53 8 enO).push orow (by simp; omega) ad n c L hl (fun j u hj => by
      have hjl := (List.getElem?_eq_some_iff.1 hj).1
      rw [flat_len orow.len, hl] at hjl
      rcases h0.row with q | ⟨b, o, e, hb, hc⟩
      · omega
      · injection e with e
        subst e
        rw [add_at]
        obtain ⟨a, ha⟩ : ∃ a, L[j / 8]? = some a := ⟨L[j / 8]'(by omega), List.getElem?_eq_getElem (by omega)⟩
        have hjj : j / 8 * 8 + j % 8 = j := by omega
        have := flat_get (enc := enO) (sz := 8) orow.len L (j / 8) a ha (j % 8) (by omega)
        rw [hjj] at this
        have := hc (j / 8) a ha (j % 8) u (this.symm.trans hj)
        rw [Nat.add_assoc, hjj] at this
        exact this) (by simp; omega)
    simp only [List.length_nil, Nat.zero_add, List.nil_append] at hr H
    refine ⟨x', c', w', hr, H.out.1, ?_, fun g hg => ?_⟩
    · exact (al w _).trans (H.out.2.1.below (B := w.heap.size) (fun k hk => by simp [Value.ownBlock] at hk; omega) (by simp))
    · rcases H.out.2.2 g hg with q | q
      · simp [Value.ownBlock] at q; omega
      · rw [q]; simp

theorem clone_any {w : World} {B : Nat} {x : Option Addr} {n c : Nat} {L : List Osd} (h : Os w x n c L) (hn : n ≤ 1000) (hB : B ≤ w.heap.size) :
    Calls Tryz.prog 68 #[.slice x n c] w fun e w' => ∃ x' c', e = .returned (.slice x' n c') ∧ Hid (Own w' B 53 8 enO (.slice x' n c') L ∧ Below w.heap.size w w' ∧ ∀ g, (Value.slice x' n c').ownBlock = some g → w.heap.size ≤ g) := by
  cases x with
  | none =>
    obtain ⟨h1, h2⟩ := h.nil rfl
    subst h1 h2
    have HF : Hid (Own w B 53 8 enO (.slice none 0 0) L) := by
      have : L = [] := List.eq_nil_of_length_eq_zero h.len
      subst this
      exact Own.nil _ _ _ _ _
    have he : ∀ w : World, (binOp .eql 47 (.slice none 0 0) (.slice none 0 0)).run Tryz.prog w = .ok (.bool true) w := fun _ => by kernel_rfl
    clear h
    go_enter Tryz.func68, Tryz.ntmps68
    go_wp2_with fail
    go_ret
    exact ⟨none, 0, rfl, HF.out, Below.refl _ _, fun g hg => by cases hg⟩
  | some ad =>
    obtain ⟨x', c', w', hr, H⟩ := copy_own h hn hB (fun e => by cases e)
    have he : ∀ w : World, (binOp .eql 47 (.slice (some ad) n c) (.slice none 0 0)).run Tryz.prog w = .ok (.bool false) w := fun _ => by kernel_rfl
    clear h
    go_enter Tryz.func68, Tryz.ntmps68
    go_wp2_with (at_builtin; refine Lib.wpList_append_run _ rfl _ _ _ _ rfl _ _ rfl rfl _ _ hr ?_)
    go_ret
    exact ⟨_, _, rfl, H.out⟩

theorem box3 (w : World) (A B C : Obj) : (((w.alloc A).alloc B).alloc C).heap[w.heap.size]? = some A ∧ (((w.alloc A).alloc B).alloc C).heap[w.heap.size + 1]? = some B ∧ (((w.alloc A).alloc B).alloc C).heap[w.heap.size + 1 + 1]? = some C := by
  have s1 : (w.alloc A).heap.size = w.heap.size + 1 := by simp
  have s2 : ((w.alloc A).alloc B).heap.size = w.heap.size + 1 + 1 := by simp
  refine ⟨?_, ?_, ?_⟩
  · exact ((al ((w.alloc A).alloc B) C).block _ (by omega)).trans (((al (w.alloc A) B).block _ (by omega)).trans (heap_alloc_new w A))
  · have := heap_alloc_new (w.alloc A) B
    rw [s1] at this
    exact ((al ((w.alloc A).alloc B) C).block _ (by omega)).trans this
  · have := heap_alloc_new ((w.alloc A).alloc B) C
    rw [s2] at this
    exact this

theorem apply_no {m : Mp} {c : Ch} (h : mayM m = false) : applyP m c = (1, noM) := by unfold applyP; rw [if_neg (by rw [h]; simp)]
theorem apply_err {m : Mp} {c : Ch} (h : mayM m = true) (h2 : (advP m c).1 ≠ 0) : applyP m c = ((advP m c).1, noM) := by unfold applyP; rw [if_pos h, if_neg h2]
theorem apply_ok {m : Mp} {c : Ch} (h : mayM m = true) (h2 : (advP m c).1 = 0) : applyP m c = advP m c := by unfold applyP; rw [if_pos h, if_pos h2]

theorem os_none (w : World) : Os w none 0 0 [] := ⟨rfl, Nat.le_refl _, by omega, fun _ => ⟨rfl, rfl⟩, .inl rfl⟩

def Told (w w' : World) (y : Option Addr) (yn yc : Nat) (L : List Osd) : Prop := Below w.heap.size w w' ∧ Os w' y yn yc L
def ToldN (w w' : World) (y : Option Addr) (yn yc : Nat) (L : List Osd) : Prop := Below w.heap.size w w' ∧ Os w' y yn yc L ∧ ∀ a, y = some a → w.heap.size ≤ a.block

end Go.Proofs.YthlfmbijagpggaaGreat.At
