/-
  3 texts of this proof, one behind the other: AtIns, AtAdd, AtKinds.
-/
import Derived.Test.YtdlajpjigddbhaaGreatJ08
import Derived.Lib.Overlaps
import Derived.Lib.AppendZerosOnto
import Derived.Laws.NewBlocks
import Derived.Test.YtdlajpjigddbhaaGreatJ07
import Derived.Laws.EntriesVeiled
/-
  slices.Insert of one OSD into a list of one's own.
  Conditions: the list is one's own, and short.
-/
namespace Go.Proofs.YtdlajpjigddbhaaGreat.At
open Go.RowKit By Fl
set_option linter.unusedVariables false
set_option linter.unusedSimpArgs false
set_option maxRecDepth 100000

theorem run_copy_sz {P : Program} (w : World) (dT sT ty elem : TypeId) (sz g o dLen dCap : Nat) (a : Addr) (sLen sCap k : Nat) (cur : Array Value) (t : TypeId) (cs : List Value)
    (hu : P.underlying dT = some (.slice elem)) (hs : (P.info? elem).map (·.size) = some sz)
    (hg : w.heap[g]? = some (.cells cur t (0, 0))) (hk : Nat.min sLen dLen = k) (hn : cs.length = k * sz)
    (hsrc : ∀ j v, cs[j]? = some v → w.cell? (a.add j) = some v) (hfit : o + cs.length ≤ cur.size) (h1 : ∀ v ∈ cs, v.oneCell' = true) :
    (Builtin.copy_ #[dT, sT] ty #[.slice (some ⟨g, o, none⟩) dLen dCap, .slice (some a) sLen sCap]).run P w =
      .ok (goInt k) (w.setRow g (cur.toList.take o ++ cs ++ cur.toList.drop (o + cs.length)).toArray) := by
  have hl := run_loadCells_list (P := P) w a cs hsrc
  have hst := run_storeCells_at P g o t cs 0 cur w hg (by simpa using hfit) h1
  cases hq : P.info? elem with
  | none => simp [hq] at hs
  | some i =>
    have hi : i.size = sz := by simpa [hq] using hs
    have hk' : min sLen dLen = k := hk
    simp [Builtin.copy_, run_underlying hu, Builtin.lenOf, Builtin.firstCells, sizeOf, typeInfo, hq, hi, hk', ← hn, hl, hst]

theorem wpList_copy_at {P : Program} (w : World) {ops : Array Oper} {rest : List Oper} {o : Oper} {a : Act} {Q : Exit → Act → World → Prop} (hgd : o.guard = none) (d s : Operand) (t t' : TypeId)
    (ho : o.op = .call { callee := .builtin .copy, args := #[d, s], argTypes := #[t, t'] }) (v u : Value) (hd : a.eval d = v) (hs : a.eval s = u) {v' : Value} {w' : World}
    (hr : (Builtin.copy_ #[t, t'] o.type #[v, u]).run P w = .ok v' w') (h : wpList P ops Q rest (a.put o.dst v') w') : wpList P ops Q (o :: rest) a w :=
  wpList_plain hgd fun _ hK => by
    unfold Oper.wp execOp
    simp only [ho, resolve, invoke, builtin, Sem.run_bind, Sem.run_pure, Result.andThen_ok, List.map_toArray, List.map_cons, List.map_nil, hd, hs, hr]
    exact hK _ _ h

/- A copy that comes up alone in a region that draws its order. -/
theorem st_copy {P : Program} {w w' : World} {ops : Array Oper} {o : Oper} {a : Act} {K : Act → World → Prop} {Q : Exit → Act → World → Prop} {v' : Value} (hg : Region.wanted o (yielded ops a.tmps) = true) (s x : Operand) (t : TypeId)
    (ho : o.op = .call { callee := .builtin .copy, args := #[s, x], argTypes := #[t, t] }) (v1 v2 : Value) (hs : a.eval s = v1) (hx : a.eval x = v2) (hr : (Builtin.copy_ #[t, t] o.type #[v1, v2]).run P w = .ok v' w')
    (h : K (a.put o.dst v') w') : if Region.wanted o (yielded ops a.tmps) = true then Oper.wp P o a w K Q else K (a.put o.dst undef) w := by
  rw [if_pos hg]
  unfold Oper.wp execOp
  simp only [ho, resolve, invoke, builtin, Sem.run_bind, Sem.run_pure, Result.andThen_ok, List.map_toArray, List.map_cons, List.map_nil, hs, hx, hr]
  exact h

theorem osz : (Tryz.prog.info? 35).map (·.size) = some 8 := by kernel_rfl

def spl (cur : List Value) (o : Nat) (cs : List Value) : List Value := cur.take o ++ cs ++ cur.drop (o + cs.length)

theorem spl_len (cur : List Value) (o : Nat) (cs : List Value) (h : o + cs.length ≤ cur.length) : (spl cur o cs).length = cur.length := by
  simp [spl]
  omega

theorem spl_take (cur : List Value) (o : Nat) (cs : List Value) (h : o + cs.length ≤ cur.length) : (spl cur o cs).take (o + cs.length) = cur.take o ++ cs := by
  unfold spl
  rw [List.take_left' (by simp; omega)]

theorem spl_drop (cur : List Value) (o : Nat) (cs : List Value) (h : o + cs.length ≤ cur.length) (k : Nat) (hk : k = o) : (spl cur o cs).drop k = cs ++ cur.drop (o + cs.length) := by
  subst hk
  unfold spl
  rw [List.append_assoc, List.drop_left' (by simp; omega)]

theorem spl_low (cur : List Value) (o : Nat) (cs : List Value) (h : o + cs.length ≤ cur.length) (k : Nat) (hk : k ≤ o) : (spl cur o cs).take k = cur.take k := by
  unfold spl
  rw [List.append_assoc, List.take_append_of_le_length (by simp; omega), List.take_take, Nat.min_eq_left hk]

/- Up by one, then one more: room. -/
theorem ins_room (cur : List Value) (L : List Osd) (o : Osd) (i n : Nat) (hL : L.length = n) (hi : i < n) (hc : (n + 1) * 8 ≤ cur.length) (ht : cur.take (n * 8) = flat enO L) :
    (spl (spl cur ((i + 1) * 8) (flat enO (L.drop i))) (i * 8) (enO o)).take ((n + 1) * 8) = flat enO (L.take i ++ o :: L.drop i) := by
  have hD : (flat enO (L.drop i)).length = (n - i) * 8 := by rw [flat_len orow.len, List.length_drop, hL]
  have hE : (enO o).length = 8 := rfl
  have e1 : (spl cur ((i + 1) * 8) (flat enO (L.drop i))).length = cur.length := spl_len _ _ _ (by omega)
  have e2 : (spl cur ((i + 1) * 8) (flat enO (L.drop i))).take (i * 8) = flat enO (L.take i) := by
    rw [spl_low _ _ _ (by omega) _ (by omega), ← flat_take orow.len, ← ht, List.take_take, Nat.min_eq_left (by omega)]
  have e3 := spl_drop cur ((i + 1) * 8) (flat enO (L.drop i)) (by omega) (i * 8 + 8) (by omega)
  rw [show spl (spl cur ((i + 1) * 8) (flat enO (L.drop i))) (i * 8) (enO o) = (spl cur ((i + 1) * 8) (flat enO (L.drop i))).take (i * 8) ++ enO o ++ (spl cur ((i + 1) * 8) (flat enO (L.drop i))).drop (i * 8 + 8) from rfl, e2, e3, ← List.append_assoc, List.take_left' (by
    simp only [List.length_append, hD, hE, flat_len orow.len, List.length_take, hL]
    omega), flat_app, flat_cons, List.append_assoc]

/- One more, then the rest: a new row. -/
theorem ins_new (cur : List Value) (L : List Osd) (o : Osd) (i n : Nat) (hL : L.length = n) (hi : i < n) (hc : (n + 1) * 8 ≤ cur.length) (ht : cur.take (i * 8) = flat enO (L.take i)) :
    (spl (spl cur (i * 8) (enO o)) ((i + 1) * 8) (flat enO (L.drop i))).take ((n + 1) * 8) = flat enO (L.take i ++ o :: L.drop i) := by
  have hD : (flat enO (L.drop i)).length = (n - i) * 8 := by rw [flat_len orow.len, List.length_drop, hL]
  have hE : (enO o).length = 8 := rfl
  have e1 : (spl cur (i * 8) (enO o)).length = cur.length := spl_len _ _ _ (by omega)
  have e2 := spl_take cur (i * 8) (enO o) (by omega)
  rw [hE, ht, show i * 8 + 8 = (i + 1) * 8 by omega] at e2
  have e3 := spl_take (spl cur (i * 8) (enO o)) ((i + 1) * 8) (flat enO (L.drop i)) (by omega)
  rw [hD, e2, show (i + 1) * 8 + (n - i) * 8 = (n + 1) * 8 by omega] at e3
  rw [e3, flat_app, flat_cons, List.append_assoc]

/- What is handed over: one OSD in a block of its own. -/
theorem OBox.src {w : World} {a : Nat} {o : Osd} (h : OBox w a o) (j : Nat) (v : Value) (hv : (enO o)[j]? = some v) : w.cell? ((⟨a, 0, none⟩ : Addr).add j) = some v := by
  rw [add_at, Nat.zero_add]
  exact cell_heap h (by simpa [enO] using hv)

def Inserted (w w' : World) (B : Nat) (R R' : Value) (L : List Osd) : Prop := Own w' B 35 8 enO R' L ∧ Turns (fun k => R.ownBlock = some k) w w' ∧ ∀ g, R'.ownBlock = some g → R.ownBlock = some g ∨ w.heap.size ≤ g

theorem insert_end {w : World} {B : Nat} {x : Option Addr} {n c vb : Nat} {L : List Osd} {o : Osd} (h : Own w B 35 8 enO (.slice x n c) L) (hv : OBox w vb o) (hB : B ≤ w.heap.size) (hn : n < 64) :
    Calls Tryz.prog 132 #[.slice x n c, .int .i64 (n : Int), .slice (some ⟨vb, 0, none⟩) 1 1] w fun e w' => ∃ x' c', e = .returned (.slice x' (n + 1) c') ∧ Hid (Inserted w w' B (.slice x n c) (.slice x' (n + 1) c') (L ++ [o])) := by
  obtain ⟨x0, c0, e0, h1, h2, h3⟩ := h.form
  injection e0 with e1 e2 e3
  subst e1 e3
  obtain ⟨x', c', w', hap, H⟩ := h.push orow hB ⟨vb, 0, none⟩ 1 1 [o] rfl (fun j u hj => hv.src j u (by rwa [flat_one] at hj)) (by rw [← e2]; omega)
  rw [← e2] at hap H h1 h2
  have HF : Hid (Inserted w w' B (.slice x n c) (.slice x' (n + 1) c') (L ++ [o])) := ⟨H.out.1, H.out.2.1, fun g hg => (H.out.2.2 g hg).imp (fun h => h) (fun h => by omega)⟩
  have hnc : (n : Int) ≤ (c : Int) := by omega
  clear h hv H e2 h3 h2
  cases x with
  | none =>
    go_enter Tryz.func132, Tryz.ntmps132
    go_wp2_with (at_builtin; refine Lib.wpList_append_run _ rfl _ _ _ _ rfl _ _ rfl rfl _ _ hap ?_)
    all_goals (go_ret; exact ⟨_, _, rfl, HF.out⟩)
  | some ad =>
    go_enter Tryz.func132, Tryz.ntmps132
    go_wp2_with (at_builtin; refine Lib.wpList_append_run _ rfl _ _ _ _ rfl _ _ rfl rfl _ _ hap ?_)
    all_goals (go_ret; exact ⟨_, _, rfl, HF.out⟩)

theorem over_no (w : World) (vb g q lb cb : Nat) (cur : Array Value) (o : Osd) (hv : OBox w vb o) (hg : w.heap[g]? = some (.cells cur 35 (0, 0))) (hne : vb ≠ g) (hz : cur.size ≠ 0) :
    (callFunc 157 #[.slice (some ⟨vb, 0, none⟩) 1 1, .slice (some ⟨g, q, none⟩) lb cb]).run Tryz.prog w = .ok (.value (.bool false)) w := by
  rw [run_callFunc_extern Tryz.func157 (by kernel_rfl) (by kernel_rfl) (by kernel_rfl) (e := Extern.SlicesOverlaps.overlaps #[54, 54] #[4]) (by kernel_rfl),
    Lib.run_overlaps_apart w 54 4 35 (by kernel_rfl) 8 (fun _ => by kernel_rfl) ⟨vb, 0, none⟩ ⟨g, q, none⟩ 1 1 lb cb hne 35 35 8 cur.size (by unfold World.shape?; rw [hv]; rfl) (by unfold World.shape?; rw [hg]) hz (fr_heap hv 0) (fr_heap hv 8)]
  rfl

set_option maxHeartbeats 1600000 in
theorem insert_room {w : World} {B g n c vb i : Nat} {L : List Osd} {o : Osd} (h : Own w B 35 8 enO (.slice (some ⟨g, 0, none⟩) n c) L) (hv : OBox w vb o) (hne : vb ≠ g) (hi : i < n) (hn : n < 64) (hr : n + 1 ≤ c) :
    Calls Tryz.prog 132 #[.slice (some ⟨g, 0, none⟩) n c, .int .i64 (i : Int), .slice (some ⟨vb, 0, none⟩) 1 1] w fun e w' => e = .returned (.slice (some ⟨g, 0, none⟩) (n + 1) c) ∧ Hid (Inserted w w' B (.slice (some ⟨g, 0, none⟩) n c) (.slice (some ⟨g, 0, none⟩) (n + 1) c) (L.take i ++ o :: L.drop i)) := by
  obtain ⟨hL, hBg, hnc, hcm, cur, h0, hz, ht⟩ := h.heap
  have hm : c ≤ 9223372036854775807 := by unfold maxLen at hcm; omega
  have hD : (flat enO (L.drop i)).length = (n - i) * 8 := by rw [flat_len orow.len, List.length_drop, hL]
  have hcl : cur.toList.length = c * 8 := by rw [Array.length_toList]; exact hz
  have hov : ∀ q lb cb, (callFunc 157 #[.slice (some ⟨vb, 0, none⟩) 1 1, .slice (some ⟨g, q, none⟩) lb cb]).run Tryz.prog w = .ok (.value (.bool false)) w := fun q lb cb => over_no w vb g q lb cb cur o hv h0 hne (by omega)
  obtain ⟨cur1, hc1⟩ : ∃ c1, c1 = spl cur.toList ((i + 1) * 8) (flat enO (L.drop i)) := ⟨_, rfl⟩
  obtain ⟨cur2, hc2⟩ : ∃ c2, c2 = spl cur1 (i * 8) (enO o) := ⟨_, rfl⟩
  have l1 : cur1.length = c * 8 := by rw [hc1, spl_len _ _ _ (by omega), hcl]
  have hone : ∀ (K : List Osd), ∀ v ∈ flat enO K, v.oneCell' = true := fun K v hv => by obtain ⟨a, _, ha⟩ := flat_mem hv; exact orow.one a v ha
  have hcp1 : ∀ ty dc sc, (Builtin.copy_ #[54, 54] ty #[.slice (some ⟨g, (i + 1) * 8, none⟩) (n - i) dc, .slice (some ⟨g, i * 8, none⟩) (n + 1 - i) sc]).run Tryz.prog w.drew = .ok (goInt ((n - i : Nat) : Int)) (w.drew.setRow g cur1.toArray) := fun ty dc sc => by
    rw [hc1]
    unfold spl
    exact run_copy_sz w.drew _ _ ty 35 8 g ((i + 1) * 8) (n - i) dc ⟨g, i * 8, none⟩ (n + 1 - i) sc (n - i) cur 35 (flat enO (L.drop i)) (by kernel_rfl) osz h0 (by show min _ _ = _; omega) hD
      (fun j v hj => by
        rw [add_at]
        rw [← flat_drop orow.len, List.getElem?_drop] at hj
        have := World.ownsRow.cells h (g := g) rfl _ v hj
        rwa [add_at, Nat.zero_add] at this) (by omega) (hone _)
  obtain ⟨W1, hW1⟩ : ∃ W1, W1 = w.drew.setRow g cur1.toArray := ⟨_, rfl⟩
  have g1 : W1.heap[g]? = some (.cells cur1.toArray 35 (0, 0)) := by rw [hW1]; exact setRow_heap w.drew g cur _ _ _ h0
  have t1 : Turns (fun k => k = g) w W1 := by rw [hW1]; exact (Turns.refl _ w).drew.trans (setRow_turns _ _ _)
  have hcp2 : ∀ (W : World), W.heap = W1.heap → ∀ ty dc, (Builtin.copy_ #[54, 54] ty #[.slice (some ⟨g, i * 8, none⟩) (n + 1 - i) dc, .slice (some ⟨vb, 0, none⟩) 1 1]).run Tryz.prog W = .ok (goInt 1) (W.setRow g cur2.toArray) := fun W hW ty dc => by
    rw [hc2]
    unfold spl
    exact run_copy_sz W _ _ ty 35 8 g (i * 8) (n + 1 - i) dc ⟨vb, 0, none⟩ 1 1 1 cur1.toArray 35 (enO o) (by kernel_rfl) osz (by rw [hW]; exact g1) (by show min _ _ = _; omega) rfl
      (fun j v hj => by
        rw [← (hv.turns t1 hne).src j v hj]
        exact World.cell?_of_block (by rw [hW])) (by simp [enO]; omega) (by have := hone [o]; rwa [flat_one] at this)
  have HF : Hid (∀ W : World, W.heap = W1.heap → W.os = W1.os → W.tape = W1.tape → W.output = W1.output → Inserted w (W.setRow g cur2.toArray) B (.slice (some ⟨g, 0, none⟩) n c) (.slice (some ⟨g, 0, none⟩) (n + 1) c) (L.take i ++ o :: L.drop i)) := fun W e1 e2 e3 e4 => by
    have hl2 : (L.take i ++ o :: L.drop i).length = n + 1 := by simp [hL]; omega
    have g2 := setRow_heap W g cur1.toArray cur2.toArray 35 (0, 0) (by rw [e1]; exact g1)
    have tk : cur2.take ((n + 1) * 8) = flat enO (L.take i ++ o :: L.drop i) := by
      rw [hc2, hc1]
      exact ins_room cur.toList L o i n hL hi (by rw [hcl]; omega) ht
    have l2 : cur2.length = c * 8 := by rw [hc2, spl_len _ _ _ (by simp [enO]; omega), l1]
    have ow := Own.of_heap (K := L.take i ++ o :: L.drop i) g2 hBg (by rw [hl2]; exact hr) hcm (by simpa using l2) orow.len (by rw [hl2]; simpa using tk)
    rw [hl2] at ow
    refine ⟨ow, ?_, fun g' hg' => .inl hg'⟩
    have t2 : Turns (fun k => k = g) w W := ⟨e2.trans t1.os, e3.trans t1.tape, e4.trans t1.output, by rw [e1]; exact t1.size, fun k hk hn => by rw [e1]; exact t1.block k hk hn⟩
    exact (t2.trans (setRow_turns W g _)).weak fun k hk => by rw [hk]; rfl
  rw [← hW1] at hcp1
  have hz2 : ¬ ((i : Int) = (n : Int)) := by omega
  have hw1 : IntKind.i64.wrap ((i : Int) + 1) = (i : Int) + 1 := by rw [IntKind.wrap_i64]; omega
  have hb1 : (0 : Int) ≤ (i : Int) + 1 := by omega
  have hin : i ≤ n := by omega
  have htn : ((i : Int) + 1).toNat = i + 1 := by omega
  have hb2 : ¬ (c = i + 1) := by omega
  have hb3 : (i : Int) ≤ (n : Int) + 1 := by omega
  have hb4 : ¬ (c = i) := by omega
  clear h hv hne h0 hz ht hcm hD hcl hc1 hc2 l1 hone g1 t1 hL hBg hW1
  go_enter Tryz.func132, Tryz.ntmps132
  go_wp2_with (simp only [hov])
  refine wp_region_held_drew (S := fun _ => True) (by kernel_rfl) trivial (fun hHeld => ?_)
  refine wpAnyH_take (i := 0) (v := ?_) rfl (by kernel_rfl) (by kernel_rfl) (by kernel_rfl) (fun _ _ _ h => h) (Or.inl ⟨by rfl, ?_⟩) (by assumption) ?_
  case refine_2 => (intro w hSw; (try dsimp only at hSw); go_simp; (try with_reducible rfl))
  (try simp only [Act.put, List.getElem_toArray, List.getElem_cons_succ, List.getElem_cons_zero, List.setIfInBounds_toArray, List.set_cons_zero, List.set_cons_succ])
  refine wpAnyH_take (i := 1) (v := ?_) rfl (by kernel_rfl) (by kernel_rfl) (by kernel_rfl) (fun _ _ _ h => h) (Or.inl ⟨by rfl, ?_⟩) (by assumption) ?_
  case refine_2 => (intro w hSw; (try dsimp only at hSw); go_simp; (try with_reducible rfl))
  (try simp only [Act.put, List.getElem_toArray, List.getElem_cons_succ, List.getElem_cons_zero, List.setIfInBounds_toArray, List.set_cons_zero, List.set_cons_succ])
  refine wpAnyH_take (i := 2) (v := ?_) rfl (by kernel_rfl) (by kernel_rfl) (by kernel_rfl) (fun _ _ _ h => h) (Or.inl ⟨by rfl, ?_⟩) (by assumption) ?_
  case refine_2 => (intro w hSw; (try dsimp only at hSw); go_simp; (try with_reducible rfl))
  (try simp only [Act.put, List.getElem_toArray, List.getElem_cons_succ, List.getElem_cons_zero, List.setIfInBounds_toArray, List.set_cons_zero, List.set_cons_succ])
  refine wpAnyH_take (i := 3) (v := ?_) rfl (by kernel_rfl) (by kernel_rfl) (by kernel_rfl) (fun _ _ _ h => h) (Or.inl ⟨by rfl, ?_⟩) (by assumption) ?_
  case refine_2 => (intro w hSw; (try dsimp only at hSw); go_simp; (try with_reducible rfl))
  (try simp only [Act.put, List.getElem_toArray, List.getElem_cons_succ, List.getElem_cons_zero, List.setIfInBounds_toArray, List.set_cons_zero, List.set_cons_succ])
  refine wpAnyH_take (i := 4) (v := ?_) rfl (by kernel_rfl) (by kernel_rfl) (by kernel_rfl) (fun _ _ _ h => h) (Or.inl ⟨by rfl, ?_⟩) (by assumption) ?_
  case refine_2 => (intro w hSw; (try dsimp only at hSw); go_simp; (try with_reducible rfl))
  (try simp only [Act.put, List.getElem_toArray, List.getElem_cons_succ, List.getElem_cons_zero, List.setIfInBounds_toArray, List.set_cons_zero, List.set_cons_succ])
  refine wpAnyH_take (i := 5) (v := ?_) rfl (by kernel_rfl) (by kernel_rfl) (by kernel_rfl) (fun _ _ _ h => h) (Or.inl ⟨by rfl, ?_⟩) (by assumption) ?_
  case refine_2 => (intro w hSw; (try dsimp only at hSw); go_simp; (try with_reducible rfl))
  (try simp only [Act.put, List.getElem_toArray, List.getElem_cons_succ, List.getElem_cons_zero, List.setIfInBounds_toArray, List.set_cons_zero, List.set_cons_succ])
  refine wpAnyH_take (i := 6) (v := ?_) rfl (by kernel_rfl) (by kernel_rfl) (by kernel_rfl) (fun _ _ _ h => h) (Or.inl ⟨by rfl, ?_⟩) (by assumption) ?_
  case refine_2 => (intro w hSw; (try dsimp only at hSw); go_simp; (try with_reducible rfl))
  (try simp only [Act.put, List.getElem_toArray, List.getElem_cons_succ, List.getElem_cons_zero, List.setIfInBounds_toArray, List.set_cons_zero, List.set_cons_succ])
  refine wpAnyH_take (i := 7) (v := ?_) rfl (by kernel_rfl) (by kernel_rfl) (by kernel_rfl) (fun _ _ _ h => h) (Or.inl ⟨by rfl, ?_⟩) (by assumption) ?_
  case refine_2 => (intro w hSw; (try dsimp only at hSw); go_simp; (try with_reducible rfl))
  (try simp only [Act.put, List.getElem_toArray, List.getElem_cons_succ, List.getElem_cons_zero, List.setIfInBounds_toArray, List.set_cons_zero, List.set_cons_succ])
  refine wpAnyH_ready (rs := [8]) (by kernel_rfl) (by simp) ?_
  refine AllReadyH.cons rfl (fun K hK => ?_) AllReadyH.nil
  refine st_copy rfl _ _ 54 rfl _ _ rfl rfl (hcp1 _ _ _) ?_
  (try simp only [Act.put, List.getElem_toArray, List.getElem_cons_succ, List.getElem_cons_zero, List.setIfInBounds_toArray, List.set_cons_zero, List.set_cons_succ])
  refine hK.out _ _ trivial (fun hHeld => ?_)
  clear hK K
  refine wpAnyH_done (by kernel_rfl) ?_ _
  clear hHeld
  go_wp2_with (at_builtin; refine wpList_copy_at _ rfl _ _ 54 54 rfl _ _ rfl rfl (hcp2 _ rfl _ _) ?_)
  go_ret
  exact ⟨rfl, HF.out _ rfl rfl rfl rfl⟩

theorem zc_size (z : Array Value) (n : Nat) : (Builtin.zeroCells z n).size = n * z.size := by simp [Builtin.zeroCells]

set_option maxHeartbeats 1600000 in
theorem insert_grow {w : World} {B g n c vb i : Nat} {L : List Osd} {o : Osd} (h : Own w B 35 8 enO (.slice (some ⟨g, 0, none⟩) n c) L) (hv : OBox w vb o) (hB : B ≤ w.heap.size) (hi : i < n) (hn : n < 64) (hr : c < n + 1) :
    Calls Tryz.prog 132 #[.slice (some ⟨g, 0, none⟩) n c, .int .i64 (i : Int), .slice (some ⟨vb, 0, none⟩) 1 1] w fun e w' => ∃ x' c', e = .returned (.slice x' (n + 1) c') ∧ Hid (Inserted w w' B (.slice (some ⟨g, 0, none⟩) n c) (.slice x' (n + 1) c') (L.take i ++ o :: L.drop i)) := by
  obtain ⟨hL, hBg, hnc, hcm, cur, h0, hz, ht⟩ := h.heap
  have hm : c ≤ 9223372036854775807 := by unfold maxLen at hcm; omega
  have hgl : g < w.heap.size := (Array.getElem?_eq_some_iff.1 h0).1
  have hvl := hv.lt
  have hD : (flat enO (L.drop i)).length = (n - i) * 8 := by rw [flat_len orow.len, List.length_drop, hL]
  have hT : (flat enO (L.take i)).length = i * 8 := by rw [flat_len orow.len, List.length_take, hL, Nat.min_eq_left (by omega)]
  have hone : ∀ (K : List Osd), ∀ v ∈ flat enO K, v.oneCell' = true := fun K v hv => by obtain ⟨a, _, ha⟩ := flat_mem hv; exact orow.one a v ha
  have hinfo : (Tryz.prog.info? 35).map (fun i => (i.zero, i.size, i.bytes)) = some (some (.agg #[.int .i64 0, .bool false, .bool false, .int .i64 0, .int .i64 0, .int .i64 0, .int .i64 0, .int .i64 0]), 8, 56) := by kernel_rfl
  obtain ⟨i0, j1, j2, j3, j4⟩ := info_parts hinfo
  obtain ⟨k, hk⟩ : ∃ k, k = n + 1 - i := ⟨_, rfl⟩
  have hik : i + k = n + 1 := by omega
  have hold : (Builtin.firstCells i0.size i (.slice (some ⟨g, 0, none⟩) i c)).run Tryz.prog w.drew = .ok (flat enO (L.take i)).toArray w.drew := by
    rw [j3]
    exact run_firstCells_some w.drew 8 i ⟨g, 0, none⟩ i c (flat enO (L.take i)) hT (fun j v hj => by
      rw [← flat_take orow.len, List.getElem?_take] at hj
      split at hj
      · exact World.ownsRow.cells h (g := g) rfl j v hj
      · cases hj)
  obtain ⟨G, hG⟩ : ∃ G, G = grownCap w (n + 1) c 35 := ⟨_, rfl⟩
  have hGn : n + 1 ≤ G := by rw [hG]; exact grownCap_ge w _ _ _
  have hGm : G ≤ maxLen := by rw [hG]; exact grownCap_le_maxLen w (n + 1) c _ (by unfold maxLen; omega)
  have hG63 : G ≤ 9223372036854775807 := by unfold maxLen at hGm; omega
  obtain ⟨ROW, hROW⟩ : ∃ ROW : Array Value, ROW = (flat enO (L.take i)).toArray ++ Builtin.zeroCells (Value.agg #[.int .i64 0, .bool false, .bool false, .int .i64 0, .int .i64 0, .int .i64 0, .int .i64 0, .int .i64 0]).cells k ++ Builtin.zeroCells (Value.agg #[.int .i64 0, .bool false, .bool false, .int .i64 0, .int .i64 0, .int .i64 0, .int .i64 0, .int .i64 0]).cells (G - (n + 1)) := ⟨_, rfl⟩
  have hrz : ∀ ty, (Builtin.append_ #[54, 3] ty #[.slice (some ⟨g, 0, none⟩) i c, .int .i64 (k : Int)]).run Tryz.prog w = .ok (.slice (some ⟨w.heap.size, 0, none⟩) (n + 1) G) (w.drew.alloc (.cells ROW 35)) := fun ty => by
    have h := Lib.run_append_grow_zeros (P := Tryz.prog) w 54 3 ty 35 i0 _ .i64 .i64 (by kernel_rfl) (by kernel_rfl) j1 j2 (some ⟨g, 0, none⟩) i c (flat enO (L.take i)) hold k (by omega) (by omega) (by omega) (by omega) (by rw [j4]; omega) (by rw [j4, hik]; exact growslice_fits hr (by omega))
    rw [hik, ← hG, ← hROW] at h
    exact h
  have hRs : ROW.size = G * 8 := by
    rw [hROW]
    simp only [Array.size_append, zc_size, List.size_toArray, hT]
    show i * 8 + k * 8 + (G - (n + 1)) * 8 = G * 8
    omega
  have hRt : ROW.toList.take (i * 8) = flat enO (L.take i) := by
    rw [hROW]
    simp only [Array.toList_append, List.append_assoc]
    rw [List.take_left' (by simpa using hT)]
  obtain ⟨W0, hW0⟩ : ∃ W0, W0 = w.drew.alloc (.cells ROW 35) := ⟨_, rfl⟩
  have g0 : W0.heap[w.heap.size]? = some (.cells ROW 35 (0, 0)) := by rw [hW0]; exact heap_alloc_new w.drew _
  have b0 : Below w.heap.size w W0 := by rw [hW0]; exact (Below.refl _ w).drew.alloc (Nat.le_refl _) _
  obtain ⟨cur1, hc1⟩ : ∃ c1, c1 = spl ROW.toList (i * 8) (enO o) := ⟨_, rfl⟩
  obtain ⟨cur2, hc2⟩ : ∃ c2, c2 = spl cur1 ((i + 1) * 8) (flat enO (L.drop i)) := ⟨_, rfl⟩
  have hRl : ROW.toList.length = G * 8 := by rw [Array.length_toList]; exact hRs
  have hE : (enO o).length = 8 := rfl
  have l1 : cur1.length = G * 8 := by rw [hc1, spl_len _ _ _ (by rw [hRl, hE]; omega), hRl]
  have hcpA : ∀ (W : World), W.heap = W0.heap → ∀ ty dc, (Builtin.copy_ #[54, 54] ty #[.slice (some ⟨w.heap.size, i * 8, none⟩) (n + 1 - i) dc, .slice (some ⟨vb, 0, none⟩) 1 1]).run Tryz.prog W = .ok (goInt 1) (W.setRow w.heap.size cur1.toArray) := fun W hW ty dc => by
    rw [hc1]
    unfold spl
    exact run_copy_sz W _ _ ty 35 8 w.heap.size (i * 8) (n + 1 - i) dc ⟨vb, 0, none⟩ 1 1 1 ROW 35 (enO o) (by kernel_rfl) osz (by rw [hW]; exact g0) (by show min _ _ = _; omega) rfl
      (fun j v hj => by
        rw [← (hv.turns (Turns.of_below (F := fun _ => False) b0) (fun h => h)).src j v hj]
        exact World.cell?_of_block (by rw [hW])) (by rw [hE, hRs]; omega) (by have := hone [o]; rwa [flat_one] at this)
  have hcpB : ∀ (W : World), W.heap = (W0.setRow w.heap.size cur1.toArray).heap → ∀ ty dc sc, (Builtin.copy_ #[54, 54] ty #[.slice (some ⟨w.heap.size, (i + 1) * 8, none⟩) (n - i) dc, .slice (some ⟨g, i * 8, none⟩) (n - i) sc]).run Tryz.prog W = .ok (goInt ((n - i : Nat) : Int)) (W.setRow w.heap.size cur2.toArray) := fun W hW ty dc sc => by
    rw [hc2]
    unfold spl
    exact run_copy_sz W _ _ ty 35 8 w.heap.size ((i + 1) * 8) (n - i) dc ⟨g, i * 8, none⟩ (n - i) sc (n - i) cur1.toArray 35 (flat enO (L.drop i)) (by kernel_rfl) osz (by rw [hW]; exact setRow_heap W0 _ ROW _ _ _ g0) (by show min _ _ = _; omega) hD
      (fun j v hj => by
        rw [add_at]
        rw [← flat_drop orow.len, List.getElem?_drop] at hj
        have h1 := World.ownsRow.cells h (g := g) rfl _ v hj
        rw [add_at, Nat.zero_add] at h1
        have h2 := keep b0 h1
        rw [← h2]
        exact World.cell?_of_block (a := ⟨g, i * 8 + j, none⟩) (by rw [hW]; exact setRow_other W0 _ _ _ (by show g ≠ _; omega))) (by simp [l1, hD]; omega) (hone _)
  have HF : Hid (∀ W : World, W.heap = (W0.setRow w.heap.size cur1.toArray).heap → W.os = W0.os → W.tape = W0.tape → W.output = W0.output → Inserted w (W.setRow w.heap.size cur2.toArray) B (.slice (some ⟨g, 0, none⟩) n c) (.slice (some ⟨w.heap.size, 0, none⟩) (n + 1) G) (L.take i ++ o :: L.drop i)) := fun W e1 e2 e3 e4 => by
    have hl2 : (L.take i ++ o :: L.drop i).length = n + 1 := by simp [hL]; omega
    have g1 : W.heap[w.heap.size]? = some (.cells cur1.toArray 35 (0, 0)) := by rw [e1]; exact setRow_heap W0 _ ROW _ _ _ g0
    have g2 := setRow_heap W w.heap.size cur1.toArray cur2.toArray 35 (0, 0) g1
    have tk : cur2.take ((n + 1) * 8) = flat enO (L.take i ++ o :: L.drop i) := by
      rw [hc2, hc1]
      exact ins_new ROW.toList L o i n hL hi (by rw [hRl]; omega) hRt
    have l2 : cur2.length = G * 8 := by rw [hc2, spl_len _ _ _ (by rw [l1, hD]; omega), l1]
    have ow := Own.of_heap (K := L.take i ++ o :: L.drop i) g2 hB (by rw [hl2]; exact hGn) hGm (by simpa using l2) orow.len (by rw [hl2]; simpa using tk)
    rw [hl2] at ow
    refine ⟨ow, ?_, fun g' hg' => .inr (by simp [Value.ownBlock] at hg'; omega)⟩
    have t2 : Turns (fun _ => False) w W := ⟨e2.trans b0.os, e3.trans b0.tape, e4.trans b0.output, by rw [e1]; simpa using b0.size, fun k hk hn => by rw [e1, setRow_other W0 _ _ _ (by omega)]; exact b0.block k hk⟩
    exact (t2.weak (fun _ h => h.elim)).more (setRow_turns W _ _) (fun k hk => .inr (by rw [hk]; exact Nat.le_refl _))
  rw [← hW0] at hrz
  have hz2 : ¬ ((i : Int) = (n : Int)) := by omega
  have hw1 : IntKind.i64.wrap ((i : Int) + 1) = (i : Int) + 1 := by rw [IntKind.wrap_i64]; omega
  have hkk : (n : Int) + 1 - (i : Int) = (k : Int) := by omega
  have hb1 : (0 : Int) ≤ (i : Int) + 1 := by omega
  have hin : i ≤ n := by omega
  have htn : ((i : Int) + 1).toNat = i + 1 := by omega
  have hb2 : ¬ (G = i + 1) := by omega
  have hb3 : (i : Int) ≤ (n : Int) + 1 := by omega
  have hb4 : ¬ (c = i) := by omega
  have hb5 : ¬ (G = i) := by omega
  have HW := hid hW0
  clear h hv h0 hz ht hcm hD hT hone hinfo j1 j2 j3 j4 hold hG hROW hRs hRt g0 b0 hc1 hc2 hRl hE l1 hL hBg hW0 hk hik
  go_enter Tryz.func132, Tryz.ntmps132
  go_wp2_with (first
    | (at_builtin; refine Lib.wpList_append_run _ rfl _ _ _ _ rfl _ _ rfl rfl _ _ (hrz _) ?_)
    | (at_builtin; refine wpList_copy_at _ rfl _ _ 54 54 rfl _ _ rfl rfl (hcpA _ rfl _ _) ?_))
  refine wp_region_held_drew (S := fun _ => True) (by kernel_rfl) trivial (fun hHeld => ?_)
  refine wpAnyH_take (i := 0) (v := ?_) rfl (by kernel_rfl) (by kernel_rfl) (by kernel_rfl) (fun _ _ _ h => h) (Or.inl ⟨by rfl, ?_⟩) (by assumption) ?_
  case refine_2 => (intro w hSw; (try dsimp only at hSw); go_simp; (try with_reducible rfl))
  (try simp only [Act.put, List.getElem_toArray, List.getElem_cons_succ, List.getElem_cons_zero, List.setIfInBounds_toArray, List.set_cons_zero, List.set_cons_succ])
  refine wpAnyH_take (i := 1) (v := ?_) rfl (by kernel_rfl) (by kernel_rfl) (by kernel_rfl) (fun _ _ _ h => h) (Or.inl ⟨by rfl, ?_⟩) (by assumption) ?_
  case refine_2 => (intro w hSw; (try dsimp only at hSw); go_simp; (try with_reducible rfl))
  (try simp only [Act.put, List.getElem_toArray, List.getElem_cons_succ, List.getElem_cons_zero, List.setIfInBounds_toArray, List.set_cons_zero, List.set_cons_succ])
  refine wpAnyH_take (i := 2) (v := ?_) rfl (by kernel_rfl) (by kernel_rfl) (by kernel_rfl) (fun _ _ _ h => h) (Or.inl ⟨by rfl, ?_⟩) (by assumption) ?_
  case refine_2 => (intro w hSw; (try dsimp only at hSw); go_simp; (try with_reducible rfl))
  (try simp only [Act.put, List.getElem_toArray, List.getElem_cons_succ, List.getElem_cons_zero, List.setIfInBounds_toArray, List.set_cons_zero, List.set_cons_succ])
  refine wpAnyH_take (i := 3) (v := ?_) rfl (by kernel_rfl) (by kernel_rfl) (by kernel_rfl) (fun _ _ _ h => h) (Or.inl ⟨by rfl, ?_⟩) (by assumption) ?_
  case refine_2 => (intro w hSw; (try dsimp only at hSw); go_simp; (try with_reducible rfl))
  (try simp only [Act.put, List.getElem_toArray, List.getElem_cons_succ, List.getElem_cons_zero, List.setIfInBounds_toArray, List.set_cons_zero, List.set_cons_succ])
  refine wpAnyH_take (i := 4) (v := ?_) rfl (by kernel_rfl) (by kernel_rfl) (by kernel_rfl) (fun _ _ _ h => h) (Or.inl ⟨by rfl, ?_⟩) (by assumption) ?_
  case refine_2 => (intro w hSw; (try dsimp only at hSw); go_simp; (try with_reducible rfl))
  (try simp only [Act.put, List.getElem_toArray, List.getElem_cons_succ, List.getElem_cons_zero, List.setIfInBounds_toArray, List.set_cons_zero, List.set_cons_succ])
  refine wpAnyH_take (i := 5) (v := ?_) rfl (by kernel_rfl) (by kernel_rfl) (by kernel_rfl) (fun _ _ _ h => h) (Or.inl ⟨by rfl, ?_⟩) (by assumption) ?_
  case refine_2 => (intro w hSw; (try dsimp only at hSw); go_simp; (try with_reducible rfl))
  (try simp only [Act.put, List.getElem_toArray, List.getElem_cons_succ, List.getElem_cons_zero, List.setIfInBounds_toArray, List.set_cons_zero, List.set_cons_succ])
  refine wpAnyH_take (i := 6) (v := ?_) rfl (by kernel_rfl) (by kernel_rfl) (by kernel_rfl) (fun _ _ _ h => h) (Or.inl ⟨by rfl, ?_⟩) (by assumption) ?_
  case refine_2 => (intro w hSw; (try dsimp only at hSw); go_simp; (try with_reducible rfl))
  (try simp only [Act.put, List.getElem_toArray, List.getElem_cons_succ, List.getElem_cons_zero, List.setIfInBounds_toArray, List.set_cons_zero, List.set_cons_succ])
  refine wpAnyH_take (i := 7) (v := ?_) rfl (by kernel_rfl) (by kernel_rfl) (by kernel_rfl) (fun _ _ _ h => h) (Or.inl ⟨by rfl, ?_⟩) (by assumption) ?_
  case refine_2 => (intro w hSw; (try dsimp only at hSw); go_simp; (try with_reducible rfl))
  (try simp only [Act.put, List.getElem_toArray, List.getElem_cons_succ, List.getElem_cons_zero, List.setIfInBounds_toArray, List.set_cons_zero, List.set_cons_succ])
  refine wpAnyH_ready (rs := [8]) (by kernel_rfl) (by simp) ?_
  refine AllReadyH.cons rfl (fun K hK => ?_) AllReadyH.nil
  refine st_copy rfl _ _ 54 rfl _ _ rfl rfl (hcpB (W0.setRow w.heap.size cur1.toArray).drew rfl _ _ _) ?_
  (try simp only [Act.put, List.getElem_toArray, List.getElem_cons_succ, List.getElem_cons_zero, List.setIfInBounds_toArray, List.set_cons_zero, List.set_cons_succ])
  refine hK.out _ _ trivial (fun hHeld => ?_)
  clear hK K
  refine wpAnyH_done (by kernel_rfl) ?_ _
  clear hHeld
  go_wp2_with fail
  go_ret
  exact ⟨_, _, rfl, HF.out _ rfl rfl rfl rfl⟩

/- slices.Insert(s, i, o). -/
theorem insert_any {w : World} {B : Nat} {x : Option Addr} {n c vb i : Nat} {L : List Osd} {o : Osd} (h : Own w B 35 8 enO (.slice x n c) L) (hv : OBox w vb o) (hne : (Value.slice x n c).ownBlock ≠ some vb) (hB : B ≤ w.heap.size) (hi : i ≤ n) (hn : n < 64) :
    Calls Tryz.prog 132 #[.slice x n c, .int .i64 (i : Int), .slice (some ⟨vb, 0, none⟩) 1 1] w fun e w' => ∃ x' c', e = .returned (.slice x' (n + 1) c') ∧ Hid (Inserted w w' B (.slice x n c) (.slice x' (n + 1) c') (L.take i ++ o :: L.drop i)) := by
  obtain ⟨x0, c0, e0, h1, h2, h3⟩ := h.form
  injection e0 with e1 e2 e3
  subst e1 e3
  by_cases hin : i = n
  · subst hin
    refine (insert_end h hv hB hn).mono fun e w' ⟨x', c', h4, h5⟩ => ⟨x', c', h4, ?_⟩
    rw [e2, List.take_length, List.drop_length, ← e2]
    exact h5
  · cases x with
    | none => have := h2 rfl; omega
    | some ad =>
      obtain ⟨g, rfl, hBg, hgl⟩ := h3 ad rfl
      by_cases hr : n + 1 ≤ c
      · exact (insert_room h hv (fun e => hne (by rw [e]; rfl)) (by omega) hn hr).mono fun e w' ⟨h4, h5⟩ => ⟨_, _, h4, h5⟩
      · exact insert_grow h hv hB (by omega) hn (by omega)

end Go.Proofs.YtdlajpjigddbhaaGreat.At

/-
  Package atlas: add.
  Conditions: the map is one's own.
-/
namespace Go.Proofs.YtdlajpjigddbhaaGreat.At
open Go.RowKit By Fl
set_option linter.unusedVariables false
set_option linter.unusedSimpArgs false
set_option maxRecDepth 100000

def inAt (o : Osd) (L : List Osd) : Nat := match L.findIdx? (overId o.id) with | some k => k | none => L.length

theorem ins_at (o : Osd) (L : List Osd) : ins o L = L.take (inAt o L) ++ o :: L.drop (inAt o L) := by
  unfold ins inAt
  cases h : L.findIdx? (overId o.id) with
  | none => simp
  | some k => rfl

theorem inAt_le (o : Osd) (L : List Osd) : inAt o L ≤ L.length := by
  unfold inAt
  cases h : L.findIdx? (overId o.id) with
  | none => exact Nat.le_refl _
  | some k =>
    obtain ⟨a, ha, _⟩ := idx_some h
    exact Nat.le_of_lt (List.getElem?_eq_some_iff.1 ha).1

theorem idx_inAt (o : Osd) (L : List Osd) : idx (overId o.id) L = (inAt o L : Int) ∨ (idx (overId o.id) L = -1 ∧ inAt o L = L.length) := by
  unfold idx inAt
  cases h : L.findIdx? (overId o.id) with
  | none => exact .inr ⟨rfl, rfl⟩
  | some k => exact .inl rfl

theorem added {w w4 w5 : World} {B p n c c' at_ : Nat} {x x' : Option Addr} {m : Mp} {o : Osd} {L : List Osd} (h : MapAt w B p m (.slice x n c)) (b4 : Below w.heap.size w w4) (H5 : Inserted w4 w5 B (.slice x n c) (.slice x' (n + 1) c') (m.osds.take at_ ++ o :: m.osds.drop at_))
    (hp5 : w5.heap[p]? = some (.cells #[.int .i64 m.ep, .int .i64 m.pool.k, .int .i64 m.pool.m, .int .i64 m.pool.pgs, .int .i64 m.pool.dom, .slice x n c] 56 (0, 0))) (hn : n < 64) (hL : L = m.osds.take at_ ++ o :: m.osds.drop at_) (hl : n = m.osds.length) :
    Turned w (w5.setCell ⟨p, 5, none⟩ (.slice x' (n + 1) c')) B p m (.slice x n c) L := by
  obtain ⟨h1, h2, h3⟩ := H5
  subst hL
  have hpl := h.lt
  have hne : ∀ g, (Value.slice x' (n + 1) c').ownBlock = some g → g ≠ p := fun g hg e => by
    rcases h3 g hg with q | q
    · exact h.apart q e
    · have := b4.size; omega
  refine ⟨.slice x' (n + 1) c', ⟨heap_set hp5 _, h1.turns (turns_put (Turns.refl _ _) _ _) hne, ?_⟩, ?_, fun g hg => (h3 g hg).imp (fun h => h) (fun h => by have := b4.size; omega)⟩
  · show (m.osds.take at_ ++ o :: m.osds.drop at_).length ≤ 64
    have := List.length_take_le at_ m.osds
    simp
    omega
  · exact (((Turns.of_below b4).trans h2).weak (fun k hk => .inr hk)).setCell (p := ⟨p, 5, none⟩) (.inl (.inl rfl)) _

set_option maxHeartbeats 3200000 in
theorem add_any {w : World} {B p : Nat} {m : Mp} {R : Value} (o : Osd) (h : MapAt w B p m R) (hB : B ≤ w.heap.size) :
    Calls Tryz.prog 97 #[.pointer (some ⟨p, 0, none⟩), vO o] w fun e w' => e = .returned (.int .i64 (addP m.osds o).1) ∧ Hid (Turned w w' B p m R (addP m.osds o).2) := by
  have HM := hid h
  obtain ⟨x, c, rfl, hnc, hnil, hx⟩ := h.own.form
  have p5 : w.cell? ⟨p, 5, none⟩ = some (.slice x m.osds.length c) := cell_heap h.blk (j := 5) rfl
  obtain ⟨n, hn⟩ : ∃ n, n = m.osds.length := ⟨_, rfl⟩
  rw [← hn] at p5 hnc hnil HM ⊢
  have HN := hid hn
  have hn64 : n ≤ 64 := by rw [hn]; exact h.small
  have hpl := h.lt
  have HS : Hid (Os w x n c m.osds) := own_os HM.out.own (by have := h.small; omega)
  have b0 := al w (.cells #[.int .i64 o.id, .bool o.up, .bool o.inn, .int .i64 o.wt, .int .i64 o.life, .int .i64 o.boot, .int .i64 o.host, .int .i64 o.rack] 35)
  have HO := hid (rfl : o = o)
  obtain ⟨w0, hw0⟩ : ∃ w0, w0 = w.alloc (.cells #[.int .i64 o.id, .bool o.up, .bool o.inn, .int .i64 o.wt, .int .i64 o.life, .int .i64 o.boot, .int .i64 o.host, .int .i64 o.rack] 35) := ⟨_, rfl⟩
  have ob : OBox w0 w.heap.size o := by rw [hw0]; exact heap_alloc_new _ _
  rw [← hw0] at b0
  have HW := hid hw0
  have HBx := hid ob
  have B0 := hid b0
  obtain ⟨q0, q1, q2, q3, q4, q5, q6, q7⟩ := ob.at
  have r5 := keep b0 p5
  have r0 := After.cell q0
  have s5 := After.cell r5
  have hSeat := fun (q : After w0) => seat_any o.id (HS.out.below (on B0.out q.h))
  clear h hn hw0 ob b0 hx
  haveI := After.ne w0
  cases hi : m.osds.findIdx? (isId o.id) with
  | some k =>
    have hk0 : (0 : Int) ≤ (k : Int) := by omega
    rw [show idx (isId o.id) m.osds = (k : Int) by unfold idx; rw [hi]] at hSeat
    have HI : Hid (addP m.osds o = (6, m.osds)) := by unfold addP; rw [hi]; rfl
    obtain ⟨i0, i1, i2, i3, i4, i5, i6, i7⟩ := o
    unfold vO
    dsimp only at r0 hSeat HW ⊢
    clear hi
    go_enter Tryz.func97, Tryz.ntmps97
    go_wp2_with fail
    rw [← HW.out]
    refine wp_region_after (by kernel_rfl) (by kernel_rfl) ?_
    repeat (go_big_quiet_step ((go_at_call 128; refine Calls.after_of (hSeat _))))
    refine wpQuiet_nil ?_
    rintro _ ⟨q, rfl⟩
    go_wp2_with fail
    go_ret
    rw [HI.out]
    exact ⟨rfl, Turned.not HM.out (on B0.out q.h)⟩
  | none =>
    rw [show idx (isId o.id) m.osds = -1 by unfold idx; rw [hi]] at hSeat
    by_cases h64 : 64 ≤ n
    · have HI : Hid (addP m.osds o = (2, m.osds)) := hid (by unfold addP; rw [hi, if_neg (by simp), if_pos (by rw [← HN.out]; exact h64)])
      have h64i : (64 : Int) ≤ (n : Int) := by omega
      obtain ⟨i0, i1, i2, i3, i4, i5, i6, i7⟩ := o
      unfold vO
      dsimp only at r0 hSeat HW ⊢
      clear hi
      go_enter Tryz.func97, Tryz.ntmps97
      go_wp2_with fail
      rw [← HW.out]
      refine wp_region_after (by kernel_rfl) (by kernel_rfl) ?_
      repeat (go_big_quiet_step ((go_at_call 128; refine Calls.after_of (hSeat _))))
      refine wpQuiet_nil ?_
      rintro _ ⟨q, rfl⟩
      go_wp2_with fail
      go_ret
      rw [HI.out]
      exact ⟨rfl, Turned.not HM.out (on B0.out q.h)⟩
    · have h64i : (n : Int) < 64 := by omega
      have hMv := fun (q : After w0) (q2 : After q.W) => moved_any o (HS.out.below (on (on B0.out q.h) q2.h))
      obtain ⟨t, ht⟩ : ∃ t, t = movedB m.osds o := ⟨_, rfl⟩
      rw [← ht] at hMv
      have HI : Hid (addP m.osds o = if t then (1, m.osds) else (0, ins o m.osds)) := hid (by unfold addP; rw [hi, if_neg (by simp), if_neg (by rw [← HN.out]; exact h64), ht])
      have HE : Hid (∀ W, Below w.heap.size w W → W.cell? ⟨w.heap.size, 0, none⟩ = some (.int .i64 o.id) → Calls Tryz.prog 130 #[.slice x n c, .func (.func 131) #[] #[.pointer (some ⟨w.heap.size, 0, none⟩)]] W fun e w' => e = .returned (.int .i64 (idx (overId o.id) m.osds)) ∧ Below W.heap.size W w') := fun W hW hc =>
        index_any (overId o.id) 131 _ (enters_of Tryz.func131 (by kernel_rfl) rfl) (HS.out.below hW) (add_clos W w.heap.size o.id hc)
      have hAt := idx_inAt o m.osds
      have hAl := inAt_le o m.osds
      rw [← HN.out] at hAt hAl
      have HA : Hid (ins o m.osds = m.osds.take (inAt o m.osds) ++ o :: m.osds.drop (inAt o m.osds)) := ins_at o m.osds
      generalize inAt o m.osds = at_ at *
      generalize idx (overId o.id) m.osds = ix at *
      clear hi h64 ht q0 q1 q2 q3 q4 q5 q6 q7
      have HOo : Hid (∃ o', o' = o) := ⟨o, rfl⟩
      obtain ⟨oo, hoo⟩ : ∃ o', o' = o := ⟨o, rfl⟩
      have HQ := hid hoo
      rw [← hoo] at HI HA HBx HE
      have hMv2 := hMv
      clear hoo
      obtain ⟨i0, i1, i2, i3, i4, i5, i6, i7⟩ := o
      unfold vO at hMv ⊢
      dsimp only at r0 hSeat HW hMv ⊢
      clear hMv2
      go_enter Tryz.func97, Tryz.ntmps97
      go_wp2_with fail
      rw [← HW.out]
      refine wp_region_after (by kernel_rfl) (by kernel_rfl) ?_
      repeat (go_big_quiet_step ((go_at_call 128; refine Calls.after_of (hSeat _))))
      refine wpQuiet_nil ?_
      rintro _ ⟨q, rfl⟩
      have hMq := hMv q
      have u5 := s5 q
      have B1 : Hid (Below w.heap.size w q.W) := on B0.out q.h
      have ob1 : OBox q.W w.heap.size oo := (q.h.block _ HBx.out.lt).trans HBx.out
      have HB1 := hid ob1
      obtain ⟨v0, v1, v2, v3, v4, v5, v6, v7⟩ := ob1.at
      rw [HQ.out] at v0 v1 v2 v3 v4 v5 v6 v7
      dsimp only at v0 v1 v2 v3 v4 v5 v6 v7
      clear hMv hSeat s5 r0 r5 ob1
      have hq1 := q.h.size
      generalize q.W = W1 at *
      haveI := After.ne W1
      have a0 := After.cell v0
      have a1 := After.cell v1
      have a2 := After.cell v2
      have a3 := After.cell v3
      have a4 := After.cell v4
      have a5 := After.cell v5
      have a6 := After.cell v6
      have a7 := After.cell v7
      have z5 := After.cell u5
      go_wp2_with fail
      refine wp_region_after (by kernel_rfl) (by kernel_rfl) ?_
      cases t with
      | true =>
        repeat (go_big_quiet_step ((go_at_call 129; refine Calls.after_of (hMq _))))
        refine wpQuiet_nil ?_
        rintro _ ⟨q2, rfl⟩
        go_wp2_with fail
        go_ret
        rw [← HQ.out, HI.out]
        exact ⟨rfl, Turned.not HM.out (on B1.out q2.h)⟩
      | false =>
        repeat (go_big_quiet_step ((go_at_call 129; refine Calls.after_of (hMq _))))
        refine wpQuiet_nil ?_
        rintro _ ⟨q2, rfl⟩
        have hIx := HE.out q2.W (on B1.out q2.h) (by rw [HQ.out]; exact keep q2.h v0)
        have y5 := keep q2.h u5
        have B2 : Hid (Below w.heap.size w q2.W) := on B1.out q2.h
        have ob2 : OBox q2.W w.heap.size oo := (q2.h.block _ HB1.out.lt).trans HB1.out
        have HB2 := hid ob2
        clear hMq a0 a1 a2 a3 a4 a5 a6 a7 z5 v0 v1 v2 v3 v4 v5 v6 v7 u5 ob2
        generalize q2.W = W2 at *
        rcases hAt with hA | ⟨hA, hA2⟩
        · subst hA
          have hng : ¬ (at_ : Int) < 0 := by omega
          go_wp2_with (go_at_call 130; refine hIx.mono ?_; rintro e w3 ⟨rfl, hb3⟩; clear hIx; have x5 := keep hb3 y5)
          have B3 : Below w.heap.size w w3.drew := (on B2.out hb3).drew
          have ob3 : OBox w3.drew w.heap.size oo := (hb3.block _ HB2.out.lt).trans HB2.out
          have x5 : w3.drew.cell? ⟨p, 5, none⟩ = some (.slice x n c) := keep hb3.drew y5
          have HB3 := hid ob3
          generalize hwD : w3.drew = wD at *
          have HWD := hid hwD
          obtain ⟨v0, v1, v2, v3, v4, v5, v6, v7⟩ := ob3.at
          rw [HQ.out] at v0 v1 v2 v3 v4 v5 v6 v7
          dsimp only at v0 v1 v2 v3 v4 v5 v6 v7
          have oN : OBox (wD.alloc (.cells #[.int .i64 i0, .bool i1, .bool i2, .int .i64 i3, .int .i64 i4, .int .i64 i5, .int .i64 i6, .int .i64 i7] 35)) wD.heap.size oo := by rw [HQ.out]; exact heap_alloc_new _ _
          have bN := al wD (.cells #[.int .i64 i0, .bool i1, .bool i2, .int .i64 i3, .int .i64 i4, .int .i64 i5, .int .i64 i6, .int .i64 i7] 35)
          have hMN := HM.out.below (on B3 bN)
          have hrow : ∀ g, (Value.slice x n c).ownBlock = some g → g < w.heap.size ∧ g ≠ p := fun g hg => ⟨(World.ownsRow.lt HM.out.own g hg).2, HM.out.apart hg⟩
          have HR := hid hrow
          have hI := insert_any (i := at_) hMN.own oN (fun e => by have := (hrow _ e).1; have := B3.size; omega) (by have := (on B3 bN).size; omega) (by omega) (by omega)
          have e5 := keep bN x5
          have e0 := keep bN v0
          have e1 := keep bN v1
          have e2 := keep bN v2
          have e3 := keep bN v3
          have e4 := keep bN v4
          have e5' := keep bN v5
          have e6 := keep bN v6
          have e7 := keep bN v7
          have HMN := hid hMN
          have HBN := hid (on B3 bN)
          clear oN hMN bN hrow ob3 B3 hb3 y5 hwD
          refine wp_region_last (fun v => v.cell? ⟨p, 5, none⟩ = some (.slice x n c) ∧ v.cell? ⟨w.heap.size, 0, none⟩ = some (.int .i64 i0) ∧ v.cell? ⟨w.heap.size, 1, none⟩ = some (.bool i1) ∧ v.cell? ⟨w.heap.size, 2, none⟩ = some (.bool i2) ∧ v.cell? ⟨w.heap.size, 3, none⟩ = some (.int .i64 i3) ∧ v.cell? ⟨w.heap.size, 4, none⟩ = some (.int .i64 i4) ∧ v.cell? ⟨w.heap.size, 5, none⟩ = some (.int .i64 i5) ∧ v.cell? ⟨w.heap.size, 6, none⟩ = some (.int .i64 i6) ∧ v.cell? ⟨w.heap.size, 7, none⟩ = some (.int .i64 i7)) 11 (by kernel_rfl) (by rw [HWD.out]; exact ⟨x5, v0, v1, v2, v3, v4, v5, v6, v7⟩) (fun hS => ?_)
          rw [HWD.out] at hS ⊢
          clear x5 v0 v1 v2 v3 v4 v5 v6 v7
          refine wpAnyL_take (i := 0) (v := ?_) rfl (by kernel_rfl) (by kernel_rfl) (by kernel_rfl) (by kernel_rfl) (fun _ _ _ h => h) hS (Or.inl ⟨by rfl, ?_⟩) ?_
          case refine_2 => (intro w hSw; (try dsimp only at hSw); go_simp; (try with_reducible rfl))
          (try simp only [Act.put, List.setIfInBounds_toArray, List.set_cons_zero, List.set_cons_succ])
          refine wpAnyL_take (i := 1) (v := ?_) rfl (by kernel_rfl) (by kernel_rfl) (by kernel_rfl) (by kernel_rfl) (fun _ _ _ h => h) hS (Or.inl ⟨by rfl, ?_⟩) ?_
          case refine_2 => (intro w hSw; (try dsimp only at hSw); go_simp; (try with_reducible rfl))
          (try simp only [Act.put, List.setIfInBounds_toArray, List.set_cons_zero, List.set_cons_succ])
          refine wpAnyL_take (i := 2) (v := ?_) rfl (by kernel_rfl) (by kernel_rfl) (by kernel_rfl) (by kernel_rfl) (fun _ _ _ h => h) hS (Or.inl ⟨by rfl, ?_⟩) ?_
          case refine_2 => (intro w hSw; (try dsimp only at hSw); go_simp; (try with_reducible rfl))
          (try simp only [Act.put, List.setIfInBounds_toArray, List.set_cons_zero, List.set_cons_succ])
          refine wpAnyL_take (i := 3) (v := ?_) rfl (by kernel_rfl) (by kernel_rfl) (by kernel_rfl) (by kernel_rfl) (fun _ _ _ h => h) hS (Or.inl ⟨by rfl, ?_⟩) ?_
          case refine_2 => (intro w hSw; (try dsimp only at hSw); go_simp; (try with_reducible rfl))
          (try simp only [Act.put, List.setIfInBounds_toArray, List.set_cons_zero, List.set_cons_succ])
          refine wpAnyL_take (i := 4) (v := ?_) rfl (by kernel_rfl) (by kernel_rfl) (by kernel_rfl) (by kernel_rfl) (fun _ _ _ h => h) hS (Or.inl ⟨by rfl, ?_⟩) ?_
          case refine_2 => (intro w hSw; (try dsimp only at hSw); go_simp; (try with_reducible rfl))
          (try simp only [Act.put, List.setIfInBounds_toArray, List.set_cons_zero, List.set_cons_succ])
          refine wpAnyL_take (i := 5) (v := ?_) rfl (by kernel_rfl) (by kernel_rfl) (by kernel_rfl) (by kernel_rfl) (fun _ _ _ h => h) hS (Or.inl ⟨by rfl, ?_⟩) ?_
          case refine_2 => (intro w hSw; (try dsimp only at hSw); go_simp; (try with_reducible rfl))
          (try simp only [Act.put, List.setIfInBounds_toArray, List.set_cons_zero, List.set_cons_succ])
          refine wpAnyL_take (i := 6) (v := ?_) rfl (by kernel_rfl) (by kernel_rfl) (by kernel_rfl) (by kernel_rfl) (fun _ _ _ h => h) hS (Or.inl ⟨by rfl, ?_⟩) ?_
          case refine_2 => (intro w hSw; (try dsimp only at hSw); go_simp; (try with_reducible rfl))
          (try simp only [Act.put, List.setIfInBounds_toArray, List.set_cons_zero, List.set_cons_succ])
          refine wpAnyL_one (i := 7) (by kernel_rfl) rfl (fun K hK => ?_)
          go_simp
          refine hK.out _ _ (fun _ => ⟨e5, e0, e1, e2, e3, e4, e5', e6, e7⟩) ?_
          clear hK K
          refine wpAnyL_one (i := 8) (by kernel_rfl) rfl (fun K hK => ?_)
          go_simp
          refine hI.mono ?_
          rintro e w5 ⟨x', c', rfl, H5⟩
          have T5 := H5.out.2.1
          have hK : ∀ (b q : Nat) (v : Value), (b = p ∨ b = w.heap.size) → (wD.alloc (.cells #[.int .i64 i0, .bool i1, .bool i2, .int .i64 i3, .int .i64 i4, .int .i64 i5, .int .i64 i6, .int .i64 i7] 35)).cell? ⟨b, q, none⟩ = some v → w5.cell? ⟨b, q, none⟩ = some v := fun b q v hb hv =>
            (World.cell?_of_block (a := ⟨b, q, none⟩) (T5.block b (cell_lt' hv) (fun e => by have := HR.out b e; omega))).trans hv
          have d5 := hK _ _ _ (.inl rfl) e5
          have d0 := hK _ _ _ (.inr rfl) e0
          have d1 := hK _ _ _ (.inr rfl) e1
          have d2 := hK _ _ _ (.inr rfl) e2
          have d3 := hK _ _ _ (.inr rfl) e3
          have d4 := hK _ _ _ (.inr rfl) e4
          have d5' := hK _ _ _ (.inr rfl) e5'
          have d6 := hK _ _ _ (.inr rfl) e6
          have d7 := hK _ _ _ (.inr rfl) e7
          have hp5 : w5.heap[p]? = some (.cells #[.int .i64 m.ep, .int .i64 m.pool.k, .int .i64 m.pool.m, .int .i64 m.pool.pgs, .int .i64 m.pool.dom, .slice x n c] 56 (0, 0)) := (T5.block p HMN.out.lt (fun e => (HR.out p e).2 rfl)).trans HMN.out.blk
          have HP5 := hid hp5
          have f5 := fr_heap hp5 5
          clear hK T5 hp5
          refine hK.out _ _ (fun _ => ⟨d5, d0, d1, d2, d3, d4, d5', d6, d7⟩) ?_
          clear hK K
          refine wpAnyL_one (i := 9) (by kernel_rfl) rfl (fun K hK => ?_)
          go_simp
          refine hK.out _ _ (fun _ => ⟨d5, d0, d1, d2, d3, d4, d5', d6, d7⟩) ?_
          clear hK K
          refine wpAnyL_one (i := 10) (by kernel_rfl) rfl (fun K hK => ?_)
          go_simp
          refine hK.out _ _ (fun _ => ⟨d5, d0, d1, d2, d3, d4, d5', d6, d7⟩) ?_
          clear hK K
          refine wpAnyL_one (i := 11) (by kernel_rfl) rfl (fun K hK => ?_)
          go_simp
          refine hK.out _ _ (fun h => absurd rfl h) ?_
          clear hK K
          refine wpAnyL_done (by kernel_rfl) ?_ _
          go_wp2_with fail
          go_ret
          rw [← HQ.out, HI.out]
          exact ⟨rfl, added HM.out HBN.out H5.out HP5.out (by omega) HA.out HN.out⟩
        · subst hA
          subst hA2
          go_wp2_with (go_at_call 130; refine hIx.mono ?_; rintro e w3 ⟨rfl, hb3⟩; clear hIx; have x5 := keep hb3 y5)
          have B3 : Below w.heap.size w w3.drew := (on B2.out hb3).drew
          have ob3 : OBox w3.drew w.heap.size oo := (hb3.block _ HB2.out.lt).trans HB2.out
          have x5 : w3.drew.cell? ⟨p, 5, none⟩ = some (.slice x at_ c) := keep hb3.drew y5
          have HB3 := hid ob3
          generalize hwD : w3.drew = wD at *
          have HWD := hid hwD
          obtain ⟨v0, v1, v2, v3, v4, v5, v6, v7⟩ := ob3.at
          rw [HQ.out] at v0 v1 v2 v3 v4 v5 v6 v7
          dsimp only at v0 v1 v2 v3 v4 v5 v6 v7
          have oN : OBox (wD.alloc (.cells #[.int .i64 i0, .bool i1, .bool i2, .int .i64 i3, .int .i64 i4, .int .i64 i5, .int .i64 i6, .int .i64 i7] 35)) wD.heap.size oo := by rw [HQ.out]; exact heap_alloc_new _ _
          have bN := al wD (.cells #[.int .i64 i0, .bool i1, .bool i2, .int .i64 i3, .int .i64 i4, .int .i64 i5, .int .i64 i6, .int .i64 i7] 35)
          have hMN := HM.out.below (on B3 bN)
          have hrow : ∀ g, (Value.slice x at_ c).ownBlock = some g → g < w.heap.size ∧ g ≠ p := fun g hg => ⟨(World.ownsRow.lt HM.out.own g hg).2, HM.out.apart hg⟩
          have HR := hid hrow
          have hI := insert_any (i := at_) hMN.own oN (fun e => by have := (hrow _ e).1; have := B3.size; omega) (by have := (on B3 bN).size; omega) (by omega) (by omega)
          have e5 := keep bN x5
          have e0 := keep bN v0
          have e1 := keep bN v1
          have e2 := keep bN v2
          have e3 := keep bN v3
          have e4 := keep bN v4
          have e5' := keep bN v5
          have e6 := keep bN v6
          have e7 := keep bN v7
          have HMN := hid hMN
          have HBN := hid (on B3 bN)
          clear oN hMN bN hrow ob3 B3 hb3 y5 hwD
          refine wp_region_last (fun v => v.cell? ⟨p, 5, none⟩ = some (.slice x at_ c) ∧ v.cell? ⟨w.heap.size, 0, none⟩ = some (.int .i64 i0) ∧ v.cell? ⟨w.heap.size, 1, none⟩ = some (.bool i1) ∧ v.cell? ⟨w.heap.size, 2, none⟩ = some (.bool i2) ∧ v.cell? ⟨w.heap.size, 3, none⟩ = some (.int .i64 i3) ∧ v.cell? ⟨w.heap.size, 4, none⟩ = some (.int .i64 i4) ∧ v.cell? ⟨w.heap.size, 5, none⟩ = some (.int .i64 i5) ∧ v.cell? ⟨w.heap.size, 6, none⟩ = some (.int .i64 i6) ∧ v.cell? ⟨w.heap.size, 7, none⟩ = some (.int .i64 i7)) 11 (by kernel_rfl) (by rw [HWD.out]; exact ⟨x5, v0, v1, v2, v3, v4, v5, v6, v7⟩) (fun hS => ?_)
          rw [HWD.out] at hS ⊢
          clear x5 v0 v1 v2 v3 v4 v5 v6 v7
          refine wpAnyL_take (i := 0) (v := ?_) rfl (by kernel_rfl) (by kernel_rfl) (by kernel_rfl) (by kernel_rfl) (fun _ _ _ h => h) hS (Or.inl ⟨by rfl, ?_⟩) ?_
          case refine_2 => (intro w hSw; (try dsimp only at hSw); go_simp; (try with_reducible rfl))
          (try simp only [Act.put, List.setIfInBounds_toArray, List.set_cons_zero, List.set_cons_succ])
          refine wpAnyL_take (i := 1) (v := ?_) rfl (by kernel_rfl) (by kernel_rfl) (by kernel_rfl) (by kernel_rfl) (fun _ _ _ h => h) hS (Or.inl ⟨by rfl, ?_⟩) ?_
          case refine_2 => (intro w hSw; (try dsimp only at hSw); go_simp; (try with_reducible rfl))
          (try simp only [Act.put, List.setIfInBounds_toArray, List.set_cons_zero, List.set_cons_succ])
          refine wpAnyL_take (i := 2) (v := ?_) rfl (by kernel_rfl) (by kernel_rfl) (by kernel_rfl) (by kernel_rfl) (fun _ _ _ h => h) hS (Or.inl ⟨by rfl, ?_⟩) ?_
          case refine_2 => (intro w hSw; (try dsimp only at hSw); go_simp; (try with_reducible rfl))
          (try simp only [Act.put, List.setIfInBounds_toArray, List.set_cons_zero, List.set_cons_succ])
          refine wpAnyL_take (i := 3) (v := ?_) rfl (by kernel_rfl) (by kernel_rfl) (by kernel_rfl) (by kernel_rfl) (fun _ _ _ h => h) hS (Or.inl ⟨by rfl, ?_⟩) ?_
          case refine_2 => (intro w hSw; (try dsimp only at hSw); go_simp; (try with_reducible rfl))
          (try simp only [Act.put, List.setIfInBounds_toArray, List.set_cons_zero, List.set_cons_succ])
          refine wpAnyL_take (i := 4) (v := ?_) rfl (by kernel_rfl) (by kernel_rfl) (by kernel_rfl) (by kernel_rfl) (fun _ _ _ h => h) hS (Or.inl ⟨by rfl, ?_⟩) ?_
          case refine_2 => (intro w hSw; (try dsimp only at hSw); go_simp; (try with_reducible rfl))
          (try simp only [Act.put, List.setIfInBounds_toArray, List.set_cons_zero, List.set_cons_succ])
          refine wpAnyL_take (i := 5) (v := ?_) rfl (by kernel_rfl) (by kernel_rfl) (by kernel_rfl) (by kernel_rfl) (fun _ _ _ h => h) hS (Or.inl ⟨by rfl, ?_⟩) ?_
          case refine_2 => (intro w hSw; (try dsimp only at hSw); go_simp; (try with_reducible rfl))
          (try simp only [Act.put, List.setIfInBounds_toArray, List.set_cons_zero, List.set_cons_succ])
          refine wpAnyL_take (i := 6) (v := ?_) rfl (by kernel_rfl) (by kernel_rfl) (by kernel_rfl) (by kernel_rfl) (fun _ _ _ h => h) hS (Or.inl ⟨by rfl, ?_⟩) ?_
          case refine_2 => (intro w hSw; (try dsimp only at hSw); go_simp; (try with_reducible rfl))
          (try simp only [Act.put, List.setIfInBounds_toArray, List.set_cons_zero, List.set_cons_succ])
          refine wpAnyL_one (i := 7) (by kernel_rfl) rfl (fun K hK => ?_)
          go_simp
          refine hK.out _ _ (fun _ => ⟨e5, e0, e1, e2, e3, e4, e5', e6, e7⟩) ?_
          clear hK K
          refine wpAnyL_one (i := 8) (by kernel_rfl) rfl (fun K hK => ?_)
          go_simp
          refine hI.mono ?_
          rintro e w5 ⟨x', c', rfl, H5⟩
          have T5 := H5.out.2.1
          have hK : ∀ (b q : Nat) (v : Value), (b = p ∨ b = w.heap.size) → (wD.alloc (.cells #[.int .i64 i0, .bool i1, .bool i2, .int .i64 i3, .int .i64 i4, .int .i64 i5, .int .i64 i6, .int .i64 i7] 35)).cell? ⟨b, q, none⟩ = some v → w5.cell? ⟨b, q, none⟩ = some v := fun b q v hb hv =>
            (World.cell?_of_block (a := ⟨b, q, none⟩) (T5.block b (cell_lt' hv) (fun e => by have := HR.out b e; omega))).trans hv
          have d5 := hK _ _ _ (.inl rfl) e5
          have d0 := hK _ _ _ (.inr rfl) e0
          have d1 := hK _ _ _ (.inr rfl) e1
          have d2 := hK _ _ _ (.inr rfl) e2
          have d3 := hK _ _ _ (.inr rfl) e3
          have d4 := hK _ _ _ (.inr rfl) e4
          have d5' := hK _ _ _ (.inr rfl) e5'
          have d6 := hK _ _ _ (.inr rfl) e6
          have d7 := hK _ _ _ (.inr rfl) e7
          have hp5 : w5.heap[p]? = some (.cells #[.int .i64 m.ep, .int .i64 m.pool.k, .int .i64 m.pool.m, .int .i64 m.pool.pgs, .int .i64 m.pool.dom, .slice x at_ c] 56 (0, 0)) := (T5.block p HMN.out.lt (fun e => (HR.out p e).2 rfl)).trans HMN.out.blk
          have HP5 := hid hp5
          have f5 := fr_heap hp5 5
          clear hK T5 hp5
          refine hK.out _ _ (fun _ => ⟨d5, d0, d1, d2, d3, d4, d5', d6, d7⟩) ?_
          clear hK K
          refine wpAnyL_one (i := 9) (by kernel_rfl) rfl (fun K hK => ?_)
          go_simp
          refine hK.out _ _ (fun _ => ⟨d5, d0, d1, d2, d3, d4, d5', d6, d7⟩) ?_
          clear hK K
          refine wpAnyL_one (i := 10) (by kernel_rfl) rfl (fun K hK => ?_)
          go_simp
          refine hK.out _ _ (fun _ => ⟨d5, d0, d1, d2, d3, d4, d5', d6, d7⟩) ?_
          clear hK K
          refine wpAnyL_one (i := 11) (by kernel_rfl) rfl (fun K hK => ?_)
          go_simp
          refine hK.out _ _ (fun h => absurd rfl h) ?_
          clear hK K
          refine wpAnyL_done (by kernel_rfl) ?_ _
          go_wp2_with fail
          go_ret
          rw [← HQ.out, HI.out]
          exact ⟨rfl, added HM.out HBN.out H5.out HP5.out (by omega) HA.out HN.out⟩

end Go.Proofs.YtdlajpjigddbhaaGreat.At

/-
  Package atlas: the table of kinds.
  Conditions: none.
-/
namespace Go.Proofs.YtdlajpjigddbhaaGreat.At
open Go.RowKit By Fl
set_option linter.unusedVariables false
set_option linter.unusedSimpArgs false
set_option maxRecDepth 100000

def fn (k : Nat) : Value := .func (.func k) #[] #[]
def kindsV : Array Value := #[.nilFunc, .nilFunc, fn 96, fn 97, fn 98, fn 99, fn 100, fn 101, fn 100, fn 102, fn 100, fn 103, fn 104, fn 105]

theorem kinds_any (w : World) : Calls Tryz.prog 70 #[] w fun e w' => e = .returned (.agg kindsV) ∧ Below w.heap.size w w' := by
  go_enter Tryz.func70, Tryz.ntmps70
  go_wp2_with fail
  refine bodyPost_ret (v := .agg kindsV) ?_ rfl ?_
  · rw [results_cell1 rfl]
    unfold kindsV fn
    go_simp
  · refine ⟨rfl, ?_⟩
    exact al _ _

end Go.Proofs.YtdlajpjigddbhaaGreat.At
