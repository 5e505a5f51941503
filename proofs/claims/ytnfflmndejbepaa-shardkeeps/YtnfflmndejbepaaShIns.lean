/-
  slices.Insert of one item into a list of one's own.
  Conditions: the list is one's own, and short.
-/
import Derived.Test.YtnfflmndejbepaaJMxOrders
import Derived.Test.YtnfflmndejbepaaShOwn
import Derived.Lib.Overlaps
import Derived.Lib.AppendZerosOnto
import Derived.Laws.NewBlocks
namespace Go.Proofs.Ytnfflmndejbepaa.Sh
set_option linter.unusedSectionVars false
variable [Inhabited DZ]
open Go.RowKit By Fl
set_option linter.unusedVariables false
set_option linter.unusedSimpArgs false
set_option maxRecDepth 100000

theorem run_copy_sz {P : Program} (w : World) (dT sT ty elem : TypeId) (sz g o dLen dCap : Nat) (a : Addr) (sLen sCap k : Nat) (cur : Array Value) (t : TypeId) (cs : List Value)
    (hu : P.underlying dT = some (.slice elem)) (hs : (P.info? elem).map (·.size) = some sz)
    (hg : w.heap[g]? = some (.cells cur t (0, 0))) (hk : Nat.min sLen dLen = k) (hn : cs.length = k * sz)
    (hsrc : ∀ j v, cs[j]? = some v → w.cell? (a.add j) = some v) (hfit : o + cs.length ≤ cur.size) (h1 : ∀ v ∈ cs, v.oneCell' = true) :
    (Builtin.copy_ #[dT, sT] ty #[.slice (some ⟨g, o, none⟩) dLen dCap, .slice (some a) sLen sCap]).run P w =
      .ok (goInt k) (w.setRow g (cur.toList.take o ++ cs ++ cur.toList.drop (o + cs.length)).toArray) := by
  have hl := run_loadCells_list (P := P) w a cs hsrc
  have hst := run_storeCells_at P g o t cs 0 cur w hg (by simpa using hfit) h1
  cases hq : P.info? elem with
  | none => simp [hq] at hs
  | some i =>
    have hi : i.size = sz := by simpa [hq] using hs
    have hk' : min sLen dLen = k := hk
    simp [Builtin.copy_, run_underlying hu, Builtin.lenOf, Builtin.firstCells, sizeOf, typeInfo, hq, hi, hk', ← hn, hl, hst]

theorem wpList_copy_at {P : Program} (w : World) {ops : Array Oper} {rest : List Oper} {o : Oper} {a : Act} {Q : Exit → Act → World → Prop} (hgd : o.guard = none) (d s : Operand) (t t' : TypeId)
    (ho : o.op = .call { callee := .builtin .copy, args := #[d, s], argTypes := #[t, t'] }) (v u : Value) (hd : a.eval d = v) (hs : a.eval s = u) {v' : Value} {w' : World}
    (hr : (Builtin.copy_ #[t, t'] o.type #[v, u]).run P w = .ok v' w') (h : wpList P ops Q rest (a.put o.dst v') w') : wpList P ops Q (o :: rest) a w :=
  wpList_plain hgd fun _ hK => by
    unfold Oper.wp execOp
    simp only [ho, resolve, invoke, builtin, Sem.run_bind, Sem.run_pure, Result.andThen_ok, List.map_toArray, List.map_cons, List.map_nil, hd, hs, hr]
    exact hK _ _ h

/- A copy that comes up alone in a region that draws its order. -/
theorem st_copy {P : Program} {w w' : World} {ops : Array Oper} {o : Oper} {a : Act} {K : Act → World → Prop} {Q : Exit → Act → World → Prop} {v' : Value} (hg : Region.wanted o (yielded ops a.tmps) = true) (s x : Operand) (t : TypeId)
    (ho : o.op = .call { callee := .builtin .copy, args := #[s, x], argTypes := #[t, t] }) (v1 v2 : Value) (hs : a.eval s = v1) (hx : a.eval x = v2) (hr : (Builtin.copy_ #[t, t] o.type #[v1, v2]).run P w = .ok v' w')
    (h : K (a.put o.dst v') w') : if Region.wanted o (yielded ops a.tmps) = true then Oper.wp P o a w K Q else K (a.put o.dst undef) w := by
  rw [if_pos hg]
  unfold Oper.wp execOp
  simp only [ho, resolve, invoke, builtin, Sem.run_bind, Sem.run_pure, Result.andThen_ok, List.map_toArray, List.map_cons, List.map_nil, hs, hx, hr]
  exact h

def IBox (w : World) (a : Nat) (o : IV) : Prop := w.heap[a]? = some (.cells #[.string o.nm, .int .i64 o.ch.sz, .slice o.ch.x o.ch.n o.ch.c, .int .u32 o.ch.sum] 79 (0, 0))
theorem IBox.lt {w : World} {a : Nat} {o : IV} (h : IBox w a o) : a < w.heap.size := (Array.getElem?_eq_some_iff.1 h).1
theorem IBox.turns {G : Nat → Prop} {w w' : World} {a : Nat} {o : IV} (h : IBox w a o) (t : Turns G w w') (hg : ¬ G a) : IBox w' a o := (t.block a h.lt hg).trans h

theorem osz : (Try.prog.info? 79).map (·.size) = some 4 := by kernel_rfl

def spl (cur : List Value) (o : Nat) (cs : List Value) : List Value := cur.take o ++ cs ++ cur.drop (o + cs.length)

theorem spl_len (cur : List Value) (o : Nat) (cs : List Value) (h : o + cs.length ≤ cur.length) : (spl cur o cs).length = cur.length := by
  simp [spl]
  omega

theorem spl_take (cur : List Value) (o : Nat) (cs : List Value) (h : o + cs.length ≤ cur.length) : (spl cur o cs).take (o + cs.length) = cur.take o ++ cs := by
  unfold spl
  rw [List.take_left' (by simp; omega)]

theorem spl_drop (cur : List Value) (o : Nat) (cs : List Value) (h : o + cs.length ≤ cur.length) (k : Nat) (hk : k = o) : (spl cur o cs).drop k = cs ++ cur.drop (o + cs.length) := by
  subst hk
  unfold spl
  rw [List.append_assoc, List.drop_left' (by simp; omega)]

theorem spl_low (cur : List Value) (o : Nat) (cs : List Value) (h : o + cs.length ≤ cur.length) (k : Nat) (hk : k ≤ o) : (spl cur o cs).take k = cur.take k := by
  unfold spl
  rw [List.append_assoc, List.take_append_of_le_length (by simp; omega), List.take_take, Nat.min_eq_left hk]

/- Up by one, then one more: room. -/
theorem ins_room (cur : List Value) (L : List IV) (o : IV) (i n : Nat) (hL : L.length = n) (hi : i < n) (hc : (n + 1) * 4 ≤ cur.length) (ht : cur.take (n * 4) = flat enI L) :
    (spl (spl cur ((i + 1) * 4) (flat enI (L.drop i))) (i * 4) (enI o)).take ((n + 1) * 4) = flat enI (L.take i ++ o :: L.drop i) := by
  have hD : (flat enI (L.drop i)).length = (n - i) * 4 := by rw [flat_len irow.len, List.length_drop, hL]
  have hE : (enI o).length = 4 := rfl
  have e1 : (spl cur ((i + 1) * 4) (flat enI (L.drop i))).length = cur.length := spl_len _ _ _ (by omega)
  have e2 : (spl cur ((i + 1) * 4) (flat enI (L.drop i))).take (i * 4) = flat enI (L.take i) := by
    rw [spl_low _ _ _ (by omega) _ (by omega), ← flat_take irow.len, ← ht, List.take_take, Nat.min_eq_left (by omega)]
  have e3 := spl_drop cur ((i + 1) * 4) (flat enI (L.drop i)) (by omega) (i * 4 + 4) (by omega)
  rw [show spl (spl cur ((i + 1) * 4) (flat enI (L.drop i))) (i * 4) (enI o) = (spl cur ((i + 1) * 4) (flat enI (L.drop i))).take (i * 4) ++ enI o ++ (spl cur ((i + 1) * 4) (flat enI (L.drop i))).drop (i * 4 + 4) from rfl, e2, e3, ← List.append_assoc, List.take_left' (by
    simp only [List.length_append, hD, hE, flat_len irow.len, List.length_take, hL]
    omega), flat_app, flat_cons, List.append_assoc]

/- One more, then the rest: a new row. -/
theorem ins_new (cur : List Value) (L : List IV) (o : IV) (i n : Nat) (hL : L.length = n) (hi : i < n) (hc : (n + 1) * 4 ≤ cur.length) (ht : cur.take (i * 4) = flat enI (L.take i)) :
    (spl (spl cur (i * 4) (enI o)) ((i + 1) * 4) (flat enI (L.drop i))).take ((n + 1) * 4) = flat enI (L.take i ++ o :: L.drop i) := by
  have hD : (flat enI (L.drop i)).length = (n - i) * 4 := by rw [flat_len irow.len, List.length_drop, hL]
  have hE : (enI o).length = 4 := rfl
  have e1 : (spl cur (i * 4) (enI o)).length = cur.length := spl_len _ _ _ (by omega)
  have e2 := spl_take cur (i * 4) (enI o) (by omega)
  rw [hE, ht, show i * 4 + 4 = (i + 1) * 4 by omega] at e2
  have e3 := spl_take (spl cur (i * 4) (enI o)) ((i + 1) * 4) (flat enI (L.drop i)) (by omega)
  rw [hD, e2, show (i + 1) * 4 + (n - i) * 4 = (n + 1) * 4 by omega] at e3
  rw [e3, flat_app, flat_cons, List.append_assoc]

/- What is handed over: one OSD in a block of its own. -/
theorem IBox.src {w : World} {a : Nat} {o : IV} (h : IBox w a o) (j : Nat) (v : Value) (hv : (enI o)[j]? = some v) : w.cell? ((⟨a, 0, none⟩ : Addr).add j) = some v := by
  rw [add_at, Nat.zero_add]
  exact cell_heap h (by simpa [enI] using hv)

def Inserted (w w' : World) (B : Nat) (R R' : Value) (L : List IV) : Prop := Own w' B 79 4 enI R' L ∧ Turns (fun k => R.ownBlock = some k) w w' ∧ ∀ g, R'.ownBlock = some g → R.ownBlock = some g ∨ w.heap.size ≤ g

theorem insert_end {w : World} {B : Nat} {x : Option Addr} {n c vb : Nat} {L : List IV} {o : IV} (h : Own w B 79 4 enI (.slice x n c) L) (hv : IBox w vb o) (hB : B ≤ w.heap.size) (hn : n < 100000000) :
    Calls Try.prog 91 #[.slice x n c, .int .i64 (n : Int), .slice (some ⟨vb, 0, none⟩) 1 1] w fun e w' => ∃ x' c', e = .returned (.slice x' (n + 1) c') ∧ Hid (Inserted w w' B (.slice x n c) (.slice x' (n + 1) c') (L ++ [o])) := by
  obtain ⟨x0, c0, e0, h1, h2, h3⟩ := h.form
  injection e0 with e1 e2 e3
  subst e1 e3
  obtain ⟨x', c', w', hap, H⟩ := push2 h irow hB ⟨vb, 0, none⟩ 1 1 [o] rfl (fun j u hj => hv.src j u (by rwa [flat_one] at hj)) (by rw [← e2]; omega)
  rw [← e2] at hap H h1 h2
  have HF : Hid (Inserted w w' B (.slice x n c) (.slice x' (n + 1) c') (L ++ [o])) := ⟨H.out.1, H.out.2.1, fun g hg => (H.out.2.2 g hg).imp (fun h => h) (fun h => by omega)⟩
  have hnc : (n : Int) ≤ (c : Int) := by omega
  clear h hv H e2 h3 h2
  cases x with
  | none =>
    go_enter Try.func91, Try.ntmps91
    go_wp2_with (at_builtin; refine Lib.wpList_append_run _ rfl _ _ _ _ rfl _ _ rfl rfl _ _ hap ?_)
    all_goals (go_ret; exact ⟨_, _, rfl, HF.out⟩)
  | some ad =>
    go_enter Try.func91, Try.ntmps91
    go_wp2_with (at_builtin; refine Lib.wpList_append_run _ rfl _ _ _ _ rfl _ _ rfl rfl _ _ hap ?_)
    all_goals (go_ret; exact ⟨_, _, rfl, HF.out⟩)

theorem over_no (w : World) (vb g q lb cb : Nat) (cur : Array Value) (o : IV) (hv : IBox w vb o) (hg : w.heap[g]? = some (.cells cur 79 (0, 0))) (hne : vb ≠ g) (hz : cur.size ≠ 0) :
    (callFunc 97 #[.slice (some ⟨vb, 0, none⟩) 1 1, .slice (some ⟨g, q, none⟩) lb cb]).run Try.prog w = .ok (.value (.bool false)) w := by
  rw [run_callFunc_extern Try.func97 (by kernel_rfl) (by kernel_rfl) (by kernel_rfl) (e := Extern.SlicesOverlaps.overlaps #[22, 22] #[4]) (by kernel_rfl),
    Lib.run_overlaps_apart w 22 4 79 (by kernel_rfl) 4 (fun _ => by kernel_rfl) ⟨vb, 0, none⟩ ⟨g, q, none⟩ 1 1 lb cb hne 79 79 4 cur.size (by unfold World.shape?; rw [hv]; rfl) (by unfold World.shape?; rw [hg]) hz (fr_heap hv 0) (fr_heap hv 4)]
  rfl

set_option maxHeartbeats 1600000 in
theorem insert_room {w : World} {B g n c vb i : Nat} {L : List IV} {o : IV} (h : Own w B 79 4 enI (.slice (some ⟨g, 0, none⟩) n c) L) (hv : IBox w vb o) (hne : vb ≠ g) (hi : i < n) (hn : n < 100000000) (hr : n + 1 ≤ c) :
    Calls Try.prog 91 #[.slice (some ⟨g, 0, none⟩) n c, .int .i64 (i : Int), .slice (some ⟨vb, 0, none⟩) 1 1] w fun e w' => e = .returned (.slice (some ⟨g, 0, none⟩) (n + 1) c) ∧ Hid (Inserted w w' B (.slice (some ⟨g, 0, none⟩) n c) (.slice (some ⟨g, 0, none⟩) (n + 1) c) (L.take i ++ o :: L.drop i)) := by
  obtain ⟨hL, hBg, hnc, hcm, cur, h0, hz, ht⟩ := h.heap
  have hm : c ≤ 9223372036854775807 := by unfold maxLen at hcm; omega
  have hD : (flat enI (L.drop i)).length = (n - i) * 4 := by rw [flat_len irow.len, List.length_drop, hL]
  have hcl : cur.toList.length = c * 4 := by rw [Array.length_toList]; exact hz
  have hov : ∀ q lb cb, (callFunc 97 #[.slice (some ⟨vb, 0, none⟩) 1 1, .slice (some ⟨g, q, none⟩) lb cb]).run Try.prog w = .ok (.value (.bool false)) w := fun q lb cb => over_no w vb g q lb cb cur o hv h0 hne (by omega)
  obtain ⟨cur1, hc1⟩ : ∃ c1, c1 = spl cur.toList ((i + 1) * 4) (flat enI (L.drop i)) := ⟨_, rfl⟩
  obtain ⟨cur2, hc2⟩ : ∃ c2, c2 = spl cur1 (i * 4) (enI o) := ⟨_, rfl⟩
  have l1 : cur1.length = c * 4 := by rw [hc1, spl_len _ _ _ (by omega), hcl]
  have hone : ∀ (K : List IV), ∀ v ∈ flat enI K, v.oneCell' = true := fun K v hv => by obtain ⟨a, _, ha⟩ := flat_mem hv; exact irow.one a v ha
  have hcp1 : ∀ ty dc sc, (Builtin.copy_ #[22, 22] ty #[.slice (some ⟨g, (i + 1) * 4, none⟩) (n - i) dc, .slice (some ⟨g, i * 4, none⟩) (n + 1 - i) sc]).run Try.prog w.drew = .ok (goInt ((n - i : Nat) : Int)) (w.drew.setRow g cur1.toArray) := fun ty dc sc => by
    rw [hc1]
    unfold spl
    exact run_copy_sz w.drew _ _ ty 79 4 g ((i + 1) * 4) (n - i) dc ⟨g, i * 4, none⟩ (n + 1 - i) sc (n - i) cur 79 (flat enI (L.drop i)) (by kernel_rfl) osz h0 (by show min _ _ = _; omega) hD
      (fun j v hj => by
        rw [add_at]
        rw [← flat_drop irow.len, List.getElem?_drop] at hj
        have := World.ownsRow.cells h (g := g) rfl _ v hj
        rwa [add_at, Nat.zero_add] at this) (by omega) (hone _)
  obtain ⟨W1, hW1⟩ : ∃ W1, W1 = w.drew.setRow g cur1.toArray := ⟨_, rfl⟩
  have g1 : W1.heap[g]? = some (.cells cur1.toArray 79 (0, 0)) := by rw [hW1]; exact setRow_heap w.drew g cur _ _ _ h0
  have t1 : Turns (fun k => k = g) w W1 := by rw [hW1]; exact (Turns.refl _ w).drew.trans (setRow_turns _ _ _)
  have hcp2 : ∀ (W : World), W.heap = W1.heap → ∀ ty dc, (Builtin.copy_ #[22, 22] ty #[.slice (some ⟨g, i * 4, none⟩) (n + 1 - i) dc, .slice (some ⟨vb, 0, none⟩) 1 1]).run Try.prog W = .ok (goInt 1) (W.setRow g cur2.toArray) := fun W hW ty dc => by
    rw [hc2]
    unfold spl
    exact run_copy_sz W _ _ ty 79 4 g (i * 4) (n + 1 - i) dc ⟨vb, 0, none⟩ 1 1 1 cur1.toArray 79 (enI o) (by kernel_rfl) osz (by rw [hW]; exact g1) (by show min _ _ = _; omega) rfl
      (fun j v hj => by
        rw [← (hv.turns t1 hne).src j v hj]
        exact World.cell?_of_block (by rw [hW])) (by simp [enI]; omega) (by have := hone [o]; rwa [flat_one] at this)
  have HF : Hid (∀ W : World, W.heap = W1.heap → W.os = W1.os → W.tape = W1.tape → W.output = W1.output → Inserted w (W.setRow g cur2.toArray) B (.slice (some ⟨g, 0, none⟩) n c) (.slice (some ⟨g, 0, none⟩) (n + 1) c) (L.take i ++ o :: L.drop i)) := fun W e1 e2 e3 e4 => by
    have hl2 : (L.take i ++ o :: L.drop i).length = n + 1 := by simp [hL]; omega
    have g2 := setRow_heap W g cur1.toArray cur2.toArray 79 (0, 0) (by rw [e1]; exact g1)
    have tk : cur2.take ((n + 1) * 4) = flat enI (L.take i ++ o :: L.drop i) := by
      rw [hc2, hc1]
      exact ins_room cur.toList L o i n hL hi (by rw [hcl]; omega) ht
    have l2 : cur2.length = c * 4 := by rw [hc2, spl_len _ _ _ (by simp [enI]; omega), l1]
    have ow := Own.of_heap (K := L.take i ++ o :: L.drop i) g2 hBg (by rw [hl2]; exact hr) hcm (by simpa using l2) irow.len (by rw [hl2]; simpa using tk)
    rw [hl2] at ow
    refine ⟨ow, ?_, fun g' hg' => .inl hg'⟩
    have t2 : Turns (fun k => k = g) w W := ⟨e2.trans t1.os, e3.trans t1.tape, e4.trans t1.output, by rw [e1]; exact t1.size, fun k hk hn => by rw [e1]; exact t1.block k hk hn⟩
    exact (t2.trans (setRow_turns W g _)).weak fun k hk => by rw [hk]; rfl
  rw [← hW1] at hcp1
  have hz2 : ¬ ((i : Int) = (n : Int)) := by omega
  have hw1 : IntKind.i64.wrap ((i : Int) + 1) = (i : Int) + 1 := by rw [IntKind.wrap_i64]; omega
  have hb1 : (0 : Int) ≤ (i : Int) + 1 := by omega
  have hin : i ≤ n := by omega
  have htn : ((i : Int) + 1).toNat = i + 1 := by omega
  have hb2 : ¬ (c = i + 1) := by omega
  have hb3 : (i : Int) ≤ (n : Int) + 1 := by omega
  have hb4 : ¬ (c = i) := by omega
  clear h hv hne h0 hz ht hcm hD hcl hc1 hc2 l1 hone g1 t1 hL hBg hW1
  go_enter Try.func91, Try.ntmps91
  go_wp2_with (simp only [hov])
  refine wp_region_held_drew (S := fun _ => True) (by kernel_rfl) trivial (fun hHeld => ?_)
  refine By.hk 0 ?_
  refine By.hk 1 ?_
  refine By.hk 2 ?_
  refine By.hk 3 ?_
  refine By.hk 4 ?_
  refine By.hk 5 ?_
  refine By.hk 6 ?_
  refine By.hk 7 ?_
  refine wpAnyH_ready (rs := [8]) (by kernel_rfl) (by simp) ?_
  refine AllReadyH.cons rfl (fun K hK => ?_) AllReadyH.nil
  refine st_copy rfl _ _ 22 rfl _ _ rfl rfl (hcp1 _ _ _) ?_
  (try simp only [Act.put, List.getElem_toArray, List.getElem_cons_succ, List.getElem_cons_zero, List.setIfInBounds_toArray, List.set_cons_zero, List.set_cons_succ])
  refine hK.out _ _ trivial (fun hHeld => ?_)
  clear hK K
  refine wpAnyH_done (by kernel_rfl) ?_ _
  clear hHeld
  go_wp2_with (at_builtin; refine wpList_copy_at _ rfl _ _ 22 22 rfl _ _ rfl rfl (hcp2 _ rfl _ _) ?_)
  go_ret
  exact ⟨rfl, HF.out _ rfl rfl rfl rfl⟩

theorem zc_size (z : Array Value) (n : Nat) : (Builtin.zeroCells z n).size = n * z.size := by simp [Builtin.zeroCells]

set_option maxHeartbeats 1600000 in
theorem insert_grow {w : World} {B g n c vb i : Nat} {L : List IV} {o : IV} (h : Own w B 79 4 enI (.slice (some ⟨g, 0, none⟩) n c) L) (hv : IBox w vb o) (hB : B ≤ w.heap.size) (hi : i < n) (hn : n < 100000000) (hr : c < n + 1) :
    Calls Try.prog 91 #[.slice (some ⟨g, 0, none⟩) n c, .int .i64 (i : Int), .slice (some ⟨vb, 0, none⟩) 1 1] w fun e w' => ∃ x' c', e = .returned (.slice x' (n + 1) c') ∧ Hid (Inserted w w' B (.slice (some ⟨g, 0, none⟩) n c) (.slice x' (n + 1) c') (L.take i ++ o :: L.drop i)) := by
  obtain ⟨hL, hBg, hnc, hcm, cur, h0, hz, ht⟩ := h.heap
  have hm : c ≤ 9223372036854775807 := by unfold maxLen at hcm; omega
  have hgl : g < w.heap.size := (Array.getElem?_eq_some_iff.1 h0).1
  have hvl := hv.lt
  have hD : (flat enI (L.drop i)).length = (n - i) * 4 := by rw [flat_len irow.len, List.length_drop, hL]
  have hT : (flat enI (L.take i)).length = i * 4 := by rw [flat_len irow.len, List.length_take, hL, Nat.min_eq_left (by omega)]
  have hone : ∀ (K : List IV), ∀ v ∈ flat enI K, v.oneCell' = true := fun K v hv => by obtain ⟨a, _, ha⟩ := flat_mem hv; exact irow.one a v ha
  have hinfo : (Try.prog.info? 79).map (fun i => (i.zero, i.size, i.bytes)) = some (some (.agg #[.string ⟨#[]⟩, .int .i64 0, .slice none 0 0, .int .u32 0]), 4, 56) := by kernel_rfl
  obtain ⟨i0, j1, j2, j3, j4⟩ := info_parts hinfo
  obtain ⟨k, hk⟩ : ∃ k, k = n + 1 - i := ⟨_, rfl⟩
  have hik : i + k = n + 1 := by omega
  have hold : (Builtin.firstCells i0.size i (.slice (some ⟨g, 0, none⟩) i c)).run Try.prog w.drew = .ok (flat enI (L.take i)).toArray w.drew := by
    rw [j3]
    exact run_firstCells_some w.drew 4 i ⟨g, 0, none⟩ i c (flat enI (L.take i)) hT (fun j v hj => by
      rw [← flat_take irow.len, List.getElem?_take] at hj
      split at hj
      · exact World.ownsRow.cells h (g := g) rfl j v hj
      · cases hj)
  obtain ⟨G, hG⟩ : ∃ G, G = grownCap w (n + 1) c 79 := ⟨_, rfl⟩
  have hGn : n + 1 ≤ G := by rw [hG]; exact grownCap_ge w _ _ _
  have hGm : G ≤ maxLen := by rw [hG]; exact grownCap_le_maxLen w (n + 1) c _ (by unfold maxLen; omega)
  have hG63 : G ≤ 9223372036854775807 := by unfold maxLen at hGm; omega
  obtain ⟨ROW, hROW⟩ : ∃ ROW : Array Value, ROW = (flat enI (L.take i)).toArray ++ Builtin.zeroCells (Value.agg #[.string ⟨#[]⟩, .int .i64 0, .slice none 0 0, .int .u32 0]).cells k ++ Builtin.zeroCells (Value.agg #[.string ⟨#[]⟩, .int .i64 0, .slice none 0 0, .int .u32 0]).cells (G - (n + 1)) := ⟨_, rfl⟩
  have hrz : ∀ ty, (Builtin.append_ #[22, 3] ty #[.slice (some ⟨g, 0, none⟩) i c, .int .i64 (k : Int)]).run Try.prog w = .ok (.slice (some ⟨w.heap.size, 0, none⟩) (n + 1) G) (w.drew.alloc (.cells ROW 79)) := fun ty => by
    have h := Lib.run_append_grow_zeros (P := Try.prog) w 22 3 ty 79 i0 _ .i64 .i64 (by kernel_rfl) (by kernel_rfl) j1 j2 (some ⟨g, 0, none⟩) i c (flat enI (L.take i)) hold k (by omega) (by omega) (by omega) (by omega) (by rw [j4]; omega) (by rw [j4, hik]; exact growslice_fits hr (by omega))
    rw [hik, ← hG, ← hROW] at h
    exact h
  have hRs : ROW.size = G * 4 := by
    rw [hROW]
    simp only [Array.size_append, zc_size, List.size_toArray, hT]
    show i * 4 + k * 4 + (G - (n + 1)) * 4 = G * 4
    omega
  have hRt : ROW.toList.take (i * 4) = flat enI (L.take i) := by
    rw [hROW]
    simp only [Array.toList_append, List.append_assoc]
    rw [List.take_left' (by simpa using hT)]
  obtain ⟨W0, hW0⟩ : ∃ W0, W0 = w.drew.alloc (.cells ROW 79) := ⟨_, rfl⟩
  have g0 : W0.heap[w.heap.size]? = some (.cells ROW 79 (0, 0)) := by rw [hW0]; exact heap_alloc_new w.drew _
  have b0 : Below w.heap.size w W0 := by rw [hW0]; exact (Below.refl _ w).drew.alloc (Nat.le_refl _) _
  obtain ⟨cur1, hc1⟩ : ∃ c1, c1 = spl ROW.toList (i * 4) (enI o) := ⟨_, rfl⟩
  obtain ⟨cur2, hc2⟩ : ∃ c2, c2 = spl cur1 ((i + 1) * 4) (flat enI (L.drop i)) := ⟨_, rfl⟩
  have hRl : ROW.toList.length = G * 4 := by rw [Array.length_toList]; exact hRs
  have hE : (enI o).length = 4 := rfl
  have l1 : cur1.length = G * 4 := by rw [hc1, spl_len _ _ _ (by rw [hRl, hE]; omega), hRl]
  have hcpA : ∀ (W : World), W.heap = W0.heap → ∀ ty dc, (Builtin.copy_ #[22, 22] ty #[.slice (some ⟨w.heap.size, i * 4, none⟩) (n + 1 - i) dc, .slice (some ⟨vb, 0, none⟩) 1 1]).run Try.prog W = .ok (goInt 1) (W.setRow w.heap.size cur1.toArray) := fun W hW ty dc => by
    rw [hc1]
    unfold spl
    exact run_copy_sz W _ _ ty 79 4 w.heap.size (i * 4) (n + 1 - i) dc ⟨vb, 0, none⟩ 1 1 1 ROW 79 (enI o) (by kernel_rfl) osz (by rw [hW]; exact g0) (by show min _ _ = _; omega) rfl
      (fun j v hj => by
        rw [← (hv.turns (Turns.of_below (F := fun _ => False) b0) (fun h => h)).src j v hj]
        exact World.cell?_of_block (by rw [hW])) (by rw [hE, hRs]; omega) (by have := hone [o]; rwa [flat_one] at this)
  have hcpB : ∀ (W : World), W.heap = (W0.setRow w.heap.size cur1.toArray).heap → ∀ ty dc sc, (Builtin.copy_ #[22, 22] ty #[.slice (some ⟨w.heap.size, (i + 1) * 4, none⟩) (n - i) dc, .slice (some ⟨g, i * 4, none⟩) (n - i) sc]).run Try.prog W = .ok (goInt ((n - i : Nat) : Int)) (W.setRow w.heap.size cur2.toArray) := fun W hW ty dc sc => by
    rw [hc2]
    unfold spl
    exact run_copy_sz W _ _ ty 79 4 w.heap.size ((i + 1) * 4) (n - i) dc ⟨g, i * 4, none⟩ (n - i) sc (n - i) cur1.toArray 79 (flat enI (L.drop i)) (by kernel_rfl) osz (by rw [hW]; exact setRow_heap W0 _ ROW _ _ _ g0) (by show min _ _ = _; omega) hD
      (fun j v hj => by
        rw [add_at]
        rw [← flat_drop irow.len, List.getElem?_drop] at hj
        have h1 := World.ownsRow.cells h (g := g) rfl _ v hj
        rw [add_at, Nat.zero_add] at h1
        have h2 := keep b0 h1
        rw [← h2]
        exact World.cell?_of_block (a := ⟨g, i * 4 + j, none⟩) (by rw [hW]; exact setRow_other W0 _ _ _ (by show g ≠ _; omega))) (by simp [l1, hD]; omega) (hone _)
  have HF : Hid (∀ W : World, W.heap = (W0.setRow w.heap.size cur1.toArray).heap → W.os = W0.os → W.tape = W0.tape → W.output = W0.output → Inserted w (W.setRow w.heap.size cur2.toArray) B (.slice (some ⟨g, 0, none⟩) n c) (.slice (some ⟨w.heap.size, 0, none⟩) (n + 1) G) (L.take i ++ o :: L.drop i)) := fun W e1 e2 e3 e4 => by
    have hl2 : (L.take i ++ o :: L.drop i).length = n + 1 := by simp [hL]; omega
    have g1 : W.heap[w.heap.size]? = some (.cells cur1.toArray 79 (0, 0)) := by rw [e1]; exact setRow_heap W0 _ ROW _ _ _ g0
    have g2 := setRow_heap W w.heap.size cur1.toArray cur2.toArray 79 (0, 0) g1
    have tk : cur2.take ((n + 1) * 4) = flat enI (L.take i ++ o :: L.drop i) := by
      rw [hc2, hc1]
      exact ins_new ROW.toList L o i n hL hi (by rw [hRl]; omega) hRt
    have l2 : cur2.length = G * 4 := by rw [hc2, spl_len _ _ _ (by rw [l1, hD]; omega), l1]
    have ow := Own.of_heap (K := L.take i ++ o :: L.drop i) g2 hB (by rw [hl2]; exact hGn) hGm (by simpa using l2) irow.len (by rw [hl2]; simpa using tk)
    rw [hl2] at ow
    refine ⟨ow, ?_, fun g' hg' => .inr (by simp [Value.ownBlock] at hg'; omega)⟩
    have t2 : Turns (fun _ => False) w W := ⟨e2.trans b0.os, e3.trans b0.tape, e4.trans b0.output, by rw [e1]; simpa using b0.size, fun k hk hn => by rw [e1, setRow_other W0 _ _ _ (by omega)]; exact b0.block k hk⟩
    exact (t2.weak (fun _ h => h.elim)).more (setRow_turns W _ _) (fun k hk => .inr (by rw [hk]; exact Nat.le_refl _))
  rw [← hW0] at hrz
  have hz2 : ¬ ((i : Int) = (n : Int)) := by omega
  have hw1 : IntKind.i64.wrap ((i : Int) + 1) = (i : Int) + 1 := by rw [IntKind.wrap_i64]; omega
  have hkk : (n : Int) + 1 - (i : Int) = (k : Int) := by omega
  have hb1 : (0 : Int) ≤ (i : Int) + 1 := by omega
  have hin : i ≤ n := by omega
  have htn : ((i : Int) + 1).toNat = i + 1 := by omega
  have hb2 : ¬ (G = i + 1) := by omega
  have hb3 : (i : Int) ≤ (n : Int) + 1 := by omega
  have hb4 : ¬ (c = i) := by omega
  have hb5 : ¬ (G = i) := by omega
  have HW := hid hW0
  clear h hv h0 hz ht hcm hD hT hone hinfo j1 j2 j3 j4 hold hG hROW hRs hRt g0 b0 hc1 hc2 hRl hE l1 hL hBg hW0 hk hik
  go_enter Try.func91, Try.ntmps91
  go_wp2_with (first
    | (at_builtin; refine Lib.wpList_append_run _ rfl _ _ _ _ rfl _ _ rfl rfl _ _ (hrz _) ?_)
    | (at_builtin; refine wpList_copy_at _ rfl _ _ 22 22 rfl _ _ rfl rfl (hcpA _ rfl _ _) ?_))
  refine wp_region_held_drew (S := fun _ => True) (by kernel_rfl) trivial (fun hHeld => ?_)
  refine By.hk 0 ?_
  refine By.hk 1 ?_
  refine By.hk 2 ?_
  refine By.hk 3 ?_
  refine By.hk 4 ?_
  refine By.hk 5 ?_
  refine By.hk 6 ?_
  refine By.hk 7 ?_
  refine wpAnyH_ready (rs := [8]) (by kernel_rfl) (by simp) ?_
  refine AllReadyH.cons rfl (fun K hK => ?_) AllReadyH.nil
  refine st_copy rfl _ _ 22 rfl _ _ rfl rfl (hcpB (W0.setRow w.heap.size cur1.toArray).drew rfl _ _ _) ?_
  (try simp only [Act.put, List.getElem_toArray, List.getElem_cons_succ, List.getElem_cons_zero, List.setIfInBounds_toArray, List.set_cons_zero, List.set_cons_succ])
  refine hK.out _ _ trivial (fun hHeld => ?_)
  clear hK K
  refine wpAnyH_done (by kernel_rfl) ?_ _
  clear hHeld
  go_wp2_with fail
  go_ret
  exact ⟨_, _, rfl, HF.out _ rfl rfl rfl rfl⟩

/- slices.Insert(s, i, o). -/
theorem insert_any {w : World} {B : Nat} {x : Option Addr} {n c vb i : Nat} {L : List IV} {o : IV} (h : Own w B 79 4 enI (.slice x n c) L) (hv : IBox w vb o) (hne : (Value.slice x n c).ownBlock ≠ some vb) (hB : B ≤ w.heap.size) (hi : i ≤ n) (hn : n < 100000000) :
    Calls Try.prog 91 #[.slice x n c, .int .i64 (i : Int), .slice (some ⟨vb, 0, none⟩) 1 1] w fun e w' => ∃ x' c', e = .returned (.slice x' (n + 1) c') ∧ Hid (Inserted w w' B (.slice x n c) (.slice x' (n + 1) c') (L.take i ++ o :: L.drop i)) := by
  obtain ⟨x0, c0, e0, h1, h2, h3⟩ := h.form
  injection e0 with e1 e2 e3
  subst e1 e3
  by_cases hin : i = n
  · subst hin
    refine (insert_end h hv hB hn).mono fun e w' ⟨x', c', h4, h5⟩ => ⟨x', c', h4, ?_⟩
    rw [e2, List.take_length, List.drop_length, ← e2]
    exact h5
  · cases x with
    | none => have := h2 rfl; omega
    | some ad =>
      obtain ⟨g, rfl, hBg, hgl⟩ := h3 ad rfl
      by_cases hr : n + 1 ≤ c
      · exact (insert_room h hv (fun e => hne (by rw [e]; rfl)) (by omega) hn hr).mono fun e w' ⟨h4, h5⟩ => ⟨_, _, h4, h5⟩
      · exact insert_grow h hv hB (by omega) hn (by omega)

end Go.Proofs.Ytnfflmndejbepaa.Sh
