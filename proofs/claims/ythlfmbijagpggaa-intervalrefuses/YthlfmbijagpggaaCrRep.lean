/-
  slices.Repeat at int: a list of one number, so many times.
  Conditions: the list is of one; at most a thousand times.
-/
import Derived.Test.YthlfmbijagpggaaByHk
import Derived.Shelf.Bits.Mul64
import Derived.Laws.MakeOwn
import Derived.Laws.OwnMore
import Derived.Test.YthlfmbijagpggaaCrInts
namespace Go.Proofs.Ythlfmbijagpggaa.Cr
open Go.RowKit Go.Shelf By Fl At
set_option linter.unusedVariables false
set_option linter.unusedSimpArgs false
set_option maxRecDepth 100000

def renM : Go.Shelf.Ren := ⟨fun | 212 => 55 | 263 => 64 | 264 => 65 | n => n, fun | 46 => 97 | 51 => 73 | 53 => 110 | 146 => 108 | 148 => 111 | n => n, fun | n => n⟩

theorem laysM : Go.Proofs.Lays.n212 Try.prog renM where
  mixed := by kernel_rfl
  f212 := Try.func55.trans (congrArg some (by kernel_rfl))
  f263 := Try.func64.trans (congrArg some (by kernel_rfl))
  f264 := Try.func65.trans (congrArg some (by kernel_rfl))
  t46 := Try.underlying97
  a46 := Try.isAgg97
  z46 := Try.sizeOf97
  v46 := Try.zeroValue97
  t51 := Try.underlying73
  a51 := Try.isAgg73
  z51 := Try.sizeOf73
  v51 := Try.zeroValue73
  t53 := Try.underlying110
  a53 := Try.isAgg110
  z53 := Try.sizeOf110
  v53 := Try.zeroValue110
  t146 := Try.underlying108
  a146 := Try.isAgg108
  z146 := Try.sizeOf108
  v146 := Try.zeroValue108
  t148 := Try.underlying111
  a148 := Try.isAgg111
  z148 := Try.sizeOf111
  v148 := Try.zeroValue111

theorem run_copy_sz {P : Program} (w : World) (dT sT ty elem : TypeId) (sz g o dLen dCap : Nat) (a : Addr) (sLen sCap k : Nat) (cur : Array Value) (t : TypeId) (cs : List Value)
    (hu : P.underlying dT = some (.slice elem)) (hs : (P.info? elem).map (·.size) = some sz)
    (hg : w.heap[g]? = some (.cells cur t (0, 0))) (hk : Nat.min sLen dLen = k) (hn : cs.length = k * sz)
    (hsrc : ∀ j v, cs[j]? = some v → w.cell? (a.add j) = some v) (hfit : o + cs.length ≤ cur.size) (h1 : ∀ v ∈ cs, v.oneCell' = true) :
    (Builtin.copy_ #[dT, sT] ty #[.slice (some ⟨g, o, none⟩) dLen dCap, .slice (some a) sLen sCap]).run P w =
      .ok (goInt k) (w.setRow g (cur.toList.take o ++ cs ++ cur.toList.drop (o + cs.length)).toArray) := by
  have hl := run_loadCells_list (P := P) w a cs hsrc
  have hst := run_storeCells_at P g o t cs 0 cur w hg (by simpa using hfit) h1
  cases hq : P.info? elem with
  | none => simp [hq] at hs
  | some i =>
    have hi : i.size = sz := by simpa [hq] using hs
    have hk' : min sLen dLen = k := hk
    simp [Builtin.copy_, run_underlying hu, Builtin.lenOf, Builtin.firstCells, sizeOf, typeInfo, hq, hi, hk', ← hn, hl, hst]

theorem run_make_ns (w : World) (T e : TypeId) (hu : Try.prog.underlying T = some (.slice e)) (hi : (Try.prog.info? e).map (fun i => (i.zero, i.size, i.bytes)) = some (some (.int .i64 0), 1, 8)) (n : Nat) (hn : n ≤ 1000) :
    (Instr.makeSlice T (.int .i64 (n : Int)) (.int .i64 (n : Int))).run Try.prog w = .ok (.slice (some ⟨w.heap.size, 0, none⟩) n n) (w.alloc (.cells ((List.replicate n (0 : Int)).map fun v => Value.int .i64 v).toArray e)) := by
  obtain ⟨i0, h1, h2, h3, h4⟩ := info_parts hi
  have := run_make (P := Try.prog) w T e i0 _ hu h1 h2 .i64 .i64 (n : Int) (n : Int) (by omega) (by omega) (by rw [h4]; omega) (by omega)
  rw [this, h3]
  have e1 : madeCells (Value.int IntKind.i64 0).cells (((n : Int).toNat) * 1) = ((List.replicate n (0 : Int)).map fun v => Value.int .i64 v).toArray := by
    apply Array.toList_inj.1
    show (madeCells #[Value.int IntKind.i64 0] (n * 1)).toList = _
    rw [toList_madeCells_one]
    simp
  rw [e1]
  simp

theorem wpList_copy_at {P : Program} (w : World) {ops : Array Oper} {rest : List Oper} {o : Oper} {a : Act} {Q : Exit → Act → World → Prop} (hgd : o.guard = none) (d s : Operand) (t t' : TypeId)
    (ho : o.op = .call { callee := .builtin .copy, args := #[d, s], argTypes := #[t, t'] }) (v u : Value) (hd : a.eval d = v) (hs : a.eval s = u) {v' : Value} {w' : World}
    (hr : (Builtin.copy_ #[t, t'] o.type #[v, u]).run P w = .ok v' w') (h : wpList P ops Q rest (a.put o.dst v') w') : wpList P ops Q (o :: rest) a w :=
  wpList_plain hgd fun _ hK => by
    unfold Oper.wp execOp
    simp only [ho, resolve, invoke, builtin, Sem.run_bind, Sem.run_pure, Result.andThen_ok, List.map_toArray, List.map_cons, List.map_nil, hd, hs, hr]
    exact hK _ _ h

theorem st_copy {P : Program} {w w' : World} {ops : Array Oper} {o : Oper} {a : Act} {K : Act → World → Prop} {Q : Exit → Act → World → Prop} {v' : Value} (hg : Region.wanted o (yielded ops a.tmps) = true) (s x : Operand) (t : TypeId)
    (ho : o.op = .call { callee := .builtin .copy, args := #[s, x], argTypes := #[t, t] }) (v1 v2 : Value) (hs : a.eval s = v1) (hx : a.eval x = v2) (hr : (Builtin.copy_ #[t, t] o.type #[v1, v2]).run P w = .ok v' w')
    (h : K (a.put o.dst v') w') : if Region.wanted o (yielded ops a.tmps) = true then Oper.wp P o a w K Q else K (a.put o.dst undef) w := by
  rw [if_pos hg]
  unfold Oper.wp execOp
  simp only [ho, resolve, invoke, builtin, Sem.run_bind, Sem.run_pure, Result.andThen_ok, List.map_toArray, List.map_cons, List.map_nil, hs, hx, hr]
  exact h

theorem mul_any (n : Nat) (hn : n ≤ 1000) (w : World) : Calls Try.prog 55 #[.int .u64 1, .int .u64 (n : Nat)] w fun e w' => e = .returned (.tuple #[.int .u64 0, .int .u64 (n : Nat)]) ∧ w' = w := by
  have h := Any.bits_Mul laysM 1 n (by omega) (by omega) w
  change Calls Try.prog 55 _ _ _ at h
  have e1 : ((1 * n / 18446744073709551616 : Nat) : Int) = 0 := by omega
  have e2 : ((1 * n % 18446744073709551616 : Nat) : Int) = (n : Int) := by omega
  rw [e1, e2] at h
  exact h

theorem ielem_row : Try.prog.underlying 23 = some (.slice (Try.prog.elem 23)) := by kernel_rfl
theorem ielem_is : Try.prog.elem 23 = 3 := by kernel_rfl
theorem isize (w : World) : (sizeOf 3).run Try.prog w = .ok 1 w := by kernel_rfl
theorem icut_head (x : Option Addr) (n c m : Nat) (w : World) (h : m ≤ c) :
    (Instr.slice 23 (.slice x n c) none (some (.int .i64 (m : Int))) none).run Try.prog w = .ok (.slice x m c) w := by
  rw [run_slice_h w 23 _ _ _ ielem_row .i64 (m : Int) (by omega) (by omega), ielem_is, isize]
  simp only [Result.andThen, sliced, Int.toNat_natCast, Nat.zero_mul, Nat.sub_zero]
  rw [add0]
theorem icut_from (g n k : Nat) (w : World) (h : k < n) :
    (Instr.slice 23 (.slice (some ⟨g, 0, none⟩) n n) (some (.int .i64 (k : Int))) none none).run Try.prog w = .ok (.slice (some ⟨g, k, none⟩) (n - k) (n - k)) w := by
  rw [run_slice_l w 23 _ _ _ ielem_row .i64 (k : Int) (by omega) (by omega), ielem_is, isize]
  simp only [Result.andThen, sliced, Int.toNat_natCast]
  rw [if_neg (by omega)]
  simp [add_at]

/- k times z, then zeros. -/
def rpl (z : Int) (k n : Nat) : List Value := List.replicate k (Value.int .i64 z) ++ List.replicate (n - k) (Value.int .i64 0)
theorem rpl_len (z : Int) {k n : Nat} (h : k ≤ n) : (rpl z k n).length = n := by simp [rpl]; omega
theorem rpl_cell (z : Int) {k n j : Nat} (h : j < k) : (rpl z k n)[j]? = some (.int .i64 z) := by
  unfold rpl
  rw [List.getElem?_append_left (by simpa using h)]
  simp [h]
theorem rpl_more (z : Int) {k m n : Nat} (h : k + m ≤ n) : (rpl z k n).take k ++ List.replicate m (Value.int .i64 z) ++ (rpl z k n).drop (k + m) = rpl z (k + m) n := by
  unfold rpl
  rw [List.take_append, List.drop_append]
  simp
  omega

theorem copy_rpl {w : World} {g n k m : Nat} {z : Int} (a : Addr) (sLen sCap : Nat) (hg : w.heap[g]? = some (.cells (rpl z k n).toArray 3 (0, 0))) (hkm : k + m ≤ n) (hm : min sLen (n - k) = m) (hsrc : ∀ j, j < m → w.cell? (a.add j) = some (.int .i64 z)) (ty : TypeId) :
    (Builtin.copy_ #[23, 23] ty #[.slice (some ⟨g, k, none⟩) (n - k) (n - k), .slice (some a) sLen sCap]).run Try.prog w = .ok (.int .i64 (m : Nat)) (w.setRow g (rpl z (k + m) n).toArray) := by
  have h := run_copy_sz (P := Try.prog) w 23 23 ty 3 1 g k (n - k) (n - k) a sLen sCap m (rpl z k n).toArray 3 (List.replicate m (Value.int .i64 z)) (by kernel_rfl) (by kernel_rfl) hg hm (by simp) (fun j v hj => by
    have hlt := (List.getElem?_eq_some_iff.1 hj).1
    have e := (List.getElem?_eq_some_iff.1 hj).2
    simp at hlt e
    rw [← e]
    exact hsrc j hlt) (by simp [rpl_len z (show k ≤ n by omega)]; omega) (fun v hv => by rw [List.eq_of_mem_replicate hv]; rfl)
  rw [h]
  simp only [List.length_replicate]
  rw [rpl_more z hkm]
  rfl

theorem flat_rep (z : Int) : ∀ k, flat enI (List.replicate k z) = List.replicate k (Value.int .i64 z)
  | 0 => rfl
  | k + 1 => by rw [List.replicate_succ, flat_cons, flat_rep z k, List.replicate_succ]; rfl

def Rp (w wr : World) (z : Int) (n k : Nat) : Prop := Below w.heap.size w wr ∧ wr.heap[w.heap.size]? = some (.cells (rpl z k n).toArray 3 (0, 0))

set_option maxHeartbeats 3200000 in
theorem repeat_any (w : World) (g0 : Nat) (z : Int) (n : Nat) (h1 : 1 ≤ n) (hn : n ≤ 1000) (h0 : w.cell? ⟨g0, 0, none⟩ = some (.int .i64 z)) :
    Calls Try.prog 42 #[.slice (some ⟨g0, 0, none⟩) 1 1, .int .i64 (n : Nat)] w fun e w' => e = .returned (.slice (some ⟨w.heap.size, 0, none⟩) n n) ∧ Hid (Below w.heap.size w w' ∧ Own w' w.heap.size 3 1 enI (.slice (some ⟨w.heap.size, 0, none⟩) n n) (List.replicate n z)) := by
  have cM := fun W => mul_any n hn W
  have hmk := fun W => run_make_ns W 23 3 (by kernel_rfl) (by kernel_rfl) n hn
  obtain ⟨OB, hOB⟩ : ∃ OB : Obj, OB = .cells ((List.replicate n (0 : Int)).map fun v => Value.int .i64 v).toArray 3 := ⟨_, rfl⟩
  rw [← hOB] at hmk
  obtain ⟨wA, hwA⟩ : ∃ wA, wA = w.alloc OB := ⟨_, rfl⟩
  have bA : Below w.heap.size w wA := by rw [hwA]; exact al _ _
  have l0 : wA.heap[w.heap.size]? = some (.cells (rpl z 0 n).toArray 3 (0, 0)) := by
    rw [hwA, heap_alloc_new, hOB]
    simp [rpl]
  have hlt0 := cell_lt' h0
  have hc0 := copy_rpl (m := 1) ⟨g0, 0, none⟩ 1 1 l0 (by omega) (by omega) (fun j hj => by
    have : j = 0 := by omega
    subst this
    rw [add_at]
    exact keep bA h0)
  simp only [Nat.sub_zero, Nat.zero_add] at hc0
  have HS : Hid (Rp w (wA.setRow w.heap.size (rpl z 1 n).toArray) z n 1) := ⟨bA.trans ((setRow_turns wA w.heap.size _).below (fun j e => by omega) bA.size), setRow_heap wA _ _ _ _ _ l0⟩
  rw [hwA] at hc0 HS
  have hn0 : ¬ (n : Int) < 0 := by omega
  have hu1 : IntKind.u64.wrap (n : Int) = (n : Int) := by rw [IntKind.wrap_u64]; omega
  have hi1 : IntKind.i64.wrap (n : Int) = (n : Int) := by rw [IntKind.wrap_i64]; omega
  clear l0 bA hwA hOB
  go_enter Try.func42, Try.ntmps42
  go_wp2_with (first
    | (go_at_call 55; refine (cM _).mono ?_; rintro e w1 ⟨rfl, hw1⟩; subst w1)
    | (at_builtin; refine wpList_copy_at _ rfl _ _ 23 23 rfl _ _ rfl rfl (hc0 _) ?_))
  clear hc0 hmk cM
  go_loopw [8] (fun i wr => ∃ k : Nat, 1 ≤ k ∧ k ≤ n ∧ i = .int .i64 k ∧ Hid (Rp w wr z n k)) (fun i _ => n - (intOf i).toNat)
  case atStart => exact ⟨1, by omega, by omega, rfl, HS.out⟩
  case round =>
    clear HS
    obtain ⟨k, hk1, hk, rfl, HR⟩ := hrel
    by_cases hlt : k < n
    · have hkn : (k : Int) < (n : Int) := by omega
      have hf := fun W => icut_from w.heap.size n k W hlt
      have hh := fun W => icut_head (some ⟨w.heap.size, 0, none⟩) n n k W (by omega)
      have bD : Below wr.heap.size wr wr.drew := (Below.refl _ _).drew
      have lD : wr.drew.heap[w.heap.size]? = some (.cells (rpl z k n).toArray 3 (0, 0)) := HR.out.2
      obtain ⟨m, hm⟩ : ∃ m, m = min k (n - k) := ⟨_, rfl⟩
      have hc := copy_rpl (m := m) ⟨w.heap.size, 0, none⟩ k n lD (by omega) hm.symm (fun j hj => by
        rw [add_at, Nat.zero_add]
        exact cell_heap lD (by simpa using rpl_cell z (show j < k by omega)))
      have hm1 : 1 ≤ m := by omega
      have hm2 : k + m ≤ n := by omega
      have hadd : IntKind.i64.wrap ((k : Int) + (m : Int)) = ((k + m : Nat) : Int) := by rw [IntKind.wrap_i64]; omega
      have HN : Hid (Rp w (wr.drew.setRow w.heap.size (rpl z (k + m) n).toArray) z n (k + m)) := ⟨(on HR.out.1 bD).trans ((setRow_turns wr.drew w.heap.size _).below (fun j e => by omega) (by have := HR.out.1.size; have := bD.size; omega)), setRow_heap wr.drew _ _ _ _ _ lD⟩
      clear lD hm
      go_wp2_with fail
      refine wp_region_held_drew (S := fun v => True) (by kernel_rfl) trivial (fun hHeld => ?_)
      generalize wr.drew = wD at *
      refine By.hk 0 ?_
      refine By.hk 1 ?_
      refine By.hk 2 ?_
      refine By.hk 3 ?_
      refine By.hk 4 ?_
      refine By.hk 5 ?_
      refine By.hk 6 ?_
      refine wpAnyH_ready (rs := [7]) (by kernel_rfl) (by simp) ?_
      refine AllReadyH.cons rfl (fun K hK => ?_) AllReadyH.nil
      refine st_copy rfl _ _ 23 rfl _ _ rfl rfl (hc _) ?_
      (try simp only [Act.put, List.getElem_toArray, List.getElem_cons_succ, List.getElem_cons_zero, List.setIfInBounds_toArray, List.set_cons_zero, List.set_cons_succ])
      refine hK.out _ _ trivial (fun hHeld => ?_)
      clear hK K
      refine By.hk 8 ?_
      refine By.hk 9 ?_
      refine wpAnyH_done (by kernel_rfl) ?_ _
      clear hc
      go_wp2_with fail
      go_roundw
      case rel => exact ⟨k + m, by omega, hm2, by first | rfl | go_num, HN.out⟩
      case measure => simp [intOf]; omega
    · have hk2 : k = n := by omega
      subst hk2
      go_wp2_with fail
      go_ret
      refine ⟨rfl, HR.out.1, ?_⟩
      have e1 : (List.replicate k z).length = k := by simp
      have := Own.of_heap (K := List.replicate k z) (B := w.heap.size) (sz := 1) (enc := enI) HR.out.2 (Nat.le_refl _) (c := k) (by rw [e1]; exact Nat.le_refl _) (by unfold maxLen; omega) (by simp [rpl]) irow.len (by
        rw [e1, flat_rep]
        simp [rpl])
      rw [e1] at this
      exact this

end Go.Proofs.Ythlfmbijagpggaa.Cr
