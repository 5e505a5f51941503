/-
  2 texts of this proof, one behind the other: PxStates, PxProm.
-/
import Derived.Test.YtdlajpjigddbhaaGreatJ12
import Derived.Test.YtdlajpjigddbhaaGreatJ04
/-
  What all monitors promised and accepted, as far as it is known: states.
  Conditions: the monitor is one that New gave ('NdAt'), with a bid.
-/
namespace Go.Proofs.YtdlajpjigddbhaaGreat.Px
open Go.RowKit Wi By Fl Ba
set_option linter.unusedVariables false
set_option linter.unusedSimpArgs false
set_option maxRecDepth 100000

def stA (st : Nd) (b : Bd) (i : Nat) : Ac := if i = st.id then st.acc b.num else b.told i

structure StL (w wr : World) (n k : Nat) (told : Nat → Ac) (V : Nat → AccV) : Prop where
  t : Turns (atB w.heap.size) w wr
  arr : Arr wr w.heap.size 113 n (fun i => accC (V i))
  ok : ∀ i, i < n → AvOk wr (V i) ∧ acOf (V i) = if i < k then told i else noAc

theorem acc_not_u8 {w : World} {g : Nat} (h : Tb w g 113) : ∀ i, atB g i → ¬ Tb w i 5 := fun i hi t => by
  have e : i = g := hi
  subst e
  have := t.same h
  revert this
  decide

theorem StL.step {w wr : World} {n k : Nat} {told : Nat → Ac} {V : Nat → AccV} (h : StL w wr n k told V) (hk : k < n) (v : AccV) (hv : AvOk wr v) (he : told k = acOf v) :
    StL w (w5 wr w.heap.size (k * 5) (.int .i64 v.p.1) (.int .i64 v.p.2) (.int .i64 v.a.1) (.int .i64 v.a.2) (.slice v.x v.n v.c)) n (k + 1) told (up V k v) := by
  have t5 := w5_turns wr w.heap.size (k * 5) (.int .i64 v.p.1) (.int .i64 v.p.2) (.int .i64 v.a.1) (.int .i64 v.a.2) (.slice v.x v.n v.c)
  have hu := acc_not_u8 h.arr.tb
  refine ⟨h.t.trans t5, ?_, fun i hi => ?_⟩
  · refine (w5_arr h.arr k hk (accC v) _ _ _ _ _ rfl rfl rfl rfl rfl).congr (fun i j _ _ => ?_)
    unfold up
    by_cases e : i = k <;> simp [e]
  · by_cases e : i = k
    · subst e
      rw [up_same, if_pos (by omega)]
      exact ⟨hv.turns t5 hu, he.symm⟩
    · rw [up_other _ _ e]
      refine ⟨(h.ok i hi).1.turns t5 hu, ?_⟩
      rw [(h.ok i hi).2]
      by_cases e2 : i < k
      · rw [if_pos e2, if_pos (by omega)]
      · rw [if_neg e2, if_neg (by omega)]

theorem arr_accs {w : World} {g n : Nat} {V : Nat → AccV} (h : Arr w g 113 n (fun i => accC (V i))) (hn : n ≤ 1000) (hv : ∀ i, i < n → AvOk w (V i)) : Accs w (some ⟨g, 0, none⟩) n V := by
  refine ⟨.inr ⟨g, 0, rfl, h.tb.lt, fun i hi => ?_⟩, fun i hi => ⟨(hv i hi).sv.sl, by have := (hv i hi).sv.sm; omega⟩, fun i hi => (hv i hi).a, hn⟩
  rw [Nat.zero_add]
  exact ⟨h.cell i 0 hi (by omega), h.cell i 1 hi (by omega), h.cell i 2 hi (by omega), h.cell i 3 hi (by omega), h.cell i 4 hi (by omega)⟩

section
variable {w : World} {B : Nat} {g : Ln} {st : Nd}

set_option maxHeartbeats 3200000 in
theorem states_any (h : NdAt w B g st) (b : Bd) (hb : st.bid = some b) (hn : st.n ≤ 7) (hid_ : st.id < st.n) (hnum : b.num < 4294967296) :
    Calls Tryz.prog 120 #[.pointer (some ⟨g.p, 0, none⟩)] w fun e w' => ∃ (V : Nat → AccV), e = .returned (.slice (some ⟨w.heap.size, 0, none⟩) st.n st.n) ∧ Hid (Below w.heap.size w w' ∧ Accs w' (some ⟨w.heap.size, 0, none⟩) st.n V ∧ ∀ i, i < st.n → AvOk w' (V i) ∧ acOf (V i) = stA st b i) := by
  rcases h.bid with ⟨_, q⟩ | ⟨l, b', q1, q2, q3, q4⟩
  · rw [hb] at q
    cases q
  rw [hb] at q2
  injection q2 with q2
  subst q2
  have hpl := h.obj.lt
  have hbl := q3.obj.lt
  have hml := h.acc.lt
  have htl := q3.told.lt
  have c1 := h.c1
  have c0 := h.c0
  have c3 := h.c3
  have c6 : w.cell? ⟨g.p, 6, none⟩ = some (.pointer (some ⟨l.bp, 0, none⟩)) := by rw [h.c6, q1]; rfl
  have d0 : w.cell? ⟨l.bp, 0, none⟩ = some (.int .i64 b.num) := q3.obj.cell (k := 0) (by omega)
  have d4 : w.cell? ⟨l.bp, 4, none⟩ = some (.map (some l.tb)) := q3.obj.cell (k := 4) (by omega)
  have hmk := make_acc st.n hn w
  have HT : Hid (ApAt w l.tb l.tn l.tD b.told ∧ ApAt w g.mb g.nb g.D st.acc) := ⟨q3.told, h.acc⟩
  have HS : Hid (∀ i, stA st b i = if i = st.id then st.acc b.num else b.told i) := fun i => rfl
  have H0 : Hid (StL w (w.alloc (.cells (madeCells accZ (st.n * 5)) 113)) st.n 0 b.told (fun _ => noAv)) := by
    refine ⟨(Turns.refl _ w).alloc _, (arr_new w _ accZ rfl st.n).congr (fun k j _ hj => ?_), fun i hi => ⟨noAv_ok _, rfl⟩⟩
    match j, hj with
    | 0, _ => rfl
    | 1, _ => rfl
    | 2, _ => rfl
    | 3, _ => rfl
    | 4, _ => rfl
  have nI : (st.n : Int) ≤ 7 := by omega
  have idI : (st.id : Int) < (st.n : Int) := by omega
  have Hn : Hid (st.n ≤ 7 ∧ st.id < st.n ∧ b.num < 4294967296) := ⟨hn, hid_, hnum⟩
  clear h hb q1 q3 hn hid_ hnum q4
  generalize stA st b = SA at *
  generalize b.told = told at *
  generalize b.num = num at *
  generalize st.acc = acc at *
  generalize st.n = n at *
  generalize st.id = id at *
  go_enter Tryz.func120, Tryz.ntmps120
  go_wp2_with fail
  go_loopw [12, 4] (fun i _ wr => ∃ (k : Nat) (V : Nat → AccV), k ≤ n ∧ i = .int .i64 k ∧ Hid (StL w wr n k told V)) (fun i _ _ => n - (intOf i).toNat)
  case atStart => exact ⟨0, _, by omega, rfl, H0.out⟩
  case round =>
    clear H0
    obtain ⟨k, V, hk, rfl, HR⟩ := hrel
    have T := HR.out.t
    have p6 := keept T (fun e => by have e2 : g.p = w.heap.size := e; omega) c6
    have e4 := keept T (fun e => by have e2 : l.bp = w.heap.size := e; omega) d4
    by_cases hlt : k < n
    · have hkn : (k : Int) < (n : Int) := by omega
      obtain ⟨v, v1, v2, v3⟩ := HT.out.1.lookAll k (by have := Hn.out.1; omega)
      have hlk := v3 wr (T.block _ htl (fun e => by have e2 : l.tb = w.heap.size := e; omega))
      have a0 := HR.out.arr.cell k 0 hlt (by omega)
      have a1 := HR.out.arr.cell k 1 hlt (by omega)
      have a2 := HR.out.arr.cell k 2 hlt (by omega)
      have a3 := HR.out.arr.cell k 3 hlt (by omega)
      have a4 := HR.out.arr.cell k 4 hlt (by omega)
      rw [Nat.add_zero] at a0
      have fz := HR.out.arr.frz
      have g0 := fz (k * 5)
      have g1 := fz (k * 5 + 1)
      have g2 := fz (k * 5 + 2)
      have g3 := fz (k * 5 + 3)
      have g4 := fz (k * 5 + 4)
      have HN : Hid (StL w (w5 wr w.heap.size (k * 5) (.int .i64 v.p.1) (.int .i64 v.p.2) (.int .i64 v.a.1) (.int .i64 v.a.2) (.slice v.x v.n v.c)) n (k + 1) told (up V k v)) := by
        refine HR.out.step hlt v (v1.turns T (fun i hi t => ?_)) v2
        have e2 : i = w.heap.size := hi
        have := t.lt
        omega
      unfold w5 at HN
      dsimp only [av, ac] at hlk
      clear HR v1 v2 v3 fz T c0 c1 c3 c6 d0 d4 hmk HT
      generalize accC (V k) 0 = o0 at *
      generalize accC (V k) 1 = o1 at *
      generalize accC (V k) 2 = o2 at *
      generalize accC (V k) 3 = o3 at *
      generalize accC (V k) 4 = o4 at *
      generalize v.p.1 = u0 at *
      generalize v.p.2 = u1 at *
      generalize v.a.1 = u2 at *
      generalize v.a.2 = u3 at *
      generalize v.x = ux at *
      generalize v.n = un at *
      generalize v.c = uc at *
      go_wp2_with fail
      go_roundw
      case rel => exact ⟨k + 1, _, by omega, by go_num, HN.out⟩
      case measure => simp [intOf]; omega
    · obtain rfl : k = n := by omega
      have bD : Below wr.heap.size wr wr.drew := (Below.refl _ _).drew
      have T2 := T.trans (Turns.of_below bD)
      have s0 := keept T2 (fun e => by have e2 : g.p = w.heap.size := e; omega) c0
      have s3 := keept T2 (fun e => by have e2 : g.p = w.heap.size := e; omega) c3
      have s6 := keept T2 (fun e => by have e2 : g.p = w.heap.size := e; omega) c6
      have s7 := keept T2 (fun e => by have e2 : l.bp = w.heap.size := e; omega) d0
      obtain ⟨v, v1, v2, v3⟩ := HT.out.2.lookAll num Hn.out.2.2
      have hlk := v3 wr.drew (T2.block _ hml (fun e => by have e2 : g.mb = w.heap.size := e; omega))
      have hA := HR.out.arr.below bD
      have hidn := Hn.out.2.1
      have a0 := hA.cell id 0 hidn (by omega)
      have a1 := hA.cell id 1 hidn (by omega)
      have a2 := hA.cell id 2 hidn (by omega)
      have a3 := hA.cell id 3 hidn (by omega)
      have a4 := hA.cell id 4 hidn (by omega)
      rw [Nat.add_zero] at a0
      have g0 := hA.frz (id * 5)
      have g1 := hA.frz (id * 5 + 1)
      have g2 := hA.frz (id * 5 + 2)
      have g3 := hA.frz (id * 5 + 3)
      have g4 := hA.frz (id * 5 + 4)
      have t5 := w5_turns wr.drew w.heap.size (id * 5) (.int .i64 v.p.1) (.int .i64 v.p.2) (.int .i64 v.a.1) (.int .i64 v.a.2) (.slice v.x v.n v.c)
      have n0 := keept t5 (fun e => by have e2 : g.p = w.heap.size := e; omega) s0
      have n3 := keept t5 (fun e => by have e2 : g.p = w.heap.size := e; omega) s3
      have n6 := keept t5 (fun e => by have e2 : g.p = w.heap.size := e; omega) s6
      have n7 := keept t5 (fun e => by have e2 : l.bp = w.heap.size := e; omega) s7
      have n8 := v3 _ ((t5.block _ (by have := T2.size; omega) (fun e => by have e2 : g.mb = w.heap.size := e; omega)).trans (T2.block _ hml (fun e => by have e2 : g.mb = w.heap.size := e; omega)))
      have HN : Hid (Below w.heap.size w (w5 wr.drew w.heap.size (id * 5) (.int .i64 v.p.1) (.int .i64 v.p.2) (.int .i64 v.a.1) (.int .i64 v.a.2) (.slice v.x v.n v.c)) ∧ Accs (w5 wr.drew w.heap.size (id * 5) (.int .i64 v.p.1) (.int .i64 v.p.2) (.int .i64 v.a.1) (.int .i64 v.a.2) (.slice v.x v.n v.c)) (some ⟨w.heap.size, 0, none⟩) k (up V id v) ∧ ∀ i, i < k → AvOk (w5 wr.drew w.heap.size (id * 5) (.int .i64 v.p.1) (.int .i64 v.p.2) (.int .i64 v.a.1) (.int .i64 v.a.2) (.slice v.x v.n v.c)) (up V id v i) ∧ acOf (up V id v i) = SA i) := by
        have hu := acc_not_u8 hA.tb
        have hok : ∀ i, i < k → AvOk (w5 wr.drew w.heap.size (id * 5) (.int .i64 v.p.1) (.int .i64 v.p.2) (.int .i64 v.a.1) (.int .i64 v.a.2) (.slice v.x v.n v.c)) (up V id v i) ∧ acOf (up V id v i) = SA i := fun i hi => by
          rw [HS.out i]
          by_cases e : i = id
          · subst e
            rw [up_same, if_pos rfl]
            exact ⟨(v1.turns T2 (fun j hj t => by have e2 : j = w.heap.size := hj; have := t.lt; omega)).turns t5 hu, v2.symm⟩
          · rw [up_other _ _ e, if_neg e]
            refine ⟨((HR.out.ok i hi).1.turns (Turns.of_below (F := fun _ => False) bD) (fun _ h => h.elim)).turns t5 hu, ?_⟩
            rw [(HR.out.ok i hi).2, if_pos hi]
        refine ⟨(T2.trans t5).below (fun j hj => by have e2 : j = w.heap.size := hj; omega) (Nat.le_refl _), arr_accs ((w5_arr hA id hidn (accC v) _ _ _ _ _ rfl rfl rfl rfl rfl).congr (fun i j _ _ => ?_)) (by have := Hn.out.1; omega) (fun i hi => (hok i hi).1), hok⟩
        unfold up
        by_cases e : i = id <;> simp [e]
      have pne : g.p ≠ w.heap.size := by omega
      have bne : l.bp ≠ w.heap.size := by omega
      unfold w5 at HN n0 n3 n6 n7 n8
      dsimp only [av, ac] at hlk n8
      clear HR v1 v2 v3 hA t5 T T2 c0 c1 c3 c6 d0 d4 hmk HT p6 e4 HS
      generalize accC (V id) 0 = o0 at *
      generalize accC (V id) 1 = o1 at *
      generalize accC (V id) 2 = o2 at *
      generalize accC (V id) 3 = o3 at *
      generalize accC (V id) 4 = o4 at *
      generalize v.p.1 = u0 at *
      generalize v.p.2 = u1 at *
      generalize v.a.1 = u2 at *
      generalize v.a.2 = u3 at *
      generalize v.x = ux at *
      generalize v.n = un at *
      generalize v.c = uc at *
      go_wp2_with fail
      refine wp_region_held_drew (S := fun q => q.cell? ⟨g.p, 0, none⟩ = some (.int .i64 id) ∧ q.cell? ⟨g.p, 3, none⟩ = some (.map (some g.mb)) ∧ q.cell? ⟨g.p, 6, none⟩ = some (.pointer (some ⟨l.bp, 0, none⟩)) ∧ q.cell? ⟨l.bp, 0, none⟩ = some (.int .i64 num) ∧ (Instr.lookup 98 (.map (some g.mb)) (.int .i64 (num : Int)) false).run Tryz.prog q = .ok (.agg #[.int .i64 u0, .int .i64 u1, .int .i64 u2, .int .i64 u3, .slice ux un uc]) q) (by kernel_rfl) ⟨s0, s3, s6, s7, hlk⟩ (fun hHeld => ?_)
      generalize wr.drew = wD at *
      refine wpAnyH_take (i := 0) (v := ?_) rfl (by kernel_rfl) (by kernel_rfl) (by kernel_rfl) (fun _ _ _ h => h) (Or.inl ⟨by rfl, ?_⟩) (by assumption) ?_
      case refine_2 => (intro w hSw; (try dsimp only at hSw); go_simp; (try with_reducible rfl))
      (try simp only [Act.put, List.getElem_toArray, List.getElem_cons_succ, List.getElem_cons_zero, List.setIfInBounds_toArray, List.set_cons_zero, List.set_cons_succ])
      refine wpAnyH_take (i := 1) (v := ?_) rfl (by kernel_rfl) (by kernel_rfl) (by kernel_rfl) (fun _ _ _ h => h) (Or.inl ⟨by rfl, ?_⟩) (by assumption) ?_
      case refine_2 => (intro w hSw; (try dsimp only at hSw); go_simp; (try with_reducible rfl))
      (try simp only [Act.put, List.getElem_toArray, List.getElem_cons_succ, List.getElem_cons_zero, List.setIfInBounds_toArray, List.set_cons_zero, List.set_cons_succ])
      refine wpAnyH_take (i := 2) (v := ?_) rfl (by kernel_rfl) (by kernel_rfl) (by kernel_rfl) (fun _ _ _ h => h) (Or.inl ⟨by rfl, ?_⟩) (by assumption) ?_
      case refine_2 => (intro w hSw; (try dsimp only at hSw); go_simp; (try with_reducible rfl))
      (try simp only [Act.put, List.getElem_toArray, List.getElem_cons_succ, List.getElem_cons_zero, List.setIfInBounds_toArray, List.set_cons_zero, List.set_cons_succ])
      refine wpAnyH_take (i := 3) (v := ?_) rfl (by kernel_rfl) (by kernel_rfl) (by kernel_rfl) (fun _ _ _ h => h) (Or.inl ⟨by rfl, ?_⟩) (by assumption) ?_
      case refine_2 => (intro w hSw; (try dsimp only at hSw); go_simp; (try with_reducible rfl))
      (try simp only [Act.put, List.getElem_toArray, List.getElem_cons_succ, List.getElem_cons_zero, List.setIfInBounds_toArray, List.set_cons_zero, List.set_cons_succ])
      refine wpAnyH_take (i := 4) (v := ?_) rfl (by kernel_rfl) (by kernel_rfl) (by kernel_rfl) (fun _ _ _ h => h) (Or.inl ⟨by rfl, ?_⟩) (by assumption) ?_
      case refine_2 => (intro w hSw; (try dsimp only at hSw); go_simp; (try with_reducible rfl))
      (try simp only [Act.put, List.getElem_toArray, List.getElem_cons_succ, List.getElem_cons_zero, List.setIfInBounds_toArray, List.set_cons_zero, List.set_cons_succ])
      refine wpAnyH_take (i := 5) (v := ?_) rfl (by kernel_rfl) (by kernel_rfl) (by kernel_rfl) (fun _ _ _ h => h) (Or.inl ⟨by rfl, ?_⟩) (by assumption) ?_
      case refine_2 => (intro w hSw; (try dsimp only at hSw); go_simp; (try with_reducible rfl))
      (try simp only [Act.put, List.getElem_toArray, List.getElem_cons_succ, List.getElem_cons_zero, List.setIfInBounds_toArray, List.set_cons_zero, List.set_cons_succ])
      refine wpAnyH_take (i := 6) (v := ?_) rfl (by kernel_rfl) (by kernel_rfl) (by kernel_rfl) (fun _ _ _ h => h) (Or.inl ⟨by rfl, ?_⟩) (by assumption) ?_
      case refine_2 => (intro w hSw; (try dsimp only at hSw); go_simp; (try with_reducible rfl))
      (try simp only [Act.put, List.getElem_toArray, List.getElem_cons_succ, List.getElem_cons_zero, List.setIfInBounds_toArray, List.set_cons_zero, List.set_cons_succ])
      refine wpAnyH_take (i := 7) (v := ?_) rfl (by kernel_rfl) (by kernel_rfl) (by kernel_rfl) (fun _ _ _ h => h) (Or.inl ⟨by rfl, ?_⟩) (by assumption) ?_
      case refine_2 => (intro w hSw; (try dsimp only at hSw); go_simp; (try with_reducible rfl))
      (try simp only [Act.put, List.getElem_toArray, List.getElem_cons_succ, List.getElem_cons_zero, List.setIfInBounds_toArray, List.set_cons_zero, List.set_cons_succ])
      refine wpAnyH_take (i := 8) (v := ?_) rfl (by kernel_rfl) (by kernel_rfl) (by kernel_rfl) (fun _ _ _ h => h) (Or.inl ⟨by rfl, ?_⟩) (by assumption) ?_
      case refine_2 => (intro w hSw; (try dsimp only at hSw); go_simp; (try with_reducible rfl))
      (try simp only [Act.put, List.getElem_toArray, List.getElem_cons_succ, List.getElem_cons_zero, List.setIfInBounds_toArray, List.set_cons_zero, List.set_cons_succ])
      refine wpAnyH_take (i := 9) (v := ?_) rfl (by kernel_rfl) (by kernel_rfl) (by kernel_rfl) (fun _ _ _ h => h) (Or.inl ⟨by rfl, ?_⟩) (by assumption) ?_
      case refine_2 => (intro w hSw; (try dsimp only at hSw); go_simp; (try with_reducible rfl))
      (try simp only [Act.put, List.getElem_toArray, List.getElem_cons_succ, List.getElem_cons_zero, List.setIfInBounds_toArray, List.set_cons_zero, List.set_cons_succ])
      refine wpAnyH_take (i := 10) (v := ?_) rfl (by kernel_rfl) (by kernel_rfl) (by kernel_rfl) (fun _ _ _ h => h) (Or.inl ⟨by rfl, ?_⟩) (by assumption) ?_
      case refine_2 => (intro w hSw; (try dsimp only at hSw); go_simp; (try with_reducible rfl))
      (try simp only [Act.put, List.getElem_toArray, List.getElem_cons_succ, List.getElem_cons_zero, List.setIfInBounds_toArray, List.set_cons_zero, List.set_cons_succ])
      refine wpAnyH_take (i := 11) (v := ?_) rfl (by kernel_rfl) (by kernel_rfl) (by kernel_rfl) (fun _ _ _ h => h) (Or.inl ⟨by rfl, ?_⟩) (by assumption) ?_
      case refine_2 => (intro w hSw; (try dsimp only at hSw); go_simp; (try with_reducible rfl))
      (try simp only [Act.put, List.getElem_toArray, List.getElem_cons_succ, List.getElem_cons_zero, List.setIfInBounds_toArray, List.set_cons_zero, List.set_cons_succ])
      refine wpAnyH_take (i := 12) (v := ?_) rfl (by kernel_rfl) (by kernel_rfl) (by kernel_rfl) (fun _ _ _ h => h) (Or.inl ⟨by rfl, ?_⟩) (by assumption) ?_
      case refine_2 => (intro w hSw; (try dsimp only at hSw); go_simp; (try with_reducible rfl))
      (try simp only [Act.put, List.getElem_toArray, List.getElem_cons_succ, List.getElem_cons_zero, List.setIfInBounds_toArray, List.set_cons_zero, List.set_cons_succ])
      refine wpAnyH_take (i := 13) (v := ?_) rfl (by kernel_rfl) (by kernel_rfl) (by kernel_rfl) (fun _ _ _ h => h) (Or.inl ⟨by rfl, ?_⟩) (by assumption) ?_
      case refine_2 => (intro w hSw; (try dsimp only at hSw); go_simp; (try with_reducible rfl))
      (try simp only [Act.put, List.getElem_toArray, List.getElem_cons_succ, List.getElem_cons_zero, List.setIfInBounds_toArray, List.set_cons_zero, List.set_cons_succ])
      refine wpAnyH_take (i := 14) (v := ?_) rfl (by kernel_rfl) (by kernel_rfl) (by kernel_rfl) (fun _ _ _ h => h) (Or.inl ⟨by rfl, ?_⟩) (by assumption) ?_
      case refine_2 => (intro w hSw; (try dsimp only at hSw); go_simp; (try with_reducible rfl))
      (try simp only [Act.put, List.getElem_toArray, List.getElem_cons_succ, List.getElem_cons_zero, List.setIfInBounds_toArray, List.set_cons_zero, List.set_cons_succ])
      refine wpAnyH_take (i := 15) (v := ?_) rfl (by kernel_rfl) (by kernel_rfl) (by kernel_rfl) (fun _ _ _ h => h) (Or.inl ⟨by rfl, ?_⟩) (by assumption) ?_
      case refine_2 => (intro w hSw; (try dsimp only at hSw); go_simp; (try with_reducible rfl))
      (try simp only [Act.put, List.getElem_toArray, List.getElem_cons_succ, List.getElem_cons_zero, List.setIfInBounds_toArray, List.set_cons_zero, List.set_cons_succ])
      refine wpAnyH_take (i := 16) (v := ?_) rfl (by kernel_rfl) (by kernel_rfl) (by kernel_rfl) (fun _ _ _ h => h) (Or.inl ⟨by rfl, ?_⟩) (by assumption) ?_
      case refine_2 => (intro w hSw; (try dsimp only at hSw); go_simp; (try with_reducible rfl))
      (try simp only [Act.put, List.getElem_toArray, List.getElem_cons_succ, List.getElem_cons_zero, List.setIfInBounds_toArray, List.set_cons_zero, List.set_cons_succ])
      refine wpAnyH_take (i := 17) (v := ?_) rfl (by kernel_rfl) (by kernel_rfl) (by kernel_rfl) (fun _ _ _ h => h) (Or.inl ⟨by rfl, ?_⟩) (by assumption) ?_
      case refine_2 => (intro w hSw; (try dsimp only at hSw); go_simp; (try with_reducible rfl))
      (try simp only [Act.put, List.getElem_toArray, List.getElem_cons_succ, List.getElem_cons_zero, List.setIfInBounds_toArray, List.set_cons_zero, List.set_cons_succ])
      refine wpAnyH_ready (rs := [18]) (by kernel_rfl) (by simp) ?_
      refine AllReadyH.cons rfl (fun K hK => ?_) AllReadyH.nil
      go_simp
      refine hK.out _ _ ⟨n0, n3, n6, n7, n8⟩ (fun hHeld => ?_)
      clear hK K
      refine wpAnyH_done (by kernel_rfl) ?_ _
      go_wp2_with fail
      go_ret
      exact ⟨_, rfl, HN.out⟩

end

end Go.Proofs.YtdlajpjigddbhaaGreat.Px

/-
  Those that promised the bid's ballot: promised.
  Conditions: the monitor is one that New gave ('NdAt'), with a bid.
-/
namespace Go.Proofs.YtdlajpjigddbhaaGreat.Px
open Go.RowKit Wi By Fl Ba
set_option linter.unusedVariables false
set_option linter.unusedSimpArgs false
set_option maxRecDepth 100000

def encA (v : AccV) : List Value := [.int .i64 v.p.1, .int .i64 v.p.2, .int .i64 v.a.1, .int .i64 v.a.2, .slice v.x v.n v.c]

theorem arow : Row 172 113 5 56 encA := by
  have hi : (Tryz.prog.info? 113).map (fun i => (i.zero, i.size, i.bytes)) = some (some (.agg #[.int .i64 0, .int .i64 0, .int .i64 0, .int .i64 0, .slice none 0 0]), 5, 56) := by kernel_rfl
  obtain ⟨i0, h1, h2, h3, h4⟩ := info_parts hi
  exact ⟨Tryz.underlying172, ⟨i0, _, h1, h2, h3, h4, rfl⟩, by decide, by decide, fun a => rfl, fun a v hv => by simp [encA] at hv; rcases hv with rfl | rfl | rfl | rfl | rfl <;> rfl⟩

theorem new_acc (v : World) (t : TypeId) (a : AccV) : ∀ j u, (flat encA [a])[j]? = some u → (v.alloc (.cells #[.int .i64 a.p.1, .int .i64 a.p.2, .int .i64 a.a.1, .int .i64 a.a.2, .slice a.x a.n a.c] t)).cell? ((⟨v.heap.size, 0, none⟩ : Addr).add j) = some u := fun j u hj => by
  rw [add_at, Nat.zero_add]
  rw [flat_one] at hj
  match j, hj with
  | 0, hj => simpa [encA] using hj
  | 1, hj => simpa [encA] using hj
  | 2, hj => simpa [encA] using hj
  | 3, hj => simpa [encA] using hj
  | 4, hj => simpa [encA] using hj
  | j + 5, hj => simp [encA] at hj

def firstOf (V : Nat → AccV) (bal : Bt) (k : Nat) : List AccV := ((List.range k).map V).filter fun v => eqb v.p bal

theorem firstOf_succ (V : Nat → AccV) (bal : Bt) (k : Nat) : firstOf V bal (k + 1) = firstOf V bal k ++ (if eqb (V k).p bal = true then [V k] else []) := by
  unfold firstOf
  rw [List.range_succ, List.map_append, List.filter_append]
  by_cases h : eqb (V k).p bal = true <;> simp [h]

theorem firstOf_len (V : Nat → AccV) (bal : Bt) (k : Nat) : (firstOf V bal k).length ≤ k := by
  unfold firstOf
  have := List.length_filter_le (fun v : AccV => eqb v.p bal) ((List.range k).map V)
  simpa using this

structure PrL (w1 wr : World) (V : Nat → AccV) (bal : Bt) (R : Value) (k : Nat) : Prop where
  bel : Below w1.heap.size w1 wr
  own : Own wr w1.heap.size 113 5 encA R (firstOf V bal k)

section
variable {w : World} {B : Nat} {g : Ln} {st : Nd}

set_option maxHeartbeats 3200000 in
theorem promised_any (h : NdAt w B g st) (b : Bd) (hb : st.bid = some b) (hn : st.n ≤ 7) (hid_ : st.id < st.n) (hnum : b.num < 4294967296) :
    Calls Tryz.prog 122 #[.pointer (some ⟨g.p, 0, none⟩)] w fun e w' => ∃ (x : Option Addr) (m c : Nat) (V : Nat → AccV), e = .returned (.slice x m c) ∧ Hid (Below w.heap.size w w' ∧ m = (firstOf V b.bal st.n).length ∧ Own w' w.heap.size 113 5 encA (.slice x m c) (firstOf V b.bal st.n) ∧ ∀ i, i < st.n → AvOk w' (V i) ∧ acOf (V i) = stA st b i) := by
  have hS := states_any h b hb hn hid_ hnum
  rcases h.bid with ⟨_, q⟩ | ⟨l, b', q1, q2, q3, q4⟩
  · rw [hb] at q
    cases q
  rw [hb] at q2
  injection q2 with q2
  subst q2
  have hpl := h.obj.lt
  have hbl := q3.obj.lt
  have c6 : w.cell? ⟨g.p, 6, none⟩ = some (.pointer (some ⟨l.bp, 0, none⟩)) := by rw [h.c6, q1]; rfl
  have d1 : w.cell? ⟨l.bp, 1, none⟩ = some (.int .i64 b.bal.1) := q3.obj.cell (k := 1) (by omega)
  have d2 : w.cell? ⟨l.bp, 2, none⟩ = some (.int .i64 b.bal.2) := q3.obj.cell (k := 2) (by omega)
  have Hn : Hid (st.n ≤ 7) := hn
  have nI : (st.n : Int) ≤ 7 := by omega
  clear h q1 q3 q4 hn hid_ hnum hb
  have HB : Hid (b.bal = (b.bal.1, b.bal.2)) := rfl
  generalize b.bal = bal at *
  generalize stA st b = SA at *
  generalize st.n = n at *
  go_enter Tryz.func122, Tryz.ntmps122
  go_wp2_with (first
    | (
       go_at_call 120; refine hS.mono ?_; rintro e w1 ⟨V, rfl, H1⟩; clear hS
       have p6 := keep H1.out.1 c6
       have e1 := keep H1.out.1 d1
       have e2 := keep H1.out.1 d2
       clear c6 d1 d2))
  go_loopw [3, 5, 9] (fun out _ i wr => ∃ (k : Nat) (x : Option Addr) (m c : Nat), k ≤ n ∧ i = .int .i64 k ∧ out = .slice x m c ∧ Hid (PrL w1 wr V bal (.slice x m c) k)) (fun _ _ i _ => n - (intOf i).toNat)
  case atStart => exact ⟨0, none, 0, 0, by omega, rfl, rfl, Below.refl _ _, Own.nil _ _ _ _ _⟩
  case round =>
    obtain ⟨k, x, m, c, hk, rfl, rfl, HR⟩ := hrel
    by_cases hlt : k < n
    · have hkn : (k : Int) < (n : Int) := by omega
      have hA := H1.out.2.1.below HR.out.bel
      obtain ⟨b0, o0, q, hb0, hc⟩ := hA.row.resolve_left (by omega)
      injection q with q
      injection q with q q' _
      subst q
      subst q'
      obtain ⟨c0, c1, c2, c3, c4⟩ := hc k hlt
      rw [Nat.zero_add] at c0 c1 c2 c3 c4
      have b6 := keep HR.out.bel p6
      have b1 := keep HR.out.bel e1
      have b2 := keep HR.out.bel e2
      have hE := fun W => eq_bt (V k).p.1 (V k).p.2 bal.1 bal.2 W
      have ht : (decide ((V k).p.1 = bal.1) && decide ((V k).p.2 = bal.2)) = eqb (V k).p bal := rfl
      rw [ht] at hE
      have HF := hid (firstOf_succ V bal k)
      have hml : m = (firstOf V bal k).length := by
        obtain ⟨x2, c2', e3, _⟩ := HR.out.own.form
        injection e3
      have hm7 : m ≤ 7 := by have := firstOf_len V bal k; have := Hn.out; omega
      have bW := al wr (.cells #[.int .i64 (V k).p.1, .int .i64 (V k).p.2, .int .i64 (V k).a.1, .int .i64 (V k).a.2, .slice (V k).x (V k).n (V k).c] 113)
      have bD : Below wr.heap.size wr (wr.alloc (.cells #[.int .i64 (V k).p.1, .int .i64 (V k).p.2, .int .i64 (V k).a.1, .int .i64 (V k).a.2, .slice (V k).x (V k).n (V k).c] 113)).drew := on bW (Below.refl _ _).drew
      have HAP : Hid (∃ x' c' w3, (Builtin.append_ #[172, 172] 172 #[.slice x m c, .slice (some ⟨(wr.alloc (.cells #[.int .i64 (V k).p.1, .int .i64 (V k).p.2, .int .i64 (V k).a.1, .int .i64 (V k).a.2, .slice (V k).x (V k).n (V k).c] 113)).drew.heap.size, 0, none⟩) 1 1]).run Tryz.prog ((wr.alloc (.cells #[.int .i64 (V k).p.1, .int .i64 (V k).p.2, .int .i64 (V k).a.1, .int .i64 (V k).a.2, .slice (V k).x (V k).n (V k).c] 113)).drew.alloc (.cells #[.int .i64 (V k).p.1, .int .i64 (V k).p.2, .int .i64 (V k).a.1, .int .i64 (V k).a.2, .slice (V k).x (V k).n (V k).c] 113)) = .ok (.slice x' (m + 1) c') w3 ∧ Hid (Below w1.heap.size w1 w3 ∧ Own w3 w1.heap.size 113 5 encA (.slice x' (m + 1) c') (firstOf V bal k ++ [V k]))) := by
        have ho := HR.out.own.below (on bD (al _ (.cells #[.int .i64 (V k).p.1, .int .i64 (V k).p.2, .int .i64 (V k).a.1, .int .i64 (V k).a.2, .slice (V k).x (V k).n (V k).c] 113)))
        obtain ⟨x', c', w3, hap, HP⟩ := ho.push arow (Nat.le_trans HR.out.bel.size (on bD (al _ _)).size) ⟨_, 0, none⟩ 1 1 [V k] rfl (new_acc _ _ (V k)) (by omega)
        rw [← hml] at hap HP
        refine ⟨x', c', w3, hap, ?_, HP.out.1⟩
        exact (on HR.out.bel (on bD (al _ _))).trans (HP.out.2.1.below (fun j hj => (ho.tb hj).1) (Nat.le_trans HR.out.bel.size (on bD (al _ _)).size))
      have hbox0 : (wr.alloc (.cells #[.int .i64 (V k).p.1, .int .i64 (V k).p.2, .int .i64 (V k).a.1, .int .i64 (V k).a.2, .slice (V k).x (V k).n (V k).c] 113)).drew.cell? ⟨wr.heap.size, 0, none⟩ = some (.int .i64 (V k).p.1) := by go_simp
      have hbox1 : (wr.alloc (.cells #[.int .i64 (V k).p.1, .int .i64 (V k).p.2, .int .i64 (V k).a.1, .int .i64 (V k).a.2, .slice (V k).x (V k).n (V k).c] 113)).drew.cell? ⟨wr.heap.size, 1, none⟩ = some (.int .i64 (V k).p.2) := by go_simp
      have hbox2 : (wr.alloc (.cells #[.int .i64 (V k).p.1, .int .i64 (V k).p.2, .int .i64 (V k).a.1, .int .i64 (V k).a.2, .slice (V k).x (V k).n (V k).c] 113)).drew.cell? ⟨wr.heap.size, 2, none⟩ = some (.int .i64 (V k).a.1) := by go_simp
      have hbox3 : (wr.alloc (.cells #[.int .i64 (V k).p.1, .int .i64 (V k).p.2, .int .i64 (V k).a.1, .int .i64 (V k).a.2, .slice (V k).x (V k).n (V k).c] 113)).drew.cell? ⟨wr.heap.size, 3, none⟩ = some (.int .i64 (V k).a.2) := by go_simp
      have hbox4 : (wr.alloc (.cells #[.int .i64 (V k).p.1, .int .i64 (V k).p.2, .int .i64 (V k).a.1, .int .i64 (V k).a.2, .slice (V k).x (V k).n (V k).c] 113)).drew.cell? ⟨wr.heap.size, 4, none⟩ = some (.slice (V k).x (V k).n (V k).c) := by go_simp
      have b6 := keep bD b6
      have b1 := keep bD b1
      have b2 := keep bD b2
      have HBD := hid (on HR.out.bel bD)
      have HOW := hid (HR.out.own.below bD)
      clear hA hc hb0 HR ht hml bW
      generalize hvk : V k = vk at *
      obtain ⟨⟨p1, p2⟩, ⟨a1, a2⟩, ax, an, acp, ad⟩ := vk
      dsimp only at *
      cases ht : eqb (p1, p2) bal with
      | true =>
        rw [ht] at hE HF
        rw [if_pos rfl] at HF
        clear ht HOW
        go_wp2_with fail
        refine wp_region_held_drew (S := fun v => v.cell? ⟨wr.heap.size, 0, none⟩ = some (.int .i64 p1) ∧ v.cell? ⟨wr.heap.size, 1, none⟩ = some (.int .i64 p2) ∧ v.cell? ⟨g.p, 6, none⟩ = some (.pointer (some ⟨l.bp, 0, none⟩)) ∧ v.cell? ⟨l.bp, 1, none⟩ = some (.int .i64 bal.1) ∧ v.cell? ⟨l.bp, 2, none⟩ = some (.int .i64 bal.2)) (by kernel_rfl) ⟨hbox0, hbox1, b6, b1, b2⟩ (fun hHeld => ?_)
        generalize (wr.alloc (.cells #[.int .i64 p1, .int .i64 p2, .int .i64 a1, .int .i64 a2, .slice ax an acp] 113)).drew = wD at *
        refine wpAnyH_take (i := 0) (v := ?_) rfl (by kernel_rfl) (by kernel_rfl) (by kernel_rfl) (fun _ _ _ h => h) (Or.inl ⟨by rfl, ?_⟩) (by assumption) ?_
        case refine_2 => (intro w hSw; (try dsimp only at hSw); go_simp; (try with_reducible rfl))
        (try simp only [Act.put, List.getElem_toArray, List.getElem_cons_succ, List.getElem_cons_zero, List.setIfInBounds_toArray, List.set_cons_zero, List.set_cons_succ])
        refine wpAnyH_take (i := 1) (v := ?_) rfl (by kernel_rfl) (by kernel_rfl) (by kernel_rfl) (fun _ _ _ h => h) (Or.inl ⟨by rfl, ?_⟩) (by assumption) ?_
        case refine_2 => (intro w hSw; (try dsimp only at hSw); go_simp; (try with_reducible rfl))
        (try simp only [Act.put, List.getElem_toArray, List.getElem_cons_succ, List.getElem_cons_zero, List.setIfInBounds_toArray, List.set_cons_zero, List.set_cons_succ])
        refine wpAnyH_take (i := 2) (v := ?_) rfl (by kernel_rfl) (by kernel_rfl) (by kernel_rfl) (fun _ _ _ h => h) (Or.inl ⟨by rfl, ?_⟩) (by assumption) ?_
        case refine_2 => (intro w hSw; (try dsimp only at hSw); go_simp; (try with_reducible rfl))
        (try simp only [Act.put, List.getElem_toArray, List.getElem_cons_succ, List.getElem_cons_zero, List.setIfInBounds_toArray, List.set_cons_zero, List.set_cons_succ])
        refine wpAnyH_take (i := 3) (v := ?_) rfl (by kernel_rfl) (by kernel_rfl) (by kernel_rfl) (fun _ _ _ h => h) (Or.inl ⟨by rfl, ?_⟩) (by assumption) ?_
        case refine_2 => (intro w hSw; (try dsimp only at hSw); go_simp; (try with_reducible rfl))
        (try simp only [Act.put, List.getElem_toArray, List.getElem_cons_succ, List.getElem_cons_zero, List.setIfInBounds_toArray, List.set_cons_zero, List.set_cons_succ])
        refine wpAnyH_take (i := 4) (v := ?_) rfl (by kernel_rfl) (by kernel_rfl) (by kernel_rfl) (fun _ _ _ h => h) (Or.inl ⟨by rfl, ?_⟩) (by assumption) ?_
        case refine_2 => (intro w hSw; (try dsimp only at hSw); go_simp; (try with_reducible rfl))
        (try simp only [Act.put, List.getElem_toArray, List.getElem_cons_succ, List.getElem_cons_zero, List.setIfInBounds_toArray, List.set_cons_zero, List.set_cons_succ])
        refine wpAnyH_take (i := 5) (v := ?_) rfl (by kernel_rfl) (by kernel_rfl) (by kernel_rfl) (fun _ _ _ h => h) (Or.inl ⟨by rfl, ?_⟩) (by assumption) ?_
        case refine_2 => (intro w hSw; (try dsimp only at hSw); go_simp; (try with_reducible rfl))
        (try simp only [Act.put, List.getElem_toArray, List.getElem_cons_succ, List.getElem_cons_zero, List.setIfInBounds_toArray, List.set_cons_zero, List.set_cons_succ])
        refine wpAnyH_take (i := 6) (v := ?_) rfl (by kernel_rfl) (by kernel_rfl) (by kernel_rfl) (fun _ _ _ h => h) (Or.inl ⟨by rfl, ?_⟩) (by assumption) ?_
        case refine_2 => (intro w hSw; (try dsimp only at hSw); go_simp; (try with_reducible rfl))
        (try simp only [Act.put, List.getElem_toArray, List.getElem_cons_succ, List.getElem_cons_zero, List.setIfInBounds_toArray, List.set_cons_zero, List.set_cons_succ])
        refine wpAnyH_take (i := 7) (v := ?_) rfl (by kernel_rfl) (by kernel_rfl) (by kernel_rfl) (fun _ _ _ h => h) (Or.inl ⟨by rfl, ?_⟩) (by assumption) ?_
        case refine_2 => (intro w hSw; (try dsimp only at hSw); go_simp; (try with_reducible rfl))
        (try simp only [Act.put, List.getElem_toArray, List.getElem_cons_succ, List.getElem_cons_zero, List.setIfInBounds_toArray, List.set_cons_zero, List.set_cons_succ])
        refine wpAnyH_take (i := 8) (v := ?_) rfl (by kernel_rfl) (by kernel_rfl) (by kernel_rfl) (fun _ _ _ h => h) (Or.inl ⟨by rfl, ?_⟩) (by assumption) ?_
        case refine_2 => (intro w hSw; (try dsimp only at hSw); go_simp; (try with_reducible rfl))
        (try simp only [Act.put, List.getElem_toArray, List.getElem_cons_succ, List.getElem_cons_zero, List.setIfInBounds_toArray, List.set_cons_zero, List.set_cons_succ])
        refine wpAnyH_take (i := 9) (v := ?_) rfl (by kernel_rfl) (by kernel_rfl) (by kernel_rfl) (fun _ _ _ h => h) (Or.inl ⟨by rfl, ?_⟩) (by assumption) ?_
        case refine_2 => (intro w hSw; (try dsimp only at hSw); go_simp; (try with_reducible rfl))
        (try simp only [Act.put, List.getElem_toArray, List.getElem_cons_succ, List.getElem_cons_zero, List.setIfInBounds_toArray, List.set_cons_zero, List.set_cons_succ])
        refine wpAnyH_done (by kernel_rfl) ?_ _
        obtain ⟨x', c', w3, hap, H3⟩ := HAP.out
        clear HAP hHeld
        go_wp2_with (first
          | (
             at_builtin; refine wpList_append_run rfl _ _ 172 rfl _ _ rfl rfl hap ?_; clear hap))
        go_roundw
        case rel => exact ⟨k + 1, x', m + 1, c', by omega, by go_num, rfl, H3.out.1, by rw [HF.out]; exact H3.out.2⟩
        case measure => simp [intOf]; omega
      | false =>
        rw [ht] at hE HF
        rw [if_neg (by simp), List.append_nil] at HF
        clear ht HAP
        go_wp2_with fail
        refine wp_region_held_drew (S := fun v => v.cell? ⟨wr.heap.size, 0, none⟩ = some (.int .i64 p1) ∧ v.cell? ⟨wr.heap.size, 1, none⟩ = some (.int .i64 p2) ∧ v.cell? ⟨g.p, 6, none⟩ = some (.pointer (some ⟨l.bp, 0, none⟩)) ∧ v.cell? ⟨l.bp, 1, none⟩ = some (.int .i64 bal.1) ∧ v.cell? ⟨l.bp, 2, none⟩ = some (.int .i64 bal.2)) (by kernel_rfl) ⟨hbox0, hbox1, b6, b1, b2⟩ (fun hHeld => ?_)
        generalize (wr.alloc (.cells #[.int .i64 p1, .int .i64 p2, .int .i64 a1, .int .i64 a2, .slice ax an acp] 113)).drew = wD at *
        refine wpAnyH_take (i := 0) (v := ?_) rfl (by kernel_rfl) (by kernel_rfl) (by kernel_rfl) (fun _ _ _ h => h) (Or.inl ⟨by rfl, ?_⟩) (by assumption) ?_
        case refine_2 => (intro w hSw; (try dsimp only at hSw); go_simp; (try with_reducible rfl))
        (try simp only [Act.put, List.getElem_toArray, List.getElem_cons_succ, List.getElem_cons_zero, List.setIfInBounds_toArray, List.set_cons_zero, List.set_cons_succ])
        refine wpAnyH_take (i := 1) (v := ?_) rfl (by kernel_rfl) (by kernel_rfl) (by kernel_rfl) (fun _ _ _ h => h) (Or.inl ⟨by rfl, ?_⟩) (by assumption) ?_
        case refine_2 => (intro w hSw; (try dsimp only at hSw); go_simp; (try with_reducible rfl))
        (try simp only [Act.put, List.getElem_toArray, List.getElem_cons_succ, List.getElem_cons_zero, List.setIfInBounds_toArray, List.set_cons_zero, List.set_cons_succ])
        refine wpAnyH_take (i := 2) (v := ?_) rfl (by kernel_rfl) (by kernel_rfl) (by kernel_rfl) (fun _ _ _ h => h) (Or.inl ⟨by rfl, ?_⟩) (by assumption) ?_
        case refine_2 => (intro w hSw; (try dsimp only at hSw); go_simp; (try with_reducible rfl))
        (try simp only [Act.put, List.getElem_toArray, List.getElem_cons_succ, List.getElem_cons_zero, List.setIfInBounds_toArray, List.set_cons_zero, List.set_cons_succ])
        refine wpAnyH_take (i := 3) (v := ?_) rfl (by kernel_rfl) (by kernel_rfl) (by kernel_rfl) (fun _ _ _ h => h) (Or.inl ⟨by rfl, ?_⟩) (by assumption) ?_
        case refine_2 => (intro w hSw; (try dsimp only at hSw); go_simp; (try with_reducible rfl))
        (try simp only [Act.put, List.getElem_toArray, List.getElem_cons_succ, List.getElem_cons_zero, List.setIfInBounds_toArray, List.set_cons_zero, List.set_cons_succ])
        refine wpAnyH_take (i := 4) (v := ?_) rfl (by kernel_rfl) (by kernel_rfl) (by kernel_rfl) (fun _ _ _ h => h) (Or.inl ⟨by rfl, ?_⟩) (by assumption) ?_
        case refine_2 => (intro w hSw; (try dsimp only at hSw); go_simp; (try with_reducible rfl))
        (try simp only [Act.put, List.getElem_toArray, List.getElem_cons_succ, List.getElem_cons_zero, List.setIfInBounds_toArray, List.set_cons_zero, List.set_cons_succ])
        refine wpAnyH_take (i := 5) (v := ?_) rfl (by kernel_rfl) (by kernel_rfl) (by kernel_rfl) (fun _ _ _ h => h) (Or.inl ⟨by rfl, ?_⟩) (by assumption) ?_
        case refine_2 => (intro w hSw; (try dsimp only at hSw); go_simp; (try with_reducible rfl))
        (try simp only [Act.put, List.getElem_toArray, List.getElem_cons_succ, List.getElem_cons_zero, List.setIfInBounds_toArray, List.set_cons_zero, List.set_cons_succ])
        refine wpAnyH_take (i := 6) (v := ?_) rfl (by kernel_rfl) (by kernel_rfl) (by kernel_rfl) (fun _ _ _ h => h) (Or.inl ⟨by rfl, ?_⟩) (by assumption) ?_
        case refine_2 => (intro w hSw; (try dsimp only at hSw); go_simp; (try with_reducible rfl))
        (try simp only [Act.put, List.getElem_toArray, List.getElem_cons_succ, List.getElem_cons_zero, List.setIfInBounds_toArray, List.set_cons_zero, List.set_cons_succ])
        refine wpAnyH_take (i := 7) (v := ?_) rfl (by kernel_rfl) (by kernel_rfl) (by kernel_rfl) (fun _ _ _ h => h) (Or.inl ⟨by rfl, ?_⟩) (by assumption) ?_
        case refine_2 => (intro w hSw; (try dsimp only at hSw); go_simp; (try with_reducible rfl))
        (try simp only [Act.put, List.getElem_toArray, List.getElem_cons_succ, List.getElem_cons_zero, List.setIfInBounds_toArray, List.set_cons_zero, List.set_cons_succ])
        refine wpAnyH_take (i := 8) (v := ?_) rfl (by kernel_rfl) (by kernel_rfl) (by kernel_rfl) (fun _ _ _ h => h) (Or.inl ⟨by rfl, ?_⟩) (by assumption) ?_
        case refine_2 => (intro w hSw; (try dsimp only at hSw); go_simp; (try with_reducible rfl))
        (try simp only [Act.put, List.getElem_toArray, List.getElem_cons_succ, List.getElem_cons_zero, List.setIfInBounds_toArray, List.set_cons_zero, List.set_cons_succ])
        refine wpAnyH_take (i := 9) (v := ?_) rfl (by kernel_rfl) (by kernel_rfl) (by kernel_rfl) (fun _ _ _ h => h) (Or.inl ⟨by rfl, ?_⟩) (by assumption) ?_
        case refine_2 => (intro w hSw; (try dsimp only at hSw); go_simp; (try with_reducible rfl))
        (try simp only [Act.put, List.getElem_toArray, List.getElem_cons_succ, List.getElem_cons_zero, List.setIfInBounds_toArray, List.set_cons_zero, List.set_cons_succ])
        refine wpAnyH_done (by kernel_rfl) ?_ _
        go_wp2_with fail
        go_roundw
        case rel => exact ⟨k + 1, x, m, c, by omega, by go_num, rfl, HBD.out, by rw [HF.out]; exact HOW.out⟩
        case measure => simp [intOf]; omega
    · obtain rfl : k = n := by omega
      go_wp2_with fail
      go_ret
      obtain ⟨x2, c2', e3, _⟩ := HR.out.own.form
      injection e3 with _ e4 _
      have ho := HR.out.own
      refine ⟨x, m, c, V, rfl, on H1.out.1 HR.out.bel, e4, ⟨ho.1, ?_⟩, fun i hi => ⟨(H1.out.2.2 i hi).1.turns (Turns.of_below (F := fun _ => False) HR.out.bel) (fun _ h => h.elim), (H1.out.2.2 i hi).2⟩⟩
      rcases ho.2 with h0 | ⟨gg, cc, cur, h1, h2, h3⟩
      · exact .inl h0
      · exact .inr ⟨gg, cc, cur, h1, Nat.le_trans H1.out.1.size h2, h3⟩

end

end Go.Proofs.YtdlajpjigddbhaaGreat.Px
