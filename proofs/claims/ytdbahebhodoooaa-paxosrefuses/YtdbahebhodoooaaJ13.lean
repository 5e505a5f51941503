/-
  4 texts of this proof, one behind the other: PxLearn, PxSend, PxArr, PxHigh.
-/
import Derived.Test.YtdbahebhodoooaaJ12
import Derived.Laws.MakeOwn
/-
  A monitor learns a decree.
  Conditions: the monitor is one that New gave ('NdAt').
-/
namespace Go.Proofs.Ytdbahebhodoooaa.Px
open Go.RowKit Wi By Fl Ba
set_option linter.unusedVariables false
set_option linter.unusedSimpArgs false
set_option maxRecDepth 100000

theorem st_delete {P : Program} {w w' : World} {ops : Array Oper} {o : Oper} {a : Act} {K : Act → World → Prop} {Q : Exit → Act → World → Prop} {v' : Value} (hg : Region.wanted o (yielded ops a.tmps) = true) (s x : Operand) (t k : TypeId)
    (ho : o.op = .call { callee := .builtin .delete, args := #[s, x], argTypes := #[t, k] }) (v1 v2 : Value) (hs : a.eval s = v1) (hx : a.eval x = v2) (hr : (Builtin.delete_ #[t, k] o.type #[v1, v2]).run P w = .ok v' w')
    (h : K (a.put o.dst v') w') : if Region.wanted o (yielded ops a.tmps) = true then Oper.wp P o a w K Q else K (a.put o.dst undef) w := by
  rw [if_pos hg]
  unfold Oper.wp execOp
  simp only [ho, resolve, invoke, builtin, Sem.run_bind, Sem.run_pure, Result.andThen_ok, List.map_toArray, List.map_cons, List.map_nil, hs, hx, hr]
  exact h

section
variable {w w1 : World} {B : Nat} {g : Ln} {st : Nd}

theorem NdAt.setA (h : NdAt w B g st) {nb' : Nat} {D' : DataW Value} {M' : Nat → Ac} (ha : ApAt w1 g.mb nb' D' M') (t : Turns (atB g.mb) w w1) : NdAt w1 B { g with nb := nb', D := D' } { st with acc := M' } := by
  have hu := mb_not_u8 h.acc.isM
  refine ⟨t.blk h.obj (fun e => h.pm e), h.dec.turns t (fun q hq e => h.md (by have e' : q = g.mb := e; rw [← e']; exact hq)), h.wait.turns t (fun q hq e => h.mw (by have e' : q = g.mb := e; rw [← e']; exact hq)), h.ne, ha, ?_, fun k hk => h.low k hk, h.dl, h.wl, h.dok, h.wok⟩
  rcases h.bid with q | ⟨l, b, q1, q2, q3, q4⟩
  · exact .inl q
  · refine .inr ⟨l, b, q1, q2, q3.turns t (fun e => ?_) (fun e => q4 e) hu, q4⟩
    have e' : l.bp = g.mb := e
    exact q3.obj.tb.not_map (e' ▸ h.acc.isM)

theorem NdAt.noBid (h : NdAt w B g st) : NdAt (w.setCell ⟨g.p, 6, none⟩ (.pointer none)) B { g with b := none } { st with bid := none } := by
  have t : Turns (atB g.p) w (w.setCell ⟨g.p, 6, none⟩ (.pointer none)) := turns_put (Turns.refl _ _) 6 _
  have hu := p_not_u8 h
  refine ⟨(h.obj.set 6 _).congr (fun j hj => ?_), ?_, ?_, h.ne, ?_, .inl ⟨rfl, rfl⟩, fun k hk => h.low k ?_, h.dl, h.wl, h.dok, h.wok⟩
  · rcases j with _ | _ | _ | _ | _ | _ | _ | _ | j <;> first | rfl | omega
  · exact h.dec.turns t (fun q hq e => h.pd (by have e' : q = g.p := e; rw [← e']; exact hq))
  · exact h.wait.turns t (fun q hq e => h.pw (by have e' : q = g.p := e; rw [← e']; exact hq))
  · exact h.acc.turns t (fun e => h.pm (by have e' : g.mb = g.p := e; exact e'.symm)) hu
  · rcases hk with q | q | q | q | ⟨l, q, _⟩
    · exact .inl q
    · exact .inr (.inl q)
    · exact .inr (.inr (.inl q))
    · exact .inr (.inr (.inr (.inl q)))
    · cases q

def learned (st : Nd) (d : Dc) : Nd := { st with dec := st.dec ++ [d], acc := upA st.acc (st.dec.length + 1) noAc, bid := none, wait := left d st.wait }

theorem left_mem {d e : Dc} {L : List Dc} (h : e ∈ left d L) : e ∈ L := (List.mem_filter.1 h).1
theorem left_len (d : Dc) (L : List Dc) : (left d L).length ≤ L.length := List.length_filter_le _ _

/- The last step: what waits, behind DeleteFunc. -/
theorem wait_left (h : NdAt w B g st) (d : Dc) (bx : Nat) (hb : Box2 w bx d) (hbg : ¬ fp g bx) :
    Calls Try.prog 75 #[g.Rw, .func (.func 76) #[] #[.pointer (some ⟨bx, 0, none⟩)]] w fun e w' => ∃ y q cy, e = .returned (.slice y q cy) ∧ w'.cell? ⟨g.p, 5, none⟩ = some g.Rw ∧ w'.frozen? ⟨g.p, 5, none⟩ = false ∧ Hid (Goes w (w'.setCell ⟨g.p, 5, none⟩ (.slice y q cy)) B g { st with wait := left d st.wait } 0) := by
  obtain ⟨x, c, hR, hlc, hnil, hsome⟩ := h.wait.form
  have hwl := h.wl
  have hll := left_len d st.wait
  rw [hR]
  cases x with
  | none =>
    obtain ⟨h0, hc0⟩ := hnil rfl
    have hL0 : st.wait = [] := List.eq_nil_of_length_eq_zero h0
    rw [h0, hc0]
    refine (deletef_nil w _).mono fun e w' ⟨e1, e2⟩ => ⟨none, 0, 0, e1, ?_, ?_, ?_⟩
    · rw [e2, h.c5, hR, h0, hc0]
    · rw [e2]; exact h.fz 5
    · rw [e2]
      refine h.setW (Turns.refl _ w) (.slice none 0 0) (left d st.wait) ?_ (fun k e => (by cases e)) (by omega) (fun e he => h.wok e (left_mem he))
      rw [hL0]
      exact Own.nil _ _ _ _ _
  | some ad =>
    obtain ⟨gb, rfl, hg1, hg2⟩ := hsome ad rfl
    have own := h.wait
    rw [hR] at own
    have hne : bx ≠ gb := fun e => hbg (by
      subst e
      refine .inr (.inr (.inr (.inl ?_)))
      rw [hR]
      rfl)
    refine (deletef_any d own hb hne).mono fun e w' ⟨q, e1, H⟩ => ?_
    obtain ⟨hq, ho, ht⟩ := H.out
    have hT : Turns (fun j => g.Rw.ownBlock = some j) w w' := ht.weak (fun j e => by rw [hR, e]; rfl)
    have b3 := h.obj_keep hT (fun e => h.pw e)
    refine ⟨some ⟨gb, 0, none⟩, q, c, e1, ?_, b3.frozen 5, ?_⟩
    · rw [← hR]; exact b3.cell (k := 5) (by omega)
    · refine h.setW hT _ _ ho (fun k e => .inl ?_) (by omega) (fun e he => h.wok e (left_mem he))
      rw [hR]
      exact e

set_option maxHeartbeats 3200000 in
theorem learn_any (h : NdAt w B g st) (d : Dc) (hd : DOk d) (hl : st.dec.length < 70000) :
    Calls Try.prog 53 #[.pointer (some ⟨g.p, 0, none⟩), dv d] w fun e w' => e = .returned (.tuple #[]) ∧ Hid (Goes w w' B g (learned st d) 0) := by
  obtain ⟨y, cy, e, hmc⟩ := h.rd
  have bW := al w (.cells #[.int .i64 d.mon, .int .i64 d.ser, .string d.val] 68)
  have bD : Below w.heap.size w (w.alloc (.cells #[.int .i64 d.mon, .int .i64 d.ser, .string d.val] 68)).drew := on bW (Below.refl _ _).drew
  have k2 := h.below bD
  have hpl := h.obj.lt
  -- region 1
  have HU : Hid (∃ x' c' w3, (Builtin.append_ #[59, 59] 59 #[g.Rd, .slice (some ⟨(w.alloc (.cells #[.int .i64 d.mon, .int .i64 d.ser, .string d.val] 68)).drew.heap.size, 0, none⟩) 1 1]).run Try.prog ((w.alloc (.cells #[.int .i64 d.mon, .int .i64 d.ser, .string d.val] 68)).drew.alloc (.cells #[.int .i64 d.mon, .int .i64 d.ser, .string d.val] 68)) = .ok (.slice x' (st.dec.length + 1) c') w3 ∧
      w3.cell? ⟨g.p, 2, none⟩ = some g.Rd ∧ w3.frozen? ⟨g.p, 2, none⟩ = false ∧ w3.cell? ⟨w.heap.size, 0, none⟩ = some (.int .i64 d.mon) ∧ w3.cell? ⟨w.heap.size, 1, none⟩ = some (.int .i64 d.ser) ∧ w3.cell? ⟨w.heap.size, 2, none⟩ = some (.string d.val) ∧
      Hid (Box2 w3 w.heap.size d ∧ NdAt (w3.setCell ⟨g.p, 2, none⟩ (.slice x' (st.dec.length + 1) c')) B { g with Rd := .slice x' (st.dec.length + 1) c' } { st with dec := st.dec ++ [d] } ∧ Turns (fp g) w (w3.setCell ⟨g.p, 2, none⟩ (.slice x' (st.dec.length + 1) c')) ∧ ∀ k, fp { g with Rd := .slice x' (st.dec.length + 1) c' } k → fp g k ∨ w.heap.size + 1 ≤ k)) := by
    obtain ⟨x', c', w3, hap, HP⟩ := push_dc k2.dec (Nat.le_trans (k2.low _ (.inl rfl)) (Nat.le_of_lt k2.obj.lt)) d (by omega)
    have b3 := k2.obj_keep HP.out.2.1 (fun e => k2.pd e)
    have hbx : ¬ (g.Rd.ownBlock = some w.heap.size) := fun e => by have := (h.dec.tb e).2.lt; omega
    have bc0 : (w.alloc (.cells #[.int .i64 d.mon, .int .i64 d.ser, .string d.val] 68)).drew.cell? ⟨w.heap.size, 0, none⟩ = some (.int .i64 d.mon) := by go_simp
    have bc1 : (w.alloc (.cells #[.int .i64 d.mon, .int .i64 d.ser, .string d.val] 68)).drew.cell? ⟨w.heap.size, 1, none⟩ = some (.int .i64 d.ser) := by go_simp
    have bc2 : (w.alloc (.cells #[.int .i64 d.mon, .int .i64 d.ser, .string d.val] 68)).drew.cell? ⟨w.heap.size, 2, none⟩ = some (.string d.val) := by go_simp
    have q0 := keept HP.out.2.1 hbx bc0
    have q1 := keept HP.out.2.1 hbx bc1
    have q2 := keept HP.out.2.1 hbx bc2
    have hsz : (w.alloc (.cells #[.int .i64 d.mon, .int .i64 d.ser, .string d.val] 68)).drew.heap.size = w.heap.size + 1 := by simp
    obtain ⟨hS, hG⟩ := k2.setD HP.out.2.1 _ _ HP.out.1 HP.out.2.2 (by simp; omega) (fun e he => by
      rcases List.mem_append.1 he with q | q
      · exact h.dok e q
      · simp at q
        subst q
        exact hd)
    obtain ⟨g9, _, _, t9, _, _⟩ := hG
    refine ⟨x', c', w3, hap, b3.cell (k := 2) (by omega), b3.frozen 2, q0, q1, q2, ⟨q0, q1⟩, hS, (Turns.of_below bD).trans t9, fun k hk => ?_⟩
    rcases hk with q | q | q | q | q
    · exact .inl (.inl q)
    · exact .inl (.inr (.inl q))
    · rcases HP.out.2.2 k q with r | r
      · exact .inl (.inr (.inr (.inl r)))
      · right
        rw [hsz] at r
        exact r
    · exact .inl (.inr (.inr (.inr (.inl q))))
    · exact .inl (.inr (.inr (.inr (.inr q))))
  have s2 : (w.alloc (.cells #[.int .i64 d.mon, .int .i64 d.ser, .string d.val] 68)).drew.cell? ⟨g.p, 2, none⟩ = some g.Rd := k2.c2
  have bc0 : (w.alloc (.cells #[.int .i64 d.mon, .int .i64 d.ser, .string d.val] 68)).drew.cell? ⟨w.heap.size, 0, none⟩ = some (.int .i64 d.mon) := by go_simp
  have bc1 : (w.alloc (.cells #[.int .i64 d.mon, .int .i64 d.ser, .string d.val] 68)).drew.cell? ⟨w.heap.size, 1, none⟩ = some (.int .i64 d.ser) := by go_simp
  have bc2 : (w.alloc (.cells #[.int .i64 d.mon, .int .i64 d.ser, .string d.val] 68)).drew.cell? ⟨w.heap.size, 2, none⟩ = some (.string d.val) := by go_simp
  have HB : Hid (∀ k, fp g k → k < w.heap.size) := fun k hk => (h.u8 k hk).1
  have hl4 : Hid (st.dec.length < 70000) := hl
  clear h k2 bW bD hd hl
  rw [e] at HU s2
  clear e
  obtain ⟨n1, hn1⟩ : ∃ n1, n1 = st.dec.length + 1 := ⟨_, rfl⟩
  rw [← hn1] at HU
  have Hn1 : Hid (n1 = st.dec.length + 1) := hn1
  clear hn1
  generalize st.dec.length = dl at s2 HU hmc
  go_enter Try.func53, Try.ntmps53
  dsimp only [dv] at *
  go_wp2_with fail
  obtain ⟨x', c', w3, hap, u2, v2, q0, q1, q2, HG⟩ := HU.out
  clear HU
  refine wp_region_last (fun v => v.cell? ⟨g.p, 2, none⟩ = some (.slice y dl cy) ∧ v.cell? ⟨w.heap.size, 0, none⟩ = some (.int .i64 d.mon) ∧ v.cell? ⟨w.heap.size, 1, none⟩ = some (.int .i64 d.ser) ∧ v.cell? ⟨w.heap.size, 2, none⟩ = some (.string d.val)) 10 (by kernel_rfl) ⟨s2, bc0, bc1, bc2⟩ (fun hS => ?_)
  generalize (w.alloc (.cells #[.int .i64 d.mon, .int .i64 d.ser, .string d.val] 68)).drew = wD at *
  refine wpAnyL_take (i := 0) (v := ?_) rfl (by kernel_rfl) (by kernel_rfl) (by kernel_rfl) (by kernel_rfl) (fun _ _ _ h => h) hS (Or.inl ⟨by rfl, ?_⟩) ?_
  case refine_2 => (intro w hSw; (try dsimp only at hSw); go_simp; (try with_reducible rfl))
  (try simp only [Act.put, List.setIfInBounds_toArray, List.set_cons_zero, List.set_cons_succ])
  refine wpAnyL_take (i := 1) (v := ?_) rfl (by kernel_rfl) (by kernel_rfl) (by kernel_rfl) (by kernel_rfl) (fun _ _ _ h => h) hS (Or.inl ⟨by rfl, ?_⟩) ?_
  case refine_2 => (intro w hSw; (try dsimp only at hSw); go_simp; (try with_reducible rfl))
  (try simp only [Act.put, List.setIfInBounds_toArray, List.set_cons_zero, List.set_cons_succ])
  refine wpAnyL_take (i := 2) (v := ?_) rfl (by kernel_rfl) (by kernel_rfl) (by kernel_rfl) (by kernel_rfl) (fun _ _ _ h => h) hS (Or.inl ⟨by rfl, ?_⟩) ?_
  case refine_2 => (intro w hSw; (try dsimp only at hSw); go_simp; (try with_reducible rfl))
  (try simp only [Act.put, List.setIfInBounds_toArray, List.set_cons_zero, List.set_cons_succ])
  refine wpAnyL_take (i := 3) (v := ?_) rfl (by kernel_rfl) (by kernel_rfl) (by kernel_rfl) (by kernel_rfl) (fun _ _ _ h => h) hS (Or.inl ⟨by rfl, ?_⟩) ?_
  case refine_2 => (intro w hSw; (try dsimp only at hSw); go_simp; (try with_reducible rfl))
  (try simp only [Act.put, List.setIfInBounds_toArray, List.set_cons_zero, List.set_cons_succ])
  refine wpAnyL_take (i := 4) (v := ?_) rfl (by kernel_rfl) (by kernel_rfl) (by kernel_rfl) (by kernel_rfl) (fun _ _ _ h => h) hS (Or.inl ⟨by rfl, ?_⟩) ?_
  case refine_2 => (intro w hSw; (try dsimp only at hSw); go_simp; (try with_reducible rfl))
  (try simp only [Act.put, List.setIfInBounds_toArray, List.set_cons_zero, List.set_cons_succ])
  refine wpAnyL_take (i := 5) (v := ?_) rfl (by kernel_rfl) (by kernel_rfl) (by kernel_rfl) (by kernel_rfl) (fun _ _ _ h => h) hS (Or.inl ⟨by rfl, ?_⟩) ?_
  case refine_2 => (intro w hSw; (try dsimp only at hSw); go_simp; (try with_reducible rfl))
  (try simp only [Act.put, List.setIfInBounds_toArray, List.set_cons_zero, List.set_cons_succ])
  refine wpAnyL_one (i := 6) (by kernel_rfl) rfl (fun K hK => ?_)
  go_simp
  refine hK.out _ _ (fun _ => ⟨keep (al _ _) s2, keep (al _ _) bc0, keep (al _ _) bc1, keep (al _ _) bc2⟩) ?_
  clear hK K
  refine wpAnyL_one (i := 7) (by kernel_rfl) rfl (fun K hK => ?_)
  refine ready_append rfl _ _ 59 rfl _ _ rfl rfl hap ?_
  (try simp only [Act.put, List.getElem_toArray, List.getElem_cons_succ, List.getElem_cons_zero, List.setIfInBounds_toArray, List.set_cons_zero, List.set_cons_succ])
  refine hK.out _ _ (fun _ => ⟨u2, q0, q1, q2⟩) ?_
  clear hK K
  refine wpAnyL_one (i := 8) (by kernel_rfl) rfl (fun K hK => ?_)
  go_simp
  refine hK.out _ _ (fun _ => ⟨u2, q0, q1, q2⟩) ?_
  clear hK K
  refine wpAnyL_one (i := 9) (by kernel_rfl) rfl (fun K hK => ?_)
  go_simp
  refine hK.out _ _ (fun _ => ⟨u2, q0, q1, q2⟩) ?_
  clear hK K
  refine wpAnyL_one (i := 10) (by kernel_rfl) rfl (fun K hK => ?_)
  go_simp
  refine hK.out _ _ (fun h => absurd rfl h) ?_
  clear hK K
  refine wpAnyL_done (by kernel_rfl) ?_ _
  clear hS s2 bc0 bc1 bc2 hap u2 v2
  obtain ⟨hbox, hN, t1, f1⟩ := HG.out
  have bE : Below (w3.setCell ⟨g.p, 2, none⟩ (.slice x' n1 c')).heap.size (w3.setCell ⟨g.p, 2, none⟩ (.slice x' n1 c')) (w3.setCell ⟨g.p, 2, none⟩ (.slice x' n1 c')).drew := (Below.refl _ _).drew
  have k4 := hN.below bE
  have s3 : (w3.setCell ⟨g.p, 2, none⟩ (.slice x' n1 c')).drew.cell? ⟨g.p, 3, none⟩ = some (.map (some g.mb)) := k4.c3
  have s2 : (w3.setCell ⟨g.p, 2, none⟩ (.slice x' n1 c')).drew.cell? ⟨g.p, 2, none⟩ = some (.slice x' n1 c') := k4.c2
  obtain ⟨w5, D5, hdel0, HA⟩ := k4.acc.del n1 (by have := Hn1.out; have := hl4.out; omega) 0
  have hdel : (Builtin.delete_ #[60, 3] 0 #[.map (some g.mb), .int .i64 (n1 : Int)]).run Try.prog (w3.setCell ⟨g.p, 2, none⟩ (.slice x' n1 c')).drew = .ok (.tuple #[]) w5 := hdel0
  have k5 := k4.setA HA.out.1 HA.out.2
  have hboxE : Box2 (w3.setCell ⟨g.p, 2, none⟩ (.slice x' n1 c')).drew w.heap.size d := by
    have hpne : w.heap.size ≠ g.p := fun e => by have := HB.out g.p (.inl rfl); omega
    exact ⟨(World.cell?_setCell_other _ _ _ _ (fun e => by injection e with e _ _; exact hpne e.symm)).trans hbox.1, (World.cell?_setCell_other _ _ _ _ (fun e => by injection e with e _ _; exact hpne e.symm)).trans hbox.2⟩
  have hbox5 : Box2 w5 w.heap.size d := by
    have hmne : ¬ atB g.mb w.heap.size := fun e => by
      have e' : w.heap.size = g.mb := e
      have := HB.out g.mb (.inr (.inl rfl))
      omega
    exact ⟨keept HA.out.2 hmne hboxE.1, keept HA.out.2 hmne hboxE.2⟩
  have k6 := k5.noBid
  have hbox6 : Box2 (w5.setCell ⟨g.p, 6, none⟩ (.pointer none)) w.heap.size d := by
    have hpne : w.heap.size ≠ g.p := fun e => by have := HB.out g.p (.inl rfl); omega
    exact ⟨(World.cell?_setCell_other _ _ _ _ (fun e => by injection e with e _ _; exact hpne e.symm)).trans hbox5.1, (World.cell?_setCell_other _ _ _ _ (fun e => by injection e with e _ _; exact hpne e.symm)).trans hbox5.2⟩
  have hfp6 : ∀ k, fp ({ g with Rd := .slice x' n1 c', D := D5, b := none } : Ln) k → fp ({ g with Rd := .slice x' n1 c' } : Ln) k := fun k hk => by
    rcases hk with q | q | q | q | ⟨l, q, _⟩
    · exact .inl q
    · exact .inr (.inl q)
    · exact .inr (.inr (.inl q))
    · exact .inr (.inr (.inr (.inl q)))
    · cases q
  have hnf : ¬ fp ({ g with Rd := .slice x' n1 c', D := D5, b := none } : Ln) w.heap.size := fun hk => by
    rcases f1 _ (hfp6 _ hk) with q | q
    · have := HB.out _ q; omega
    · omega
  have k6' : NdAt (w5.setCell ⟨g.p, 6, none⟩ (.pointer none)) B ({ g with Rd := .slice x' n1 c', D := D5, b := none } : Ln) (⟨st.id, st.n, st.dec ++ [d], upA st.acc n1 noAc, st.ser, st.wait, none, st.turn⟩ : Nd) := k6
  have hW := wait_left k6' d w.heap.size hbox6 hnf
  dsimp only at hW
  have c6 : w5.cell? ⟨g.p, 6, none⟩ = some (bidV g.b) := k5.c6
  have f6 : w5.frozen? ⟨g.p, 6, none⟩ = false := k5.fz 6
  have c5 : w5.cell? ⟨g.p, 5, none⟩ = some g.Rw := k5.c5
  have s5 : w5.cell? ⟨g.p, 3, none⟩ = some (.map (some g.mb)) := k5.c3
  have s6 : w5.cell? ⟨g.p, 2, none⟩ = some (.slice x' n1 c') := k5.c2
  have HF : Hid (∀ wF, Goes (w5.setCell ⟨g.p, 6, none⟩ (.pointer none)) wF B ({ g with Rd := .slice x' n1 c', D := D5, b := none } : Ln) (learned st d) 0 → Goes w wF B g (learned st d) 0) := fun wF hG => by
    have t2 : Turns (fp g) w (w5.setCell ⟨g.p, 6, none⟩ (.pointer none)) := ((t1.trans (Turns.of_below bE)).trans (HA.out.2.weak fun k hk => .inr (.inl hk))).trans ((turns_put (Turns.refl (atB g.p) w5) 6 _).weak fun k hk => .inl hk)
    refine Goes.trans (k1 := 0) (k2 := 0) ?_ t2 ?_ (fun k hk => ?_) hG
    · rfl
    · show g.nb + 0 ≤ gnb g + 0
      unfold gnb
      omega
    · rcases f1 k (hfp6 k hk) with q | q
      · exact .inl q
      · exact .inr (by omega)
  have HL : Hid ((⟨st.id, st.n, st.dec ++ [d], upA st.acc n1 noAc, st.ser, left d st.wait, none, st.turn⟩ : Nd) = learned st d) := by
    show _ = _
    rw [Hn1.out]
    rfl
  clear hN k4 k5 k6 k6' hdel0 HG hbox hboxE hbox5 hbox6 t1 f1 hfp6 hnf
  generalize g.Rw = Rw at *
  generalize bidV g.b = bv at *
  go_wp2_with fail
  refine wp_region_held_drew (S := fun v => v.cell? ⟨g.p, 3, none⟩ = some (.map (some g.mb)) ∧ v.cell? ⟨g.p, 2, none⟩ = some (.slice x' n1 c')) (by kernel_rfl) ⟨s3, s2⟩ (fun hHeld => ?_)
  generalize (w3.setCell ⟨g.p, 2, none⟩ (.slice x' n1 c')).drew = wE at *
  refine wpAnyH_take (i := 0) (v := ?_) rfl (by kernel_rfl) (by kernel_rfl) (by kernel_rfl) (fun _ _ _ h => h) (Or.inl ⟨by rfl, ?_⟩) (by assumption) ?_
  case refine_2 => (intro w hSw; (try dsimp only at hSw); go_simp; (try with_reducible rfl))
  (try simp only [Act.put, List.getElem_toArray, List.getElem_cons_succ, List.getElem_cons_zero, List.setIfInBounds_toArray, List.set_cons_zero, List.set_cons_succ])
  refine wpAnyH_take (i := 1) (v := ?_) rfl (by kernel_rfl) (by kernel_rfl) (by kernel_rfl) (fun _ _ _ h => h) (Or.inl ⟨by rfl, ?_⟩) (by assumption) ?_
  case refine_2 => (intro w hSw; (try dsimp only at hSw); go_simp; (try with_reducible rfl))
  (try simp only [Act.put, List.getElem_toArray, List.getElem_cons_succ, List.getElem_cons_zero, List.setIfInBounds_toArray, List.set_cons_zero, List.set_cons_succ])
  refine wpAnyH_take (i := 2) (v := ?_) rfl (by kernel_rfl) (by kernel_rfl) (by kernel_rfl) (fun _ _ _ h => h) (Or.inl ⟨by rfl, ?_⟩) (by assumption) ?_
  case refine_2 => (intro w hSw; (try dsimp only at hSw); go_simp; (try with_reducible rfl))
  (try simp only [Act.put, List.getElem_toArray, List.getElem_cons_succ, List.getElem_cons_zero, List.setIfInBounds_toArray, List.set_cons_zero, List.set_cons_succ])
  refine wpAnyH_take (i := 3) (v := ?_) rfl (by kernel_rfl) (by kernel_rfl) (by kernel_rfl) (fun _ _ _ h => h) (Or.inl ⟨by rfl, ?_⟩) (by assumption) ?_
  case refine_2 => (intro w hSw; (try dsimp only at hSw); go_simp; (try with_reducible rfl))
  (try simp only [Act.put, List.getElem_toArray, List.getElem_cons_succ, List.getElem_cons_zero, List.setIfInBounds_toArray, List.set_cons_zero, List.set_cons_succ])
  refine wpAnyH_take (i := 4) (v := ?_) rfl (by kernel_rfl) (by kernel_rfl) (by kernel_rfl) (fun _ _ _ h => h) (Or.inl ⟨by rfl, ?_⟩) (by assumption) ?_
  case refine_2 => (intro w hSw; (try dsimp only at hSw); go_simp; (try with_reducible rfl))
  (try simp only [Act.put, List.getElem_toArray, List.getElem_cons_succ, List.getElem_cons_zero, List.setIfInBounds_toArray, List.set_cons_zero, List.set_cons_succ])
  refine wpAnyH_take (i := 5) (v := ?_) rfl (by kernel_rfl) (by kernel_rfl) (by kernel_rfl) (fun _ _ _ h => h) (Or.inl ⟨by rfl, ?_⟩) (by assumption) ?_
  case refine_2 => (intro w hSw; (try dsimp only at hSw); go_simp; (try with_reducible rfl))
  (try simp only [Act.put, List.getElem_toArray, List.getElem_cons_succ, List.getElem_cons_zero, List.setIfInBounds_toArray, List.set_cons_zero, List.set_cons_succ])
  refine wpAnyH_take (i := 6) (v := ?_) rfl (by kernel_rfl) (by kernel_rfl) (by kernel_rfl) (fun _ _ _ h => h) (Or.inl ⟨by rfl, ?_⟩) (by assumption) ?_
  case refine_2 => (intro w hSw; (try dsimp only at hSw); go_simp; (try with_reducible rfl))
  (try simp only [Act.put, List.getElem_toArray, List.getElem_cons_succ, List.getElem_cons_zero, List.setIfInBounds_toArray, List.set_cons_zero, List.set_cons_succ])
  refine wpAnyH_take (i := 7) (v := ?_) rfl (by kernel_rfl) (by kernel_rfl) (by kernel_rfl) (fun _ _ _ h => h) (Or.inl ⟨by rfl, ?_⟩) (by assumption) ?_
  case refine_2 => (intro w hSw; (try dsimp only at hSw); go_simp; (try with_reducible rfl))
  (try simp only [Act.put, List.getElem_toArray, List.getElem_cons_succ, List.getElem_cons_zero, List.setIfInBounds_toArray, List.set_cons_zero, List.set_cons_succ])
  refine wpAnyH_take (i := 8) (v := ?_) rfl (by kernel_rfl) (by kernel_rfl) (by kernel_rfl) (fun _ _ _ h => h) (Or.inl ⟨by rfl, ?_⟩) (by assumption) ?_
  case refine_2 => (intro w hSw; (try dsimp only at hSw); go_simp; (try with_reducible rfl))
  (try simp only [Act.put, List.getElem_toArray, List.getElem_cons_succ, List.getElem_cons_zero, List.setIfInBounds_toArray, List.set_cons_zero, List.set_cons_succ])
  refine wpAnyH_ready (rs := [9]) (by kernel_rfl) (by simp) ?_
  refine AllReadyH.cons rfl (fun K hK => ?_) AllReadyH.nil
  refine st_delete rfl _ _ 60 3 rfl _ _ rfl rfl hdel ?_
  (try simp only [Act.put, List.getElem_toArray, List.getElem_cons_succ, List.getElem_cons_zero, List.setIfInBounds_toArray, List.set_cons_zero, List.set_cons_succ])
  refine hK.out _ _ ⟨s5, s6⟩ (fun hHeld => ?_)
  clear hK K
  refine wpAnyH_done (by kernel_rfl) ?_ _
  go_wp2_with (first
    | (
       go_at_call 75; refine hW.mono ?_; rintro e w7 ⟨y7, q7, c7, rfl, u5, v5, H7⟩; clear hW))
  refine bodyPost_end (results_none rfl _ _ _) rfl ?_
  refine ⟨rfl, HF.out _ ?_⟩
  rw [← HL.out]
  exact H7.out

end

end Go.Proofs.Ytdbahebhodoooaa.Px

/-
  What a monitor sends: send, say.
  Conditions: the monitor is one that New gave ('NdAt').
-/
namespace Go.Proofs.Ytdbahebhodoooaa.Px
open Go.RowKit Wi By Fl Ba
set_option linter.unusedVariables false
set_option linter.unusedSimpArgs false
set_option maxRecDepth 100000

theorem MOk.below {w w' : World} {m : Ms} {x : Option Addr} {c : Nat} {y : Option Addr} (h : MOk w m x c y) (b : Below w.heap.size w w') : MOk w' m x c y :=
  ⟨h.kind, h.num, h.known, h.p, h.a, h.sl.below b, h.small, h.dcs.below b, h.few, h.ok⟩

section
variable {w : World} {B : Nat} {g : Ln} {st : Nd}

set_option maxHeartbeats 3200000 in
theorem send_any (h : NdAt w B g st) (hi : st.id < 7) (to : Int) (m : Ms) (x y : Option Addr) (c cy : Nat) (hm : MOk w m x c y) :
    Calls Try.prog 50 #[.pointer (some ⟨g.p, 0, none⟩), .int .i64 to, mv m x c y cy] w fun e w' => ∃ z l cz, e = .returned (.agg #[.int .i64 to, .slice z l cz]) ∧ Hid (l ≤ 500000 ∧ Vl w w' z l cz (encM m st.id)) := by
  have hE := fun (W : World) (b : Below w.heap.size w W) => enc_any m x y c cy st.id W (hm.below b) (by omega)
  have c0 := h.c0
  have hpl := h.obj.lt
  clear h hm hi
  generalize encM m st.id = L at *
  dsimp only [mv] at *
  generalize m.kind = m0 at *
  generalize m.num = m1 at *
  generalize m.st.p.1 = m2 at *
  generalize m.st.p.2 = m3 at *
  generalize m.st.a.1 = m4 at *
  generalize m.st.a.2 = m5 at *
  generalize m.st.d.length = m6 at *
  generalize m.known = m7 at *
  generalize m.decs.length = m8 at *
  generalize st.id = id at *
  generalize g.p = p at *
  go_enter Try.func50, Try.ntmps50
  go_wp2_with fail
  have bW : Below w.heap.size w ((w.alloc (.cells #[.int .i64 m0, .int .i64 m1, .int .i64 m2, .int .i64 m3, .int .i64 m4, .int .i64 m5, .slice x m6 c, .int .i64 m7, .slice y m8 cy] 76)).alloc (.cells #[.int .i64 0, .slice none 0 0] 70)).drew := on (on (al _ _) (al _ _)) (Below.refl _ _).drew
  have N0 : Nine ((w.alloc (.cells #[.int .i64 m0, .int .i64 m1, .int .i64 m2, .int .i64 m3, .int .i64 m4, .int .i64 m5, .slice x m6 c, .int .i64 m7, .slice y m8 cy] 76)).alloc (.cells #[.int .i64 0, .slice none 0 0] 70)).drew w.heap.size _ := (Nine.new w 76 (.int .i64 m0) (.int .i64 m1) (.int .i64 m2) (.int .i64 m3) (.int .i64 m4) (.int .i64 m5) (.slice x m6 c) (.int .i64 m7) (.slice y m8 cy)).keep (Turns.of_below (F := fun _ => False) (on (al _ (.cells #[.int .i64 0, .slice none 0 0] 70)) (Below.refl _ _).drew)) (fun h => h)
  have p0 : ((w.alloc (.cells #[.int .i64 m0, .int .i64 m1, .int .i64 m2, .int .i64 m3, .int .i64 m4, .int .i64 m5, .slice x m6 c, .int .i64 m7, .slice y m8 cy] 76)).alloc (.cells #[.int .i64 0, .slice none 0 0] 70)).drew.cell? ⟨p, 0, none⟩ = some (.int .i64 id) := keep bW c0
  have r0 : ((w.alloc (.cells #[.int .i64 m0, .int .i64 m1, .int .i64 m2, .int .i64 m3, .int .i64 m4, .int .i64 m5, .slice x m6 c, .int .i64 m7, .slice y m8 cy] 76)).alloc (.cells #[.int .i64 0, .slice none 0 0] 70)).drew.cell? ⟨w.heap.size + 1, 0, none⟩ = some (.int .i64 0) := by go_simp
  have r1 : ((w.alloc (.cells #[.int .i64 m0, .int .i64 m1, .int .i64 m2, .int .i64 m3, .int .i64 m4, .int .i64 m5, .slice x m6 c, .int .i64 m7, .slice y m8 cy] 76)).alloc (.cells #[.int .i64 0, .slice none 0 0] 70)).drew.cell? ⟨w.heap.size + 1, 1, none⟩ = some (.slice none 0 0) := by go_simp
  have f0 : ((w.alloc (.cells #[.int .i64 m0, .int .i64 m1, .int .i64 m2, .int .i64 m3, .int .i64 m4, .int .i64 m5, .slice x m6 c, .int .i64 m7, .slice y m8 cy] 76)).alloc (.cells #[.int .i64 0, .slice none 0 0] 70)).drew.frozen? ⟨w.heap.size + 1, 0, none⟩ = false := by go_simp
  have f1 : ((w.alloc (.cells #[.int .i64 m0, .int .i64 m1, .int .i64 m2, .int .i64 m3, .int .i64 m4, .int .i64 m5, .slice x m6 c, .int .i64 m7, .slice y m8 cy] 76)).alloc (.cells #[.int .i64 0, .slice none 0 0] 70)).drew.frozen? ⟨w.heap.size + 1, 1, none⟩ = false := by go_simp
  have n0 : ((w.alloc (.cells #[.int .i64 m0, .int .i64 m1, .int .i64 m2, .int .i64 m3, .int .i64 m4, .int .i64 m5, .slice x m6 c, .int .i64 m7, .slice y m8 cy] 76)).alloc (.cells #[.int .i64 0, .slice none 0 0] 70)).drew.cell? ⟨w.heap.size, 0, none⟩ = some (.int .i64 m0) := N0.c 0 (by omega)
  have n1 : ((w.alloc (.cells #[.int .i64 m0, .int .i64 m1, .int .i64 m2, .int .i64 m3, .int .i64 m4, .int .i64 m5, .slice x m6 c, .int .i64 m7, .slice y m8 cy] 76)).alloc (.cells #[.int .i64 0, .slice none 0 0] 70)).drew.cell? ⟨w.heap.size, 1, none⟩ = some (.int .i64 m1) := N0.c 1 (by omega)
  have n2 : ((w.alloc (.cells #[.int .i64 m0, .int .i64 m1, .int .i64 m2, .int .i64 m3, .int .i64 m4, .int .i64 m5, .slice x m6 c, .int .i64 m7, .slice y m8 cy] 76)).alloc (.cells #[.int .i64 0, .slice none 0 0] 70)).drew.cell? ⟨w.heap.size, 2, none⟩ = some (.int .i64 m2) := N0.c 2 (by omega)
  have n3 : ((w.alloc (.cells #[.int .i64 m0, .int .i64 m1, .int .i64 m2, .int .i64 m3, .int .i64 m4, .int .i64 m5, .slice x m6 c, .int .i64 m7, .slice y m8 cy] 76)).alloc (.cells #[.int .i64 0, .slice none 0 0] 70)).drew.cell? ⟨w.heap.size, 3, none⟩ = some (.int .i64 m3) := N0.c 3 (by omega)
  have n4 : ((w.alloc (.cells #[.int .i64 m0, .int .i64 m1, .int .i64 m2, .int .i64 m3, .int .i64 m4, .int .i64 m5, .slice x m6 c, .int .i64 m7, .slice y m8 cy] 76)).alloc (.cells #[.int .i64 0, .slice none 0 0] 70)).drew.cell? ⟨w.heap.size, 4, none⟩ = some (.int .i64 m4) := N0.c 4 (by omega)
  have n5 : ((w.alloc (.cells #[.int .i64 m0, .int .i64 m1, .int .i64 m2, .int .i64 m3, .int .i64 m4, .int .i64 m5, .slice x m6 c, .int .i64 m7, .slice y m8 cy] 76)).alloc (.cells #[.int .i64 0, .slice none 0 0] 70)).drew.cell? ⟨w.heap.size, 5, none⟩ = some (.int .i64 m5) := N0.c 5 (by omega)
  have n6 : ((w.alloc (.cells #[.int .i64 m0, .int .i64 m1, .int .i64 m2, .int .i64 m3, .int .i64 m4, .int .i64 m5, .slice x m6 c, .int .i64 m7, .slice y m8 cy] 76)).alloc (.cells #[.int .i64 0, .slice none 0 0] 70)).drew.cell? ⟨w.heap.size, 6, none⟩ = some (.slice x m6 c) := N0.c 6 (by omega)
  have n7 : ((w.alloc (.cells #[.int .i64 m0, .int .i64 m1, .int .i64 m2, .int .i64 m3, .int .i64 m4, .int .i64 m5, .slice x m6 c, .int .i64 m7, .slice y m8 cy] 76)).alloc (.cells #[.int .i64 0, .slice none 0 0] 70)).drew.cell? ⟨w.heap.size, 7, none⟩ = some (.int .i64 m7) := N0.c 7 (by omega)
  have n8 : ((w.alloc (.cells #[.int .i64 m0, .int .i64 m1, .int .i64 m2, .int .i64 m3, .int .i64 m4, .int .i64 m5, .slice x m6 c, .int .i64 m7, .slice y m8 cy] 76)).alloc (.cells #[.int .i64 0, .slice none 0 0] 70)).drew.cell? ⟨w.heap.size, 8, none⟩ = some (.slice y m8 cy) := N0.c 8 (by omega)
  clear N0
  refine wp_region_held_drew (S := fun v => v.cell? ⟨w.heap.size, 0, none⟩ = some (.int .i64 m0) ∧ v.cell? ⟨w.heap.size, 1, none⟩ = some (.int .i64 m1) ∧ v.cell? ⟨w.heap.size, 2, none⟩ = some (.int .i64 m2) ∧ v.cell? ⟨w.heap.size, 3, none⟩ = some (.int .i64 m3) ∧ v.cell? ⟨w.heap.size, 4, none⟩ = some (.int .i64 m4) ∧ v.cell? ⟨w.heap.size, 5, none⟩ = some (.int .i64 m5) ∧ v.cell? ⟨w.heap.size, 6, none⟩ = some (.slice x m6 c) ∧ v.cell? ⟨w.heap.size, 7, none⟩ = some (.int .i64 m7) ∧ v.cell? ⟨w.heap.size, 8, none⟩ = some (.slice y m8 cy) ∧ v.cell? ⟨p, 0, none⟩ = some (.int .i64 id)) (by kernel_rfl) ⟨n0, n1, n2, n3, n4, n5, n6, n7, n8, p0⟩ (fun hHeld => ?_)
  generalize ((w.alloc (.cells #[.int .i64 m0, .int .i64 m1, .int .i64 m2, .int .i64 m3, .int .i64 m4, .int .i64 m5, .slice x m6 c, .int .i64 m7, .slice y m8 cy] 76)).alloc (.cells #[.int .i64 0, .slice none 0 0] 70)).drew = wD at *
  refine wpAnyH_take (i := 0) (v := ?_) rfl (by kernel_rfl) (by kernel_rfl) (by kernel_rfl) (fun _ _ _ h => h) (Or.inl ⟨by rfl, ?_⟩) (by assumption) ?_
  case refine_2 => (intro w hSw; (try dsimp only at hSw); go_simp; (try with_reducible rfl))
  (try simp only [Act.put, List.getElem_toArray, List.getElem_cons_succ, List.getElem_cons_zero, List.setIfInBounds_toArray, List.set_cons_zero, List.set_cons_succ])
  refine wpAnyH_take (i := 1) (v := ?_) rfl (by kernel_rfl) (by kernel_rfl) (by kernel_rfl) (fun _ _ _ h => h) (Or.inl ⟨by rfl, ?_⟩) (by assumption) ?_
  case refine_2 => (intro w hSw; (try dsimp only at hSw); go_simp; (try with_reducible rfl))
  (try simp only [Act.put, List.getElem_toArray, List.getElem_cons_succ, List.getElem_cons_zero, List.setIfInBounds_toArray, List.set_cons_zero, List.set_cons_succ])
  refine wpAnyH_take (i := 2) (v := ?_) rfl (by kernel_rfl) (by kernel_rfl) (by kernel_rfl) (fun _ _ _ h => h) (Or.inl ⟨by rfl, ?_⟩) (by assumption) ?_
  case refine_2 => (intro w hSw; (try dsimp only at hSw); go_simp; (try with_reducible rfl))
  (try simp only [Act.put, List.getElem_toArray, List.getElem_cons_succ, List.getElem_cons_zero, List.setIfInBounds_toArray, List.set_cons_zero, List.set_cons_succ])
  refine wpAnyH_take (i := 3) (v := ?_) rfl (by kernel_rfl) (by kernel_rfl) (by kernel_rfl) (fun _ _ _ h => h) (Or.inl ⟨by rfl, ?_⟩) (by assumption) ?_
  case refine_2 => (intro w hSw; (try dsimp only at hSw); go_simp; (try with_reducible rfl))
  (try simp only [Act.put, List.getElem_toArray, List.getElem_cons_succ, List.getElem_cons_zero, List.setIfInBounds_toArray, List.set_cons_zero, List.set_cons_succ])
  refine wpAnyH_take (i := 4) (v := ?_) rfl (by kernel_rfl) (by kernel_rfl) (by kernel_rfl) (fun _ _ _ h => h) (Or.inl ⟨by rfl, ?_⟩) (by assumption) ?_
  case refine_2 => (intro w hSw; (try dsimp only at hSw); go_simp; (try with_reducible rfl))
  (try simp only [Act.put, List.getElem_toArray, List.getElem_cons_succ, List.getElem_cons_zero, List.setIfInBounds_toArray, List.set_cons_zero, List.set_cons_succ])
  refine wpAnyH_take (i := 5) (v := ?_) rfl (by kernel_rfl) (by kernel_rfl) (by kernel_rfl) (fun _ _ _ h => h) (Or.inl ⟨by rfl, ?_⟩) (by assumption) ?_
  case refine_2 => (intro w hSw; (try dsimp only at hSw); go_simp; (try with_reducible rfl))
  (try simp only [Act.put, List.getElem_toArray, List.getElem_cons_succ, List.getElem_cons_zero, List.setIfInBounds_toArray, List.set_cons_zero, List.set_cons_succ])
  refine wpAnyH_ready (rs := [6]) (by kernel_rfl) (by simp) ?_
  refine AllReadyH.cons rfl (fun K hK => ?_) AllReadyH.nil
  go_simp
  refine (hE _ bW).mono ?_
  rintro e w1 ⟨z, l, cz, rfl, H1⟩
  replace n0 := keep H1.out.2.1 n0
  replace n1 := keep H1.out.2.1 n1
  replace n2 := keep H1.out.2.1 n2
  replace n3 := keep H1.out.2.1 n3
  replace n4 := keep H1.out.2.1 n4
  replace n5 := keep H1.out.2.1 n5
  replace n6 := keep H1.out.2.1 n6
  replace n7 := keep H1.out.2.1 n7
  replace n8 := keep H1.out.2.1 n8
  replace p0 := keep H1.out.2.1 p0
  have lt1 : w.heap.size + 1 < wD.heap.size := cell_lt' r0
  replace f0 := keepf H1.out.2.1 lt1 f0
  replace f1 := keepf H1.out.2.1 lt1 f1
  replace r0 := keep H1.out.2.1 r0
  replace r1 := keep H1.out.2.1 r1
  refine hK.out _ _ ⟨n0, n1, n2, n3, n4, n5, n6, n7, n8, p0⟩ (fun hHeld => ?_)
  clear hK K
  refine wpAnyH_take (i := 7) (v := ?_) rfl (by kernel_rfl) (by kernel_rfl) (by kernel_rfl) (fun _ _ _ h => h) (Or.inl ⟨by rfl, ?_⟩) (by assumption) ?_
  case refine_2 => (intro w hSw; (try dsimp only at hSw); go_simp; (try with_reducible rfl))
  (try simp only [Act.put, List.getElem_toArray, List.getElem_cons_succ, List.getElem_cons_zero, List.setIfInBounds_toArray, List.set_cons_zero, List.set_cons_succ])
  have hpne : p ≠ w.heap.size + 1 := by omega
  refine wpAnyH_ready (rs := [8]) (by kernel_rfl) (by simp) ?_
  refine AllReadyH.cons rfl (fun K hK => ?_) AllReadyH.nil
  go_simp
  refine hK.out _ _ ⟨by go_simp, by go_simp, by go_simp, by go_simp, by go_simp, by go_simp, by go_simp, by go_simp, by go_simp, by go_simp⟩ (fun hHeld => ?_)
  clear hK K
  refine wpAnyH_done (by kernel_rfl) ?_ _
  go_wp2_with fail
  refine bodyPost_ret (v := .agg #[.int .i64 to, .slice z l cz]) ?_ rfl ⟨z, l, cz, rfl, H1.out.1, Vl.turns bW H1.out.2 ?_⟩
  · rw [results_cell1 rfl]
    go_simp
  · exact (Turns.refl _ w1).set2 (w.heap.size + 1) ⟨by omega, lt1⟩ _ _

theorem say_any (h : NdAt w B g st) (hi : st.id < 7) (to : Int) :
    Calls Try.prog 34 #[.pointer (some ⟨g.p, 0, none⟩), .int .i64 to] w fun e w' => ∃ z l cz, e = .returned (.agg #[.int .i64 to, .slice z l cz]) ∧ Hid (l ≤ 500000 ∧ Vl w w' z l cz (encM ⟨4, st.dec.length, noAc, 0, []⟩ st.id)) := by
  have hdl := h.dl
  have z0ok : BOk z0 := ⟨by show (0 : Int) ≤ 0; omega, by show (0 : Int) < _; omega, by show (0 : Int) ≤ 0; omega, by show (0 : Int) < _; omega⟩
  have hS := fun (W : World) (b : Below w.heap.size w W) => send_any (h.below b) hi to ⟨4, st.dec.length, noAc, 0, []⟩ none none 0 0 ⟨by show 4 < _; omega, by show st.dec.length < _; omega, by show 0 < _; omega, z0ok, z0ok, Fl.Sl.empty _, by show 0 ≤ _; omega, .inl rfl, by show 0 ≤ _; omega, fun d hd => by cases hd⟩
  obtain ⟨y, cy, e, _⟩ := h.rd
  have c2 := h.c2
  have hpl := h.obj.lt
  rw [e] at c2
  clear h e z0ok
  dsimp only [mv, noAc, z0, List.length_nil] at hS
  have HL : Hid (encM ⟨4, st.dec.length, noAc, 0, []⟩ st.id = encM ⟨4, st.dec.length, ⟨(0, 0), (0, 0), []⟩, 0, []⟩ st.id) := rfl
  have hnl : (st.dec.length : Int) ≤ 80000 := by omega
  generalize encM ⟨4, st.dec.length, noAc, 0, []⟩ st.id = L at *
  generalize st.dec.length = n at *
  generalize g.p = p at *
  go_enter Try.func34, Try.ntmps34
  go_wp2_with (first
    | (
       go_at_call 50; refine (hS _ (al _ _)).mono ?_; rintro e w1 ⟨z, l, cz, rfl, H1⟩; clear hS
       have r0 := keep H1.out.2.1 (b := w.heap.size) (o := 0) (x := .int .i64 0) (by first | assumption | go_simp)
       have r1 := keep H1.out.2.1 (b := w.heap.size) (o := 1) (x := .slice none 0 0) (by first | assumption | go_simp)
       have f0 := keepf H1.out.2.1 (b := w.heap.size) (o := 0) (by first | (simp <;> omega) | exact cell_lt' (a := ⟨w.heap.size, 0, none⟩) (by assumption) | (simp; exact cell_lt' (a := ⟨w.heap.size, 0, none⟩) (by assumption))) (by first | assumption | go_simp)
       have f1 := keepf H1.out.2.1 (b := w.heap.size) (o := 1) (by first | (simp <;> omega) | exact cell_lt' (a := ⟨w.heap.size, 1, none⟩) (by assumption) | (simp; exact cell_lt' (a := ⟨w.heap.size, 1, none⟩) (by assumption))) (by first | assumption | go_simp)
       skip))
  refine bodyPost_ret (v := .agg #[.int .i64 to, .slice z l cz]) ?_ rfl ⟨z, l, cz, rfl, H1.out.1, Vl.turns (al w (.cells #[.int .i64 0, .slice none 0 0] 70)) (by rw [HL.out]; exact H1.out.2) ?_⟩
  · rw [results_cell1 rfl]
    go_simp
  · exact (Turns.refl _ w1).set2 w.heap.size ⟨Nat.le_refl _, by simp⟩ _ _

end

end Go.Proofs.Ytdbahebhodoooaa.Px

/-
  Rows of acceptors that are made and written.
  Conditions: none.
-/
namespace Go.Proofs.Ytdbahebhodoooaa.Px
open Go.RowKit Wi By Fl Ba
set_option linter.unusedVariables false
set_option linter.unusedSimpArgs false
set_option maxRecDepth 100000

/- Rows of things of five cells each, written one cell at a time. -/
structure Arr (w : World) (g : Nat) (t : TypeId) (n : Nat) (f : Nat → Nat → Value) : Prop where
  tb : Tb w g t
  cell : ∀ k j, k < n → j < 5 → w.cell? ⟨g, k * 5 + j, none⟩ = some (f k j)
  frz : ∀ i, w.frozen? ⟨g, i, none⟩ = false

theorem frozen_block {w w' : World} {g i : Nat} (h : w'.heap[g]? = w.heap[g]?) : w'.frozen? ⟨g, i, none⟩ = w.frozen? ⟨g, i, none⟩ := by
  unfold World.frozen?
  rw [h]

theorem tb_set {w : World} {g : Nat} {t : TypeId} (h : Tb w g t) (k : Nat) (p : Addr) (u : Value) : Tb (w.setCell p u) g t := by
  obtain ⟨cs, z, h⟩ := h
  by_cases e : g = p.block
  · subst e
    obtain ⟨h1, h2⟩ := Array.getElem?_eq_some_iff.1 h
    simp only [World.setCell]
    refine ⟨?_, ?_, ?_⟩
    rotate_left 2
    · rw [Array.getElem?_eq_getElem (by simpa using h1), Array.getElem_modify, if_pos rfl, h2]
    all_goals skip
  · exact ⟨cs, z, (Below.heap_setCell _ _ _ _ e).trans h⟩

section
variable {w w' : World} {g n : Nat} {t : TypeId} {f : Nat → Nat → Value}

theorem Arr.turns {G : Nat → Prop} (h : Arr w g t n f) (tt : Turns G w w') (hg : ¬ G g) : Arr w' g t n f :=
  ⟨h.tb.of_heap (tt.block g h.tb.lt hg), fun k j hk hj => keept tt hg (h.cell k j hk hj), fun i => (frozen_block (tt.block g h.tb.lt hg)).trans (h.frz i)⟩

theorem Arr.below (h : Arr w g t n f) (b : Below w.heap.size w w') : Arr w' g t n f := h.turns (Turns.of_below (F := fun _ => False) b) (fun h => h)

def set1 (f : Nat → Nat → Value) (k j : Nat) (u : Value) : Nat → Nat → Value := fun k' j' => if k' = k ∧ j' = j then u else f k' j'

theorem Arr.set (h : Arr w g t n f) (k j o : Nat) (hk : k < n) (hj : j < 5) (ho : o = k * 5 + j) (u : Value) : Arr (w.setCell ⟨g, o, none⟩ u) g t n (set1 f k j u) := by
  subst ho
  refine ⟨tb_set h.tb 0 _ _, fun k' j' hk' hj' => ?_, fun i => by rw [World.frozen?_setCell]; exact h.frz i⟩
  unfold set1
  by_cases e : k' = k ∧ j' = j
  · obtain ⟨rfl, rfl⟩ := e
    rw [if_pos ⟨rfl, rfl⟩]
    exact World.cell?_setCell_same _ _ _ (h.cell k' j' hk' hj')
  · rw [if_neg e]
    refine (World.cell?_setCell_other _ _ _ _ (fun e2 => e ?_)).trans (h.cell k' j' hk' hj')
    injection e2 with _ e2 _
    omega

theorem Arr.congr {f' : Nat → Nat → Value} (h : Arr w g t n f) (e : ∀ k j, k < n → j < 5 → f k j = f' k j) : Arr w g t n f' := ⟨h.tb, fun k j hk hj => (h.cell k j hk hj).trans (by rw [e k j hk hj]), h.frz⟩

end

def accC (v : AccV) : Nat → Value := fun j => if j = 0 then .int .i64 v.p.1 else if j = 1 then .int .i64 v.p.2 else if j = 2 then .int .i64 v.a.1 else if j = 3 then .int .i64 v.a.2 else .slice v.x v.n v.c

theorem arr_new (w : World) (t : TypeId) (z : Array Value) (hz : z.size = 5) (n : Nat) : Arr (w.alloc (.cells (madeCells z (n * 5)) t)) w.heap.size t n (fun _ j => z[j]!) := by
  have hh : (w.alloc (.cells (madeCells z (n * 5)) t)).heap[w.heap.size]? = some (.cells (madeCells z (n * 5)) t (0, 0)) := heap_alloc_new _ _
  refine ⟨⟨_, _, hh⟩, fun k j hk hj => ?_, fun i => by unfold World.frozen?; rw [hh]; simp⟩
  simp only [World.cell?, hh]
  have hlt : k * 5 + j < n * 5 := by omega
  unfold madeCells
  simp [hlt, hz]
  congr 1
  omega

def accZ : Array Value := #[.int .i64 0, .int .i64 0, .int .i64 0, .int .i64 0, .slice none 0 0]
theorem make_acc (n : Nat) (hn : n ≤ 7) (w : World) : (Instr.makeSlice 115 (.int .i64 (n : Int)) (.int .i64 (n : Int))).run Try.prog w = .ok (.slice (some ⟨w.heap.size, 0, none⟩) n n) (w.alloc (.cells (madeCells accZ (n * 5)) 74)) := by
  have hi : (Try.prog.info? 74).map (fun i => (i.zero, i.size, i.bytes)) = some (some (.agg #[.int .i64 0, .int .i64 0, .int .i64 0, .int .i64 0, .slice none 0 0]), 5, 56) := by kernel_rfl
  obtain ⟨i0, h1, h2, h3, h4⟩ := info_parts hi
  have := run_make (P := Try.prog) w 115 74 i0 _ Try.underlying115 h1 h2 .i64 .i64 (n : Int) (n : Int) (by omega) (by omega) (by rw [h4]; omega) (by omega)
  rw [this, h3]
  simp
  rfl

def w5 (w : World) (g o : Nat) (u0 u1 u2 u3 u4 : Value) : World := ((((w.setCell ⟨g, o, none⟩ u0).setCell ⟨g, o + 1, none⟩ u1).setCell ⟨g, o + 2, none⟩ u2).setCell ⟨g, o + 3, none⟩ u3).setCell ⟨g, o + 4, none⟩ u4

theorem w5_turns (w : World) (g o : Nat) (u0 u1 u2 u3 u4 : Value) : Turns (atB g) w (w5 w g o u0 u1 u2 u3 u4) :=
  (((((Turns.refl (atB g) w).setCell (p := ⟨g, o, none⟩) (.inl rfl) _).setCell (p := ⟨g, o + 1, none⟩) (.inl rfl) _).setCell (p := ⟨g, o + 2, none⟩) (.inl rfl) _).setCell (p := ⟨g, o + 3, none⟩) (.inl rfl) _).setCell (p := ⟨g, o + 4, none⟩) (.inl rfl) _

theorem w5_arr {w : World} {g n : Nat} {t : TypeId} {f : Nat → Nat → Value} (h : Arr w g t n f) (k : Nat) (hk : k < n) (u : Nat → Value) (u0 u1 u2 u3 u4 : Value) (e0 : u 0 = u0) (e1 : u 1 = u1) (e2 : u 2 = u2) (e3 : u 3 = u3) (e4 : u 4 = u4) : Arr (w5 w g (k * 5) u0 u1 u2 u3 u4) g t n (up f k u) := by
  refine (((((h.set k 0 (k * 5) hk (by omega) rfl u0).set k 1 _ hk (by omega) rfl u1).set k 2 _ hk (by omega) rfl u2).set k 3 _ hk (by omega) rfl u3).set k 4 _ hk (by omega) rfl u4).congr (fun i j hi hj => ?_)
  subst e0 e1 e2 e3 e4
  unfold set1
  by_cases e : i = k
  · subst e
    rw [up_same]
    match j, hj with
    | 0, _ => simp
    | 1, _ => simp
    | 2, _ => simp
    | 3, _ => simp
    | 4, _ => simp
  · rw [up_other _ _ e]
    simp [e]


theorem ApAt.lookAll {w : World} {mb nb : Nat} {D : DataW Value} {M : Nat → Ac} (h : ApAt w mb nb D M) (k : Nat) (hk : k < 4294967296) : ∃ v : AccV, AvOk w v ∧ M k = acOf v ∧ ∀ w' : World, w'.heap[mb]? = w.heap[mb]? → (Instr.lookup 60 (.map (some mb)) (.int .i64 (k : Int)) false).run Try.prog w' = .ok (av v) w' := by
  have hL : ∀ w' : World, w'.heap[mb]? = w.heap[mb]? → ∃ u, (Instr.lookup 60 (.map (some mb)) (.int .i64 (k : Int)) false).run Try.prog w' = .ok u w' ∧ D.atKey (ilit k) (.held (ac z0 z0 none 0 0)) = .held u := fun w' hw => by
    obtain ⟨es, clock, hb, r⟩ := h.own
    have hown : w'.ownsMap Try.prog 3 hva mb nb D := ⟨es, clock, hw.trans hb, r⟩
    obtain ⟨v, ps, h1, h2⟩ := hown.lookup (t := 60) (e := 74) ilaw Try.underlying60 (azero w') rfl (ikey hk)
    have h3 := congrArg Prod.fst (hva_inv h2)
    exact ⟨v, h1, h3⟩
  rcases h.val k hk with ⟨q1, q2⟩ | ⟨u, q1, q2, q3⟩
  · refine ⟨noAv, noAv_ok w, q2, fun w' hw => ?_⟩
    obtain ⟨v, h1, h3⟩ := hL w' hw
    rw [Maps.atKey_of_not_has q1] at h3
    injection h3 with h3
    rw [h1, ← h3]
    rfl
  · refine ⟨u, q2, q3, fun w' hw => ?_⟩
    obtain ⟨v, h1, h3⟩ := hL w' hw
    rw [q1] at h3
    injection h3 with h3
    rw [h1, ← h3]

end Go.Proofs.Ytdbahebhodoooaa.Px

/-
  The highest ballot of the next decree, where nothing is asked for; ask, where a monitor is alone.
  Conditions: the monitor is one that New gave ('NdAt').
-/
namespace Go.Proofs.Ytdbahebhodoooaa.Px
open Go.RowKit Wi By Fl Ba
set_option linter.unusedVariables false
set_option linter.unusedSimpArgs false
set_option maxRecDepth 100000

section
variable {w : World} {B : Nat} {g : Ln} {st : Nd}

set_option maxHeartbeats 3200000 in
theorem highest_none (h : NdAt w B g st) (hb : st.bid = none) :
    Calls Try.prog 54 #[.pointer (some ⟨g.p, 0, none⟩)] w fun e w' => e = .returned (bt (st.acc (st.dec.length + 1)).p) ∧ Hid (Below w.heap.size w w') := by
  have hgb : g.b = none := by
    rcases h.bid with ⟨q, _⟩ | ⟨l, b, q1, q2, _⟩
    · exact q
    · rw [hb] at q2
      cases q2
  have hpl := h.obj.lt
  have hml := h.acc.lt
  have hdl := h.dl
  have c2 := h.c2
  have c3 := h.c3
  have c6 : w.cell? ⟨g.p, 6, none⟩ = some (.pointer none) := by rw [h.c6, hgb]; rfl
  obtain ⟨y, cy, e, _⟩ := h.rd
  rw [e] at c2
  obtain ⟨v, v1, v2, v3⟩ := h.acc.lookAll (st.dec.length + 1) (by omega)
  obtain ⟨n1, hn1⟩ : ∃ n1, n1 = st.dec.length + 1 := ⟨_, rfl⟩
  rw [← hn1] at v2 v3 ⊢
  have i1 : (st.dec.length : Int) + 1 = (n1 : Int) := by omega
  have wz : IntKind.i64.wrap (n1 : Int) = (n1 : Int) := wrap_i64 (by omega) (by omega)
  have HP : Hid ((st.acc n1).p = v.p) := by show (st.acc n1).p = v.p; rw [v2]; rfl
  have bD : Below w.heap.size w (w.alloc (.cells #[.int .i64 0, .int .i64 0] 72)).drew := on (al _ _) (Below.refl _ _).drew
  have s2 := keep bD c2
  have s3 := keep bD c3
  have s6 := keep bD c6
  have hlk := v3 _ (bD.block _ hml)
  have hl2 := fun o => v3 _ (((al (w.alloc (.cells #[.int .i64 0, .int .i64 0] 72)).drew o).block g.mb (by have := bD.size; omega)).trans (bD.block _ hml))
  dsimp only [av, ac] at hlk hl2
  unfold bt
  rw [HP.out]
  clear h e hgb hb v1 v2 v3 hn1 HP hdl
  generalize st.dec.length = dl at *
  generalize v.p.1 = u0 at *
  generalize v.p.2 = u1 at *
  generalize v.a.1 = u2 at *
  generalize v.a.2 = u3 at *
  generalize v.x = ux at *
  generalize v.n = un at *
  generalize v.c = uc at *
  generalize g.mb = mb at *
  generalize g.p = p at *
  have hfld : ∀ W : World, (Instr.field 74 (.agg #[.int .i64 u0, .int .i64 u1, .int .i64 u2, .int .i64 u3, .slice ux un uc]) 0).run Try.prog W = .ok (.agg #[.int .i64 u0, .int .i64 u1]) W := fun _ => by kernel_rfl
  go_enter Try.func54, Try.ntmps54
  go_wp2_with fail
  have r0 : (w.alloc (.cells #[.int .i64 0, .int .i64 0] 72)).drew.cell? ⟨w.heap.size, 0, none⟩ = some (.int .i64 0) := by go_simp
  have r1 : (w.alloc (.cells #[.int .i64 0, .int .i64 0] 72)).drew.cell? ⟨w.heap.size, 1, none⟩ = some (.int .i64 0) := by go_simp
  have f0 : (w.alloc (.cells #[.int .i64 0, .int .i64 0] 72)).drew.frozen? ⟨w.heap.size, 0, none⟩ = false := by go_simp
  have f1 : (w.alloc (.cells #[.int .i64 0, .int .i64 0] 72)).drew.frozen? ⟨w.heap.size, 1, none⟩ = false := by go_simp
  refine wp_region_held_drew (S := fun q => q.cell? ⟨p, 2, none⟩ = some (.slice y dl cy) ∧ q.cell? ⟨p, 3, none⟩ = some (.map (some mb)) ∧ (Instr.lookup 60 (.map (some mb)) (.int .i64 (n1 : Int)) false).run Try.prog q = .ok (.agg #[.int .i64 u0, .int .i64 u1, .int .i64 u2, .int .i64 u3, .slice ux un uc]) q) (by kernel_rfl) ⟨s2, s3, hlk⟩ (fun hHeld => ?_)
  generalize (w.alloc (.cells #[.int .i64 0, .int .i64 0] 72)).drew = wD at *
  refine wpAnyH_take (i := 0) (v := ?_) rfl (by kernel_rfl) (by kernel_rfl) (by kernel_rfl) (fun _ _ _ h => h) (Or.inl ⟨by rfl, ?_⟩) (by assumption) ?_
  case refine_2 => (intro w hSw; (try dsimp only at hSw); go_simp; (try with_reducible rfl))
  (try simp only [Act.put, List.getElem_toArray, List.getElem_cons_succ, List.getElem_cons_zero, List.setIfInBounds_toArray, List.set_cons_zero, List.set_cons_succ])
  refine wpAnyH_take (i := 1) (v := ?_) rfl (by kernel_rfl) (by kernel_rfl) (by kernel_rfl) (fun _ _ _ h => h) (Or.inl ⟨by rfl, ?_⟩) (by assumption) ?_
  case refine_2 => (intro w hSw; (try dsimp only at hSw); go_simp; (try with_reducible rfl))
  (try simp only [Act.put, List.getElem_toArray, List.getElem_cons_succ, List.getElem_cons_zero, List.setIfInBounds_toArray, List.set_cons_zero, List.set_cons_succ])
  refine wpAnyH_take (i := 2) (v := ?_) rfl (by kernel_rfl) (by kernel_rfl) (by kernel_rfl) (fun _ _ _ h => h) (Or.inl ⟨by rfl, ?_⟩) (by assumption) ?_
  case refine_2 => (intro w hSw; (try dsimp only at hSw); go_simp; (try with_reducible rfl))
  (try simp only [Act.put, List.getElem_toArray, List.getElem_cons_succ, List.getElem_cons_zero, List.setIfInBounds_toArray, List.set_cons_zero, List.set_cons_succ])
  refine wpAnyH_take (i := 3) (v := ?_) rfl (by kernel_rfl) (by kernel_rfl) (by kernel_rfl) (fun _ _ _ h => h) (Or.inl ⟨by rfl, ?_⟩) (by assumption) ?_
  case refine_2 => (intro w hSw; (try dsimp only at hSw); go_simp; (try with_reducible rfl))
  (try simp only [Act.put, List.getElem_toArray, List.getElem_cons_succ, List.getElem_cons_zero, List.setIfInBounds_toArray, List.set_cons_zero, List.set_cons_succ])
  refine wpAnyH_take (i := 4) (v := ?_) rfl (by kernel_rfl) (by kernel_rfl) (by kernel_rfl) (fun _ _ _ h => h) (Or.inl ⟨by rfl, ?_⟩) (by assumption) ?_
  case refine_2 => (intro w hSw; (try dsimp only at hSw); go_simp; (try with_reducible rfl))
  (try simp only [Act.put, List.getElem_toArray, List.getElem_cons_succ, List.getElem_cons_zero, List.setIfInBounds_toArray, List.set_cons_zero, List.set_cons_succ])
  refine wpAnyH_take (i := 5) (v := ?_) rfl (by kernel_rfl) (by kernel_rfl) (by kernel_rfl) (fun _ _ _ h => h) (Or.inl ⟨by rfl, ?_⟩) (by assumption) ?_
  case refine_2 => (intro w hSw; (try dsimp only at hSw); go_simp; (try with_reducible rfl))
  (try simp only [Act.put, List.getElem_toArray, List.getElem_cons_succ, List.getElem_cons_zero, List.setIfInBounds_toArray, List.set_cons_zero, List.set_cons_succ])
  refine wpAnyH_take (i := 6) (v := ?_) rfl (by kernel_rfl) (by kernel_rfl) (by kernel_rfl) (fun _ _ _ h => h) (Or.inl ⟨by rfl, ?_⟩) (by assumption) ?_
  case refine_2 => (intro w hSw; (try dsimp only at hSw); go_simp; (try with_reducible rfl))
  (try simp only [Act.put, List.getElem_toArray, List.getElem_cons_succ, List.getElem_cons_zero, List.setIfInBounds_toArray, List.set_cons_zero, List.set_cons_succ])
  refine wpAnyH_take (i := 7) (v := ?_) rfl (by kernel_rfl) (by kernel_rfl) (by kernel_rfl) (fun _ _ _ h => h) (Or.inl ⟨by rfl, ?_⟩) (by assumption) ?_
  case refine_2 => (intro w hSw; (try dsimp only at hSw); go_simp; (try with_reducible rfl))
  (try simp only [Act.put, List.getElem_toArray, List.getElem_cons_succ, List.getElem_cons_zero, List.setIfInBounds_toArray, List.set_cons_zero, List.set_cons_succ])
  refine wpAnyH_take (i := 8) (v := ?_) rfl (by kernel_rfl) (by kernel_rfl) (by kernel_rfl) (fun _ _ _ h => h) (Or.inl ⟨by rfl, ?_⟩) (by assumption) ?_
  case refine_2 => (intro w hSw; (try dsimp only at hSw); go_simp; (try with_reducible rfl))
  (try simp only [Act.put, List.getElem_toArray, List.getElem_cons_succ, List.getElem_cons_zero, List.setIfInBounds_toArray, List.set_cons_zero, List.set_cons_succ])
  refine wpAnyH_take (i := 9) (v := ?_) rfl (by kernel_rfl) (by kernel_rfl) (by kernel_rfl) (fun _ _ _ h => h) (Or.inl ⟨by rfl, ?_⟩) (by assumption) ?_
  case refine_2 => (intro w hSw; (try dsimp only at hSw); go_simp; (try with_reducible rfl))
  (try simp only [Act.put, List.getElem_toArray, List.getElem_cons_succ, List.getElem_cons_zero, List.setIfInBounds_toArray, List.set_cons_zero, List.set_cons_succ])
  refine wpAnyH_take (i := 10) (v := ?_) rfl (by kernel_rfl) (by kernel_rfl) (by kernel_rfl) (fun _ _ _ h => h) (Or.inl ⟨by rfl, ?_⟩) (by assumption) ?_
  case refine_2 => (intro w hSw; (try dsimp only at hSw); go_simp; (try with_reducible rfl))
  (try simp only [Act.put, List.getElem_toArray, List.getElem_cons_succ, List.getElem_cons_zero, List.setIfInBounds_toArray, List.set_cons_zero, List.set_cons_succ])
  refine wpAnyH_take (i := 11) (v := ?_) rfl (by kernel_rfl) (by kernel_rfl) (by kernel_rfl) (fun _ _ _ h => h) (Or.inl ⟨by rfl, ?_⟩) (by assumption) ?_
  case refine_2 => (intro w hSw; (try dsimp only at hSw); go_simp; (try with_reducible rfl))
  (try simp only [Act.put, List.getElem_toArray, List.getElem_cons_succ, List.getElem_cons_zero, List.setIfInBounds_toArray, List.set_cons_zero, List.set_cons_succ])
  refine wpAnyH_ready (rs := [12]) (by kernel_rfl) (by simp) ?_
  refine AllReadyH.cons rfl (fun K hK => ?_) AllReadyH.nil
  go_simp
  refine hK.out _ _ ⟨keep (al _ _) s2, keep (al _ _) s3, hl2 _⟩ (fun hHeld => ?_)
  clear hK K
  refine wpAnyH_ready (rs := [13]) (by kernel_rfl) (by simp) ?_
  refine AllReadyH.cons rfl (fun K hK => ?_) AllReadyH.nil
  go_simp
  refine hK.out _ _ ⟨keep (al _ _) s2, keep (al _ _) s3, hl2 _⟩ (fun hHeld => ?_)
  clear hK K
  refine wpAnyH_done (by kernel_rfl) ?_ _
  have l0 : w.heap.size < wD.heap.size := cell_lt' r0
  have lp : p < wD.heap.size := cell_lt' s6
  have hpe : ∀ W : World, (binOp .eql 61 (.pointer none) (.pointer none)).run Try.prog W = .ok (.bool true) W := fun _ => by kernel_rfl
  clear hlk hl2 hHeld c2 c3 c6 hfld
  go_wp2_with fail
  refine bodyPost_ret (v := .agg #[.int .i64 u0, .int .i64 u1]) ?_ rfl ⟨rfl, ?_⟩
  · rw [results_cell1 rfl]
    go_simp
  · show Below _ _ _
    repeat (first | with_reducible exact bD | (with_reducible refine Below.setCell ?_ (by first | (simp; done) | (simp; omega) | omega) _) | (with_reducible refine Below.alloc ?_ (by first | (simp; done) | (simp; omega) | omega) _))

theorem ask_one (h : NdAt w B g st) (hn : st.n = 1) (hi : st.id = 0) :
    Calls Try.prog 36 #[.pointer (some ⟨g.p, 0, none⟩)] w fun e w' => e = .returned (.slice none 0 0) ∧ w' = w := by
  have c0 := h.c0
  have c1 := h.c1
  rw [hi] at c0
  rw [hn] at c1
  clear h
  go_enter Try.func36, Try.ntmps36
  go_wp2_with fail
  go_loopw [3, 4, 9] (fun out _ i wr => ∃ k : Nat, k ≤ 1 ∧ i = .int .i64 k ∧ out = .slice none 0 0 ∧ wr = w) (fun _ _ i _ => 1 - (intOf i).toNat)
  case atStart => exact ⟨0, by omega, rfl, rfl, rfl⟩
  case round =>
    obtain ⟨k, hk, rfl, rfl, hw⟩ := hrel
    subst hw
    by_cases hk0 : k = 0
    · subst hk0
      go_wp2_with fail
      go_roundw
      case rel => exact ⟨1, by omega, by go_num, by first | trivial | rfl, by first | trivial | rfl⟩
      case measure => simp [intOf]
    · obtain rfl : k = 1 := by omega
      go_wp2_with fail
      go_ret
      exact ⟨rfl, rfl⟩

end

end Go.Proofs.Ytdbahebhodoooaa.Px
