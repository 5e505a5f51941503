/-
  4 texts of this proof, one behind the other: PxProp, PxLearn, PxMsg, PxEnc.
-/
import Derived.Test.YtfgfjfemaniaiaaJ01
import Derived.Test.YtfgfjfemaniaiaaJ09
import Derived.Test.YtfgfjfemaniaiaaJ08
/-
  A monitor's rows are written: Propose.
  Conditions: the monitor is one that New gave ('NdAt').
-/
namespace Go.Proofs.Ytfgfjfemaniaiaa.Px
open Go.RowKit Wi By Fl Ba
set_option linter.unusedVariables false
set_option linter.unusedSimpArgs false
set_option maxRecDepth 100000

theorem ready_append {P : Program} {w w' : World} {ops : Array Oper} {o : Oper} {a : Act} {K : Act → World → Prop} {Q : Exit → Act → World → Prop} {v' : Value} (hg : Region.wanted o (yielded ops a.tmps) = true) (s x : Operand) (t : TypeId)
    (ho : o.op = .call { callee := .builtin .append, args := #[s, x], argTypes := #[t, t] }) (v1 v2 : Value) (hs : a.eval s = v1) (hx : a.eval x = v2) (hr : (Builtin.append_ #[t, t] o.type #[v1, v2]).run P w = .ok v' w')
    (h : K (a.put o.dst v') w') : if Region.wanted o (yielded ops a.tmps) = true then Oper.wp P o a w K Q else K (a.put o.dst undef) w := by
  rw [if_pos hg]
  unfold Oper.wp execOp
  simp only [ho, resolve, invoke, builtin, Sem.run_bind, Sem.run_pure, Result.andThen_ok, List.map_toArray, List.map_cons, List.map_nil, hs, hx, hr]
  exact h

section
variable {w w3 : World} {B : Nat} {g : Ln} {st : Nd}

theorem wrap_i64 {z : Int} (h0 : -9223372036854775808 ≤ z) (h1 : z ≤ 9223372036854775807) : IntKind.i64.wrap z = z := by
  unfold IntKind.wrap
  simp [IntKind.bits, IntKind.signed]
  omega

theorem NdAt.obj_keep (h : NdAt w B g st) {G : Nat → Prop} (T : Turns G w w3) (hp : ¬ G g.p) : Blk w3 g.p 63 8 (obj8 g st) := T.blk h.obj hp

/- The row of what waits is another now. -/
theorem NdAt.setW (h : NdAt w B g st) (T : Turns (fun k => g.Rw.ownBlock = some k) w w3) (R' : Value) (L' : List Dc) (ho : OwnD w3 B R' L') (hR : ∀ k, R'.ownBlock = some k → g.Rw.ownBlock = some k ∨ w.heap.size ≤ k) (hl : L'.length ≤ 80000) (hok : ∀ d ∈ L', DOk d) :
    Goes w (w3.setCell ⟨g.p, 5, none⟩ R') B g { st with wait := L' } 0 := by
  have b3 := h.obj_keep T (fun e => h.pw e)
  have t0 : Turns (atB g.p) w3 (w3.setCell ⟨g.p, 5, none⟩ R') := turns_put (Turns.refl _ _) 5 _
  have t1 : Turns (fun k => k = g.p ∨ g.Rw.ownBlock = some k) w (w3.setCell ⟨g.p, 5, none⟩ R') := (T.weak (fun k e => .inr e)).trans (t0.weak (fun k e => .inl e))
  have hu : ∀ k, (k = g.p ∨ g.Rw.ownBlock = some k) → ¬ Tb w k 5 := fun k hk => (h.u8 k (by rcases hk with q | q; exact .inl q; exact .inr (.inr (.inr (.inl q))))).2
  have hf : ∀ k, fp { g with Rw := R' } k → fp g k ∨ w.heap.size ≤ k := fun k hk => by
    rcases hk with q | q | q | q | q
    · exact .inl (.inl q)
    · exact .inl (.inr (.inl q))
    · exact .inl (.inr (.inr (.inl q)))
    · rcases hR k q with r | r
      · exact .inl (.inr (.inr (.inr (.inl r))))
      · exact .inr r
    · exact .inl (.inr (.inr (.inr (.inr q))))
  refine ⟨{ g with Rw := R' }, rfl, ⟨(b3.set 5 R').congr (fun j hj => ?_), ?_, ?_, fun k hk e => ?_, ?_, ?_, fun k hk => ?_, h.dl, hl, h.dok, hok⟩, ⟨t1.os, t1.tape, t1.output, t1.size, fun k hk hn => t1.block k hk (fun e => hn (by rcases e with e | e; exact .inl e; exact .inr (.inr (.inr (.inl e)))))⟩, Nat.le_refl _, hf⟩
  · rcases j with _ | _ | _ | _ | _ | _ | _ | _ | j <;> first | rfl | omega
  · exact h.dec.turns t1 (fun q hq e => by
      rcases e with e | e
      · exact h.pd (by rw [← e]; exact hq)
      · exact h.ne q hq e)
  · exact ho.turns t0 (fun q hq e => by
      have e' : q = g.p := e
      subst e'
      have := (ho.tb hq).2.same b3.tb
      revert this
      decide)
  · rcases hR k e with r | r
    · exact h.ne k hk r
    · have := (h.dec.tb hk).2.lt
      omega
  · exact h.acc.turns t1 (fun e => by
      rcases e with e | e
      · exact h.pm e.symm
      · exact h.mw e) hu
  · rcases h.bid with q | ⟨l, b, q1, q2, q3, q4⟩
    · exact .inl q
    · refine .inr ⟨l, b, q1, q2, q3.turns t1 (fun e => ?_) (fun e => ?_) hu, q4⟩
      · rcases e with e | e
        · have := q3.obj.tb.same (e ▸ h.obj.tb)
          revert this
          decide
        · have := q3.obj.tb.same (h.wait.tb e).2
          revert this
          decide
      · rcases e with e | e
        · exact h.obj.tb.not_map (e ▸ q3.told.isM)
        · exact (h.wait.tb e).2.not_map q3.told.isM
  · rcases hf k hk with q | q
    · exact h.low k q
    · exact Nat.le_trans (h.low _ (.inl rfl)) (Nat.le_trans (Nat.le_of_lt h.obj.lt) q)

/- The row of decrees is another now. -/
theorem NdAt.setD (h : NdAt w B g st) (T : Turns (fun k => g.Rd.ownBlock = some k) w w3) (R' : Value) (L' : List Dc) (ho : OwnD w3 B R' L') (hR : ∀ k, R'.ownBlock = some k → g.Rd.ownBlock = some k ∨ w.heap.size ≤ k) (hl : L'.length ≤ 80000) (hok : ∀ d ∈ L', DOk d) :
    NdAt (w3.setCell ⟨g.p, 2, none⟩ R') B { g with Rd := R' } { st with dec := L' } ∧ Goes w (w3.setCell ⟨g.p, 2, none⟩ R') B g { st with dec := L' } 0 := by
  have b3 := h.obj_keep T (fun e => h.pd e)
  have t0 : Turns (atB g.p) w3 (w3.setCell ⟨g.p, 2, none⟩ R') := turns_put (Turns.refl _ _) 2 _
  have t1 : Turns (fun k => k = g.p ∨ g.Rd.ownBlock = some k) w (w3.setCell ⟨g.p, 2, none⟩ R') := (T.weak (fun k e => .inr e)).trans (t0.weak (fun k e => .inl e))
  have hu : ∀ k, (k = g.p ∨ g.Rd.ownBlock = some k) → ¬ Tb w k 5 := fun k hk => (h.u8 k (by rcases hk with q | q; exact .inl q; exact .inr (.inr (.inl q)))).2
  have hf : ∀ k, fp { g with Rd := R' } k → fp g k ∨ w.heap.size ≤ k := fun k hk => by
    rcases hk with q | q | q | q | q
    · exact .inl (.inl q)
    · exact .inl (.inr (.inl q))
    · rcases hR k q with r | r
      · exact .inl (.inr (.inr (.inl r)))
      · exact .inr r
    · exact .inl (.inr (.inr (.inr (.inl q))))
    · exact .inl (.inr (.inr (.inr (.inr q))))
  have key : NdAt (w3.setCell ⟨g.p, 2, none⟩ R') B { g with Rd := R' } { st with dec := L' } := by
    refine ⟨(b3.set 2 R').congr (fun j hj => ?_), ?_, ?_, fun k hk e => ?_, ?_, ?_, fun k hk => ?_, hl, h.wl, hok, h.wok⟩
    · rcases j with _ | _ | _ | _ | _ | _ | _ | _ | j <;> first | rfl | omega
    · exact ho.turns t0 (fun q hq e => by
        have e' : q = g.p := e
        subst e'
        have := (ho.tb hq).2.same b3.tb
        revert this
        decide)
    · exact h.wait.turns t1 (fun q hq e => by
        rcases e with e | e
        · exact h.pw (by rw [← e]; exact hq)
        · exact h.ne q e hq)
    · rcases hR k hk with r | r
      · exact h.ne k r e
      · have := (h.wait.tb e).2.lt
        omega
    · exact h.acc.turns t1 (fun e => by
        rcases e with e | e
        · exact h.pm e.symm
        · exact h.md e) hu
    · rcases h.bid with q | ⟨l, b, q1, q2, q3, q4⟩
      · exact .inl q
      · refine .inr ⟨l, b, q1, q2, q3.turns t1 (fun e => ?_) (fun e => ?_) hu, q4⟩
        · rcases e with e | e
          · have := q3.obj.tb.same (e ▸ h.obj.tb)
            revert this
            decide
          · have := q3.obj.tb.same (h.dec.tb e).2
            revert this
            decide
        · rcases e with e | e
          · exact h.obj.tb.not_map (e ▸ q3.told.isM)
          · exact (h.dec.tb e).2.not_map q3.told.isM
    · rcases hf k hk with q | q
      · exact h.low k q
      · exact Nat.le_trans (h.low _ (.inl rfl)) (Nat.le_trans (Nat.le_of_lt h.obj.lt) q)
  exact ⟨key, { g with Rd := R' }, rfl, key, ⟨t1.os, t1.tape, t1.output, t1.size, fun k hk hn => t1.block k hk (fun e => hn (by rcases e with e | e; exact .inl e; exact .inr (.inr (.inl e))))⟩, Nat.le_refl _, hf⟩

theorem prop_long (h : NdAt w B g st) (x : Option Addr) (n c : Nat) (hn : 4096 < n) : Calls Try.prog 16 #[.pointer (some ⟨g.p, 0, none⟩), .slice x n c] w fun e w' => e = .returned (.int .i64 3) ∧ w' = w := by
  have hM := made_yes h
  have i1 : (4096 : Int) < (n : Int) := by omega
  clear h hn
  go_enter Try.func16, Try.ntmps16
  go_wp2_with (first
    | (
       go_at_call 26; refine hM.mono ?_; rintro e w' ⟨rfl, hw⟩; subst w'; clear hM))
  go_ret
  exact ⟨rfl, rfl⟩

theorem prop_full (h : NdAt w B g st) (x : Option Addr) (n c : Nat) (hn : n ≤ 4096) (hw : 256 ≤ st.wait.length) : Calls Try.prog 16 #[.pointer (some ⟨g.p, 0, none⟩), .slice x n c] w fun e w' => e = .returned (.int .i64 2) ∧ w' = w := by
  have hM := made_yes h
  have c5 := h.c5
  obtain ⟨y, cy, e, _⟩ := h.rw_
  rw [e] at c5
  have i1 : (n : Int) ≤ 4096 := by omega
  have i2 : (256 : Int) ≤ (st.wait.length : Int) := by omega
  clear h e hw
  generalize st.wait.length = m at *
  go_enter Try.func16, Try.ntmps16
  go_wp2_with (first
    | (
       go_at_call 26; refine hM.mono ?_; rintro e w' ⟨rfl, hw⟩; subst w'; clear hM))
  go_ret
  exact ⟨rfl, rfl⟩

def proposed (st : Nd) (v : ByteArray) : Nd := { st with ser := st.ser + 1, wait := st.wait ++ [⟨st.id, st.ser + 1, v⟩] }

set_option maxHeartbeats 3200000 in
theorem prop_yes (h : NdAt w B g st) (x : Option Addr) (n c : Nat) (l : List Nat) (hl : Fl.Sl w x n c l) (hx : n ≠ 0 → ∀ a, x = some a → ¬ fp g a.block) (hn : n ≤ 4096) (hw : st.wait.length < 256) (hser : st.ser < 1000000000000) (hid_ : st.id < 7) :
    Calls Try.prog 16 #[.pointer (some ⟨g.p, 0, none⟩), .slice x n c] w fun e w' => e = .returned (.int .i64 0) ∧ Hid (Goes w w' B g (proposed st (str l)) 0) := by
  have hM := made_yes h
  have c5 := h.c5
  have c4 := h.c4
  have f4 := h.fz 4
  obtain ⟨y, cy, e, hmc⟩ := h.rw_
  have i1 : (n : Int) ≤ 4096 := by omega
  have i2 : ¬ (256 : Int) ≤ (st.wait.length : Int) := by omega
  obtain ⟨k1, t1⟩ := h.put 4 (.int .i64 ((st.ser + 1 : Nat) : Int)) { st with ser := st.ser + 1 } (fun j hj => by rcases j with _ | _ | _ | _ | _ | _ | _ | _ | j <;> first | rfl | omega) rfl rfl rfl rfl
  have t1' : Turns (fp g) w (w.setCell ⟨g.p, 4, none⟩ (.int .i64 ((st.ser + 1 : Nat) : Int))) := t1.weak fun k hk => .inl hk
  have hl1 : Fl.Sl (w.setCell ⟨g.p, 4, none⟩ (.int .i64 ((st.ser + 1 : Nat) : Int))) x n c l := hl.turns t1 (fun hn0 a ha e2 => hx hn0 a ha (.inl e2))
  have i3 : (st.ser : Int) + 1 = ((st.ser + 1 : Nat) : Int) := by omega
  have wz : IntKind.i64.wrap ((st.ser + 1 : Nat) : Int) = ((st.ser + 1 : Nat) : Int) := wrap_i64 (by omega) (by omega)
  have hD : Below (w.setCell ⟨g.p, 4, none⟩ (.int .i64 ((st.ser + 1 : Nat) : Int))).heap.size (w.setCell ⟨g.p, 4, none⟩ (.int .i64 ((st.ser + 1 : Nat) : Int))) (w.setCell ⟨g.p, 4, none⟩ (.int .i64 ((st.ser + 1 : Nat) : Int))).drew := (Below.refl _ _).drew
  have k2 := k1.below hD
  have hl2 := hl1.below hD
  have hsz : (str l).size ≤ 4096 := by rw [str_size, hl.len]; exact hn
  have HU : Hid (∃ x' c' w3, (Builtin.append_ #[59, 59] 59 #[g.Rw, .slice (some ⟨(w.setCell ⟨g.p, 4, none⟩ (.int .i64 ((st.ser + 1 : Nat) : Int))).drew.heap.size, 0, none⟩) 1 1]).run Try.prog ((w.setCell ⟨g.p, 4, none⟩ (.int .i64 ((st.ser + 1 : Nat) : Int))).drew.alloc (.cells #[.int .i64 (st.id : Int), .int .i64 ((st.ser + 1 : Nat) : Int), .string (str l)] 68)) = .ok (.slice x' (st.wait.length + 1) c') w3 ∧
      w3.cell? ⟨g.p, 5, none⟩ = some g.Rw ∧ w3.frozen? ⟨g.p, 5, none⟩ = false ∧ w3.cell? ⟨g.p, 0, none⟩ = some (.int .i64 st.id) ∧ w3.cell? ⟨g.p, 4, none⟩ = some (.int .i64 ((st.ser + 1 : Nat) : Int)) ∧ (convert 35 9 (.slice x n c)).run Try.prog w3 = .ok (.string (str l)) w3 ∧ Hid (Goes w (w3.setCell ⟨g.p, 5, none⟩ (.slice x' (st.wait.length + 1) c')) B g (proposed st (str l)) 0)) := by
    obtain ⟨x', c', w3, hap, HP⟩ := push_dc k2.wait (Nat.le_trans (k2.low _ (.inl rfl)) (Nat.le_of_lt k2.obj.lt)) ⟨st.id, st.ser + 1, str l⟩ (by have : st.wait.length < 256 := hw; show st.wait.length ≤ 90000; omega)
    have b3 := k2.obj_keep HP.out.2.1 (fun e => k2.pw e)
    have hs3 : Fl.Sl w3 x n c l := hl2.turns HP.out.2.1 (fun hn0 a ha e2 => hx hn0 a ha (.inr (.inr (.inr (.inl e2)))))
    refine ⟨x', c', w3, hap, b3.cell (k := 5) (by omega), b3.frozen 5, b3.cell (k := 0) (by omega), b3.cell (k := 4) (by omega), conv_sl hs3, ?_⟩
    have hG := k2.setW HP.out.2.1 _ _ HP.out.1 HP.out.2.2 (by simp; omega) (fun d hd => by
      rcases List.mem_append.1 hd with q | q
      · exact k2.wok d q
      · simp at q
        subst q
        exact ⟨by show st.id < _; omega, by show st.ser + 1 < _; omega, hsz⟩)
    exact Goes.trans (g1 := g) (k1 := 0) (k2 := 0) rfl (t1'.trans (Turns.of_below hD)) (Nat.le_refl _) (fun k hk => .inl hk) hG
  have s5 : (w.setCell ⟨g.p, 4, none⟩ (.int .i64 ((st.ser + 1 : Nat) : Int))).drew.cell? ⟨g.p, 5, none⟩ = some g.Rw := k2.c5
  have s0 : (w.setCell ⟨g.p, 4, none⟩ (.int .i64 ((st.ser + 1 : Nat) : Int))).drew.cell? ⟨g.p, 0, none⟩ = some (.int .i64 st.id) := k2.c0
  have s4 : (w.setCell ⟨g.p, 4, none⟩ (.int .i64 ((st.ser + 1 : Nat) : Int))).drew.cell? ⟨g.p, 4, none⟩ = some (.int .i64 ((st.ser + 1 : Nat) : Int)) := k2.c4
  have sc := conv_sl hl2
  have sc2 := fun o => conv_sl (hl2.below (al _ o))
  have hpl : g.p < (w.setCell ⟨g.p, 4, none⟩ (.int .i64 ((st.ser + 1 : Nat) : Int))).drew.heap.size := k2.obj.lt
  clear h hl hx hn hw hser hid_ k1 t1 t1' hl1 hD k2 hl2 hsz
  rw [e] at HU c5 s5
  clear e
  generalize ((st.ser + 1 : Nat) : Int) = z at *
  generalize st.wait.length = m at *
  generalize proposed st (str l) = st2 at *
  generalize st.ser = sr at *
  generalize str l = sl at *
  go_enter Try.func16, Try.ntmps16
  go_wp2_with (first
    | (
       go_at_call 26; refine hM.mono ?_; rintro e w' ⟨rfl, hw⟩; subst w'; clear hM))
  obtain ⟨x', c', w3, hap, u5, v5, u0, u4, uc, HG⟩ := HU.out
  clear HU c4 c5 f4
  refine wp_region_last (fun v => v.cell? ⟨g.p, 5, none⟩ = some (.slice y m cy) ∧ v.cell? ⟨g.p, 0, none⟩ = some (.int .i64 st.id) ∧ v.cell? ⟨g.p, 4, none⟩ = some (.int .i64 z) ∧ (convert 35 9 (.slice x n c)).run Try.prog v = .ok (.string sl) v) 20 (by kernel_rfl) ⟨s5, s0, s4, sc⟩ (fun hS => ?_)
  generalize (w.setCell ⟨g.p, 4, none⟩ (.int .i64 z)).drew = wD at *
  refine By.lk 0 ?_
  refine By.lk 1 ?_
  refine By.lk 2 ?_
  refine By.lk 3 ?_
  refine By.lk 4 ?_
  refine By.lk 5 ?_
  refine By.lk 6 ?_
  refine By.lk 7 ?_
  refine By.lk 8 ?_
  refine By.lk 9 ?_
  refine By.lk 10 ?_
  refine By.lk 11 ?_
  refine By.lk 12 ?_
  refine By.lk 13 ?_
  refine By.lk 14 ?_
  refine By.lk 15 ?_
  refine wpAnyL_one (i := 16) (by kernel_rfl) rfl (fun K hK => ?_)
  go_simp
  refine hK.out _ _ (fun _ => ⟨keep (al _ _) s5, keep (al _ _) s0, keep (al _ _) s4, sc2 _⟩) ?_
  clear hK K
  refine wpAnyL_one (i := 17) (by kernel_rfl) rfl (fun K hK => ?_)
  refine ready_append rfl _ _ 59 rfl _ _ rfl rfl hap ?_
  (try simp only [Act.put, List.getElem_toArray, List.getElem_cons_succ, List.getElem_cons_zero, List.setIfInBounds_toArray, List.set_cons_zero, List.set_cons_succ])
  refine hK.out _ _ (fun _ => ⟨u5, u0, u4, uc⟩) ?_
  clear hK K
  refine wpAnyL_one (i := 18) (by kernel_rfl) rfl (fun K hK => ?_)
  go_simp
  refine hK.out _ _ (fun _ => ⟨u5, u0, u4, uc⟩) ?_
  clear hK K
  refine wpAnyL_one (i := 19) (by kernel_rfl) rfl (fun K hK => ?_)
  go_simp
  refine hK.out _ _ (fun _ => ⟨u5, u0, u4, uc⟩) ?_
  clear hK K
  refine wpAnyL_one (i := 20) (by kernel_rfl) rfl (fun K hK => ?_)
  go_simp
  refine hK.out _ _ (fun h => absurd rfl h) ?_
  clear hK K
  refine wpAnyL_done (by kernel_rfl) ?_ _
  go_wp2_with fail
  go_ret
  exact ⟨rfl, HG.out⟩

end

end Go.Proofs.Ytfgfjfemaniaiaa.Px

/-
  A monitor learns a decree.
  Conditions: the monitor is one that New gave ('NdAt').
-/
namespace Go.Proofs.Ytfgfjfemaniaiaa.Px
open Go.RowKit Wi By Fl Ba
set_option linter.unusedVariables false
set_option linter.unusedSimpArgs false
set_option maxRecDepth 100000

theorem st_delete {P : Program} {w w' : World} {ops : Array Oper} {o : Oper} {a : Act} {K : Act → World → Prop} {Q : Exit → Act → World → Prop} {v' : Value} (hg : Region.wanted o (yielded ops a.tmps) = true) (s x : Operand) (t k : TypeId)
    (ho : o.op = .call { callee := .builtin .delete, args := #[s, x], argTypes := #[t, k] }) (v1 v2 : Value) (hs : a.eval s = v1) (hx : a.eval x = v2) (hr : (Builtin.delete_ #[t, k] o.type #[v1, v2]).run P w = .ok v' w')
    (h : K (a.put o.dst v') w') : if Region.wanted o (yielded ops a.tmps) = true then Oper.wp P o a w K Q else K (a.put o.dst undef) w := by
  rw [if_pos hg]
  unfold Oper.wp execOp
  simp only [ho, resolve, invoke, builtin, Sem.run_bind, Sem.run_pure, Result.andThen_ok, List.map_toArray, List.map_cons, List.map_nil, hs, hx, hr]
  exact h

section
variable {w w1 : World} {B : Nat} {g : Ln} {st : Nd}

theorem NdAt.setA (h : NdAt w B g st) {nb' : Nat} {D' : DataW Value} {M' : Nat → Ac} (ha : ApAt w1 g.mb nb' D' M') (t : Turns (atB g.mb) w w1) : NdAt w1 B { g with nb := nb', D := D' } { st with acc := M' } := by
  have hu := mb_not_u8 h.acc.isM
  refine ⟨t.blk h.obj (fun e => h.pm e), h.dec.turns t (fun q hq e => h.md (by have e' : q = g.mb := e; rw [← e']; exact hq)), h.wait.turns t (fun q hq e => h.mw (by have e' : q = g.mb := e; rw [← e']; exact hq)), h.ne, ha, ?_, fun k hk => h.low k hk, h.dl, h.wl, h.dok, h.wok⟩
  rcases h.bid with q | ⟨l, b, q1, q2, q3, q4⟩
  · exact .inl q
  · refine .inr ⟨l, b, q1, q2, q3.turns t (fun e => ?_) (fun e => q4 e) hu, q4⟩
    have e' : l.bp = g.mb := e
    exact q3.obj.tb.not_map (e' ▸ h.acc.isM)

theorem NdAt.noBid (h : NdAt w B g st) : NdAt (w.setCell ⟨g.p, 6, none⟩ (.pointer none)) B { g with b := none } { st with bid := none } := by
  have t : Turns (atB g.p) w (w.setCell ⟨g.p, 6, none⟩ (.pointer none)) := turns_put (Turns.refl _ _) 6 _
  have hu := p_not_u8 h
  refine ⟨(h.obj.set 6 _).congr (fun j hj => ?_), ?_, ?_, h.ne, ?_, .inl ⟨rfl, rfl⟩, fun k hk => h.low k ?_, h.dl, h.wl, h.dok, h.wok⟩
  · rcases j with _ | _ | _ | _ | _ | _ | _ | _ | j <;> first | rfl | omega
  · exact h.dec.turns t (fun q hq e => h.pd (by have e' : q = g.p := e; rw [← e']; exact hq))
  · exact h.wait.turns t (fun q hq e => h.pw (by have e' : q = g.p := e; rw [← e']; exact hq))
  · exact h.acc.turns t (fun e => h.pm (by have e' : g.mb = g.p := e; exact e'.symm)) hu
  · rcases hk with q | q | q | q | ⟨l, q, _⟩
    · exact .inl q
    · exact .inr (.inl q)
    · exact .inr (.inr (.inl q))
    · exact .inr (.inr (.inr (.inl q)))
    · cases q

def learned (st : Nd) (d : Dc) : Nd := { st with dec := st.dec ++ [d], acc := upA st.acc (st.dec.length + 1) noAc, bid := none, wait := left d st.wait }

theorem left_mem {d e : Dc} {L : List Dc} (h : e ∈ left d L) : e ∈ L := (List.mem_filter.1 h).1
theorem left_len (d : Dc) (L : List Dc) : (left d L).length ≤ L.length := List.length_filter_le _ _

/- The last step: what waits, behind DeleteFunc. -/
theorem wait_left (h : NdAt w B g st) (d : Dc) (bx : Nat) (hb : Box2 w bx d) (hbg : ¬ fp g bx) :
    Calls Try.prog 75 #[g.Rw, .func (.func 76) #[] #[.pointer (some ⟨bx, 0, none⟩)]] w fun e w' => ∃ y q cy, e = .returned (.slice y q cy) ∧ w'.cell? ⟨g.p, 5, none⟩ = some g.Rw ∧ w'.frozen? ⟨g.p, 5, none⟩ = false ∧ Hid (Goes w (w'.setCell ⟨g.p, 5, none⟩ (.slice y q cy)) B g { st with wait := left d st.wait } 0) := by
  obtain ⟨x, c, hR, hlc, hnil, hsome⟩ := h.wait.form
  have hwl := h.wl
  have hll := left_len d st.wait
  rw [hR]
  cases x with
  | none =>
    obtain ⟨h0, hc0⟩ := hnil rfl
    have hL0 : st.wait = [] := List.eq_nil_of_length_eq_zero h0
    rw [h0, hc0]
    refine (deletef_nil w _).mono fun e w' ⟨e1, e2⟩ => ⟨none, 0, 0, e1, ?_, ?_, ?_⟩
    · rw [e2, h.c5, hR, h0, hc0]
    · rw [e2]; exact h.fz 5
    · rw [e2]
      refine h.setW (Turns.refl _ w) (.slice none 0 0) (left d st.wait) ?_ (fun k e => (by cases e)) (by omega) (fun e he => h.wok e (left_mem he))
      rw [hL0]
      exact Own.nil _ _ _ _ _
  | some ad =>
    obtain ⟨gb, rfl, hg1, hg2⟩ := hsome ad rfl
    have own := h.wait
    rw [hR] at own
    have hne : bx ≠ gb := fun e => hbg (by
      subst e
      refine .inr (.inr (.inr (.inl ?_)))
      rw [hR]
      rfl)
    refine (deletef_any d own hb hne).mono fun e w' ⟨q, e1, H⟩ => ?_
    obtain ⟨hq, ho, ht⟩ := H.out
    have hT : Turns (fun j => g.Rw.ownBlock = some j) w w' := ht.weak (fun j e => by rw [hR, e]; rfl)
    have b3 := h.obj_keep hT (fun e => h.pw e)
    refine ⟨some ⟨gb, 0, none⟩, q, c, e1, ?_, b3.frozen 5, ?_⟩
    · rw [← hR]; exact b3.cell (k := 5) (by omega)
    · refine h.setW hT _ _ ho (fun k e => .inl ?_) (by omega) (fun e he => h.wok e (left_mem he))
      rw [hR]
      exact e

set_option maxHeartbeats 3200000 in
theorem learn_any (h : NdAt w B g st) (d : Dc) (hd : DOk d) (hl : st.dec.length < 70000) :
    Calls Try.prog 53 #[.pointer (some ⟨g.p, 0, none⟩), dv d] w fun e w' => e = .returned (.tuple #[]) ∧ Hid (Goes w w' B g (learned st d) 0) := by
  obtain ⟨y, cy, e, hmc⟩ := h.rd
  have bW := al w (.cells #[.int .i64 d.mon, .int .i64 d.ser, .string d.val] 68)
  have bD : Below w.heap.size w (w.alloc (.cells #[.int .i64 d.mon, .int .i64 d.ser, .string d.val] 68)).drew := on bW (Below.refl _ _).drew
  have k2 := h.below bD
  have hpl := h.obj.lt
  -- region 1
  have HU : Hid (∃ x' c' w3, (Builtin.append_ #[59, 59] 59 #[g.Rd, .slice (some ⟨(w.alloc (.cells #[.int .i64 d.mon, .int .i64 d.ser, .string d.val] 68)).drew.heap.size, 0, none⟩) 1 1]).run Try.prog ((w.alloc (.cells #[.int .i64 d.mon, .int .i64 d.ser, .string d.val] 68)).drew.alloc (.cells #[.int .i64 d.mon, .int .i64 d.ser, .string d.val] 68)) = .ok (.slice x' (st.dec.length + 1) c') w3 ∧
      w3.cell? ⟨g.p, 2, none⟩ = some g.Rd ∧ w3.frozen? ⟨g.p, 2, none⟩ = false ∧ w3.cell? ⟨w.heap.size, 0, none⟩ = some (.int .i64 d.mon) ∧ w3.cell? ⟨w.heap.size, 1, none⟩ = some (.int .i64 d.ser) ∧ w3.cell? ⟨w.heap.size, 2, none⟩ = some (.string d.val) ∧
      Hid (Box2 w3 w.heap.size d ∧ NdAt (w3.setCell ⟨g.p, 2, none⟩ (.slice x' (st.dec.length + 1) c')) B { g with Rd := .slice x' (st.dec.length + 1) c' } { st with dec := st.dec ++ [d] } ∧ Turns (fp g) w (w3.setCell ⟨g.p, 2, none⟩ (.slice x' (st.dec.length + 1) c')) ∧ ∀ k, fp { g with Rd := .slice x' (st.dec.length + 1) c' } k → fp g k ∨ w.heap.size + 1 ≤ k)) := by
    obtain ⟨x', c', w3, hap, HP⟩ := push_dc k2.dec (Nat.le_trans (k2.low _ (.inl rfl)) (Nat.le_of_lt k2.obj.lt)) d (by omega)
    have b3 := k2.obj_keep HP.out.2.1 (fun e => k2.pd e)
    have hbx : ¬ (g.Rd.ownBlock = some w.heap.size) := fun e => by have := (h.dec.tb e).2.lt; omega
    have bc0 : (w.alloc (.cells #[.int .i64 d.mon, .int .i64 d.ser, .string d.val] 68)).drew.cell? ⟨w.heap.size, 0, none⟩ = some (.int .i64 d.mon) := by go_simp
    have bc1 : (w.alloc (.cells #[.int .i64 d.mon, .int .i64 d.ser, .string d.val] 68)).drew.cell? ⟨w.heap.size, 1, none⟩ = some (.int .i64 d.ser) := by go_simp
    have bc2 : (w.alloc (.cells #[.int .i64 d.mon, .int .i64 d.ser, .string d.val] 68)).drew.cell? ⟨w.heap.size, 2, none⟩ = some (.string d.val) := by go_simp
    have q0 := keept HP.out.2.1 hbx bc0
    have q1 := keept HP.out.2.1 hbx bc1
    have q2 := keept HP.out.2.1 hbx bc2
    have hsz : (w.alloc (.cells #[.int .i64 d.mon, .int .i64 d.ser, .string d.val] 68)).drew.heap.size = w.heap.size + 1 := by simp
    obtain ⟨hS, hG⟩ := k2.setD HP.out.2.1 _ _ HP.out.1 HP.out.2.2 (by simp; omega) (fun e he => by
      rcases List.mem_append.1 he with q | q
      · exact h.dok e q
      · simp at q
        subst q
        exact hd)
    obtain ⟨g9, _, _, t9, _, _⟩ := hG
    refine ⟨x', c', w3, hap, b3.cell (k := 2) (by omega), b3.frozen 2, q0, q1, q2, ⟨q0, q1⟩, hS, (Turns.of_below bD).trans t9, fun k hk => ?_⟩
    rcases hk with q | q | q | q | q
    · exact .inl (.inl q)
    · exact .inl (.inr (.inl q))
    · rcases HP.out.2.2 k q with r | r
      · exact .inl (.inr (.inr (.inl r)))
      · right
        rw [hsz] at r
        exact r
    · exact .inl (.inr (.inr (.inr (.inl q))))
    · exact .inl (.inr (.inr (.inr (.inr q))))
  have s2 : (w.alloc (.cells #[.int .i64 d.mon, .int .i64 d.ser, .string d.val] 68)).drew.cell? ⟨g.p, 2, none⟩ = some g.Rd := k2.c2
  have bc0 : (w.alloc (.cells #[.int .i64 d.mon, .int .i64 d.ser, .string d.val] 68)).drew.cell? ⟨w.heap.size, 0, none⟩ = some (.int .i64 d.mon) := by go_simp
  have bc1 : (w.alloc (.cells #[.int .i64 d.mon, .int .i64 d.ser, .string d.val] 68)).drew.cell? ⟨w.heap.size, 1, none⟩ = some (.int .i64 d.ser) := by go_simp
  have bc2 : (w.alloc (.cells #[.int .i64 d.mon, .int .i64 d.ser, .string d.val] 68)).drew.cell? ⟨w.heap.size, 2, none⟩ = some (.string d.val) := by go_simp
  have HB : Hid (∀ k, fp g k → k < w.heap.size) := fun k hk => (h.u8 k hk).1
  have hl4 : Hid (st.dec.length < 70000) := hl
  clear h k2 bW bD hd hl
  rw [e] at HU s2
  clear e
  obtain ⟨n1, hn1⟩ : ∃ n1, n1 = st.dec.length + 1 := ⟨_, rfl⟩
  rw [← hn1] at HU
  have Hn1 : Hid (n1 = st.dec.length + 1) := hn1
  clear hn1
  generalize st.dec.length = dl at s2 HU hmc
  go_enter Try.func53, Try.ntmps53
  dsimp only [dv] at *
  go_wp2_with fail
  obtain ⟨x', c', w3, hap, u2, v2, q0, q1, q2, HG⟩ := HU.out
  clear HU
  refine wp_region_last (fun v => v.cell? ⟨g.p, 2, none⟩ = some (.slice y dl cy) ∧ v.cell? ⟨w.heap.size, 0, none⟩ = some (.int .i64 d.mon) ∧ v.cell? ⟨w.heap.size, 1, none⟩ = some (.int .i64 d.ser) ∧ v.cell? ⟨w.heap.size, 2, none⟩ = some (.string d.val)) 10 (by kernel_rfl) ⟨s2, bc0, bc1, bc2⟩ (fun hS => ?_)
  generalize (w.alloc (.cells #[.int .i64 d.mon, .int .i64 d.ser, .string d.val] 68)).drew = wD at *
  refine By.lk 0 ?_
  refine By.lk 1 ?_
  refine By.lk 2 ?_
  refine By.lk 3 ?_
  refine By.lk 4 ?_
  refine By.lk 5 ?_
  refine wpAnyL_one (i := 6) (by kernel_rfl) rfl (fun K hK => ?_)
  go_simp
  refine hK.out _ _ (fun _ => ⟨keep (al _ _) s2, keep (al _ _) bc0, keep (al _ _) bc1, keep (al _ _) bc2⟩) ?_
  clear hK K
  refine wpAnyL_one (i := 7) (by kernel_rfl) rfl (fun K hK => ?_)
  refine ready_append rfl _ _ 59 rfl _ _ rfl rfl hap ?_
  (try simp only [Act.put, List.getElem_toArray, List.getElem_cons_succ, List.getElem_cons_zero, List.setIfInBounds_toArray, List.set_cons_zero, List.set_cons_succ])
  refine hK.out _ _ (fun _ => ⟨u2, q0, q1, q2⟩) ?_
  clear hK K
  refine wpAnyL_one (i := 8) (by kernel_rfl) rfl (fun K hK => ?_)
  go_simp
  refine hK.out _ _ (fun _ => ⟨u2, q0, q1, q2⟩) ?_
  clear hK K
  refine wpAnyL_one (i := 9) (by kernel_rfl) rfl (fun K hK => ?_)
  go_simp
  refine hK.out _ _ (fun _ => ⟨u2, q0, q1, q2⟩) ?_
  clear hK K
  refine wpAnyL_one (i := 10) (by kernel_rfl) rfl (fun K hK => ?_)
  go_simp
  refine hK.out _ _ (fun h => absurd rfl h) ?_
  clear hK K
  refine wpAnyL_done (by kernel_rfl) ?_ _
  clear hS s2 bc0 bc1 bc2 hap u2 v2
  obtain ⟨hbox, hN, t1, f1⟩ := HG.out
  have bE : Below (w3.setCell ⟨g.p, 2, none⟩ (.slice x' n1 c')).heap.size (w3.setCell ⟨g.p, 2, none⟩ (.slice x' n1 c')) (w3.setCell ⟨g.p, 2, none⟩ (.slice x' n1 c')).drew := (Below.refl _ _).drew
  have k4 := hN.below bE
  have s3 : (w3.setCell ⟨g.p, 2, none⟩ (.slice x' n1 c')).drew.cell? ⟨g.p, 3, none⟩ = some (.map (some g.mb)) := k4.c3
  have s2 : (w3.setCell ⟨g.p, 2, none⟩ (.slice x' n1 c')).drew.cell? ⟨g.p, 2, none⟩ = some (.slice x' n1 c') := k4.c2
  obtain ⟨w5, D5, hdel0, HA⟩ := k4.acc.del n1 (by have := Hn1.out; have := hl4.out; omega) 0
  have hdel : (Builtin.delete_ #[60, 3] 0 #[.map (some g.mb), .int .i64 (n1 : Int)]).run Try.prog (w3.setCell ⟨g.p, 2, none⟩ (.slice x' n1 c')).drew = .ok (.tuple #[]) w5 := hdel0
  have k5 := k4.setA HA.out.1 HA.out.2
  have hboxE : Box2 (w3.setCell ⟨g.p, 2, none⟩ (.slice x' n1 c')).drew w.heap.size d := by
    have hpne : w.heap.size ≠ g.p := fun e => by have := HB.out g.p (.inl rfl); omega
    exact ⟨(World.cell?_setCell_other _ _ _ _ (fun e => by injection e with e _ _; exact hpne e.symm)).trans hbox.1, (World.cell?_setCell_other _ _ _ _ (fun e => by injection e with e _ _; exact hpne e.symm)).trans hbox.2⟩
  have hbox5 : Box2 w5 w.heap.size d := by
    have hmne : ¬ atB g.mb w.heap.size := fun e => by
      have e' : w.heap.size = g.mb := e
      have := HB.out g.mb (.inr (.inl rfl))
      omega
    exact ⟨keept HA.out.2 hmne hboxE.1, keept HA.out.2 hmne hboxE.2⟩
  have k6 := k5.noBid
  have hbox6 : Box2 (w5.setCell ⟨g.p, 6, none⟩ (.pointer none)) w.heap.size d := by
    have hpne : w.heap.size ≠ g.p := fun e => by have := HB.out g.p (.inl rfl); omega
    exact ⟨(World.cell?_setCell_other _ _ _ _ (fun e => by injection e with e _ _; exact hpne e.symm)).trans hbox5.1, (World.cell?_setCell_other _ _ _ _ (fun e => by injection e with e _ _; exact hpne e.symm)).trans hbox5.2⟩
  have hfp6 : ∀ k, fp ({ g with Rd := .slice x' n1 c', D := D5, b := none } : Ln) k → fp ({ g with Rd := .slice x' n1 c' } : Ln) k := fun k hk => by
    rcases hk with q | q | q | q | ⟨l, q, _⟩
    · exact .inl q
    · exact .inr (.inl q)
    · exact .inr (.inr (.inl q))
    · exact .inr (.inr (.inr (.inl q)))
    · cases q
  have hnf : ¬ fp ({ g with Rd := .slice x' n1 c', D := D5, b := none } : Ln) w.heap.size := fun hk => by
    rcases f1 _ (hfp6 _ hk) with q | q
    · have := HB.out _ q; omega
    · omega
  have k6' : NdAt (w5.setCell ⟨g.p, 6, none⟩ (.pointer none)) B ({ g with Rd := .slice x' n1 c', D := D5, b := none } : Ln) (⟨st.id, st.n, st.dec ++ [d], upA st.acc n1 noAc, st.ser, st.wait, none, st.turn⟩ : Nd) := k6
  have hW := wait_left k6' d w.heap.size hbox6 hnf
  dsimp only at hW
  have c6 : w5.cell? ⟨g.p, 6, none⟩ = some (bidV g.b) := k5.c6
  have f6 : w5.frozen? ⟨g.p, 6, none⟩ = false := k5.fz 6
  have c5 : w5.cell? ⟨g.p, 5, none⟩ = some g.Rw := k5.c5
  have s5 : w5.cell? ⟨g.p, 3, none⟩ = some (.map (some g.mb)) := k5.c3
  have s6 : w5.cell? ⟨g.p, 2, none⟩ = some (.slice x' n1 c') := k5.c2
  have HF : Hid (∀ wF, Goes (w5.setCell ⟨g.p, 6, none⟩ (.pointer none)) wF B ({ g with Rd := .slice x' n1 c', D := D5, b := none } : Ln) (learned st d) 0 → Goes w wF B g (learned st d) 0) := fun wF hG => by
    have t2 : Turns (fp g) w (w5.setCell ⟨g.p, 6, none⟩ (.pointer none)) := ((t1.trans (Turns.of_below bE)).trans (HA.out.2.weak fun k hk => .inr (.inl hk))).trans ((turns_put (Turns.refl (atB g.p) w5) 6 _).weak fun k hk => .inl hk)
    refine Goes.trans (k1 := 0) (k2 := 0) ?_ t2 ?_ (fun k hk => ?_) hG
    · rfl
    · show g.nb + 0 ≤ gnb g + 0
      unfold gnb
      omega
    · rcases f1 k (hfp6 k hk) with q | q
      · exact .inl q
      · exact .inr (by omega)
  have HL : Hid ((⟨st.id, st.n, st.dec ++ [d], upA st.acc n1 noAc, st.ser, left d st.wait, none, st.turn⟩ : Nd) = learned st d) := by
    show _ = _
    rw [Hn1.out]
    rfl
  clear hN k4 k5 k6 k6' hdel0 HG hbox hboxE hbox5 hbox6 t1 f1 hfp6 hnf
  generalize g.Rw = Rw at *
  generalize bidV g.b = bv at *
  go_wp2_with fail
  refine wp_region_held_drew (S := fun v => v.cell? ⟨g.p, 3, none⟩ = some (.map (some g.mb)) ∧ v.cell? ⟨g.p, 2, none⟩ = some (.slice x' n1 c')) (by kernel_rfl) ⟨s3, s2⟩ (fun hHeld => ?_)
  generalize (w3.setCell ⟨g.p, 2, none⟩ (.slice x' n1 c')).drew = wE at *
  refine By.hk 0 ?_
  refine By.hk 1 ?_
  refine By.hk 2 ?_
  refine By.hk 3 ?_
  refine By.hk 4 ?_
  refine By.hk 5 ?_
  refine By.hk 6 ?_
  refine By.hk 7 ?_
  refine By.hk 8 ?_
  refine wpAnyH_ready (rs := [9]) (by kernel_rfl) (by simp) ?_
  refine AllReadyH.cons rfl (fun K hK => ?_) AllReadyH.nil
  refine st_delete rfl _ _ 60 3 rfl _ _ rfl rfl hdel ?_
  (try simp only [Act.put, List.getElem_toArray, List.getElem_cons_succ, List.getElem_cons_zero, List.setIfInBounds_toArray, List.set_cons_zero, List.set_cons_succ])
  refine hK.out _ _ ⟨s5, s6⟩ (fun hHeld => ?_)
  clear hK K
  refine wpAnyH_done (by kernel_rfl) ?_ _
  go_wp2_with (first
    | (
       go_at_call 75; refine hW.mono ?_; rintro e w7 ⟨y7, q7, c7, rfl, u5, v5, H7⟩; clear hW))
  refine bodyPost_end (results_none rfl _ _ _) rfl ?_
  refine ⟨rfl, HF.out _ ?_⟩
  rw [← HL.out]
  exact H7.out

end

end Go.Proofs.Ytfgfjfemaniaiaa.Px

/-
  Package paxos: seals; how ballots and messages are written.
  Conditions: what is written lies in memory.
-/
namespace Go.Proofs.Ytfgfjfemaniaiaa.Px
open Go.RowKit Wi By Fl Ba
set_option linter.unusedVariables false
set_option linter.unusedSimpArgs false
set_option maxRecDepth 100000

theorem fold_take (s : Nat) (l : List Nat) (k : Nat) (h : k < l.length) : (l.take (k + 1)).foldl sealStep s = sealStep ((l.take k).foldl sealStep s) (Fl.gl l k) := by
  rw [List.take_add_one, List.getElem?_eq_getElem h, List.foldl_append, Option.toList_some, List.foldl_cons, List.foldl_nil]
  simp [Fl.gl, h]

theorem fnv_take (l : List Nat) (k : Nat) (h : k < l.length) : fnv (l.take (k + 1)) = sealStep (fnv (l.take k)) (Fl.gl l k) := fold_take _ l k h

theorem xor_lt64 {a b : Nat} (ha : a < 18446744073709551616) (hb : b < 256) : a ^^^ b < 18446744073709551616 := Nat.xor_lt_two_pow (n := 64) ha (by omega)

theorem mul_wrap (a : Nat) : IntKind.u64.wrap ((a : Int) * 1099511628211) = ((a * 1099511628211 % 18446744073709551616 : Nat) : Int) := by
  simp [IntKind.wrap, IntKind.bits, IntKind.signed]

theorem seal_any (x : Option Addr) (n c : Nat) (l : List Nat) (w : World) (hl : Fl.Sl w x n c l) (hn : n ≤ 140737488355328) :
    Calls Try.prog 79 #[.slice x n c] w fun e w' => e = .returned (.int .u64 (fnv l : Nat)) ∧ w' = w := by
  have HL : Hid (Fl.Sl w x n c l) := hl
  clear hl
  go_enter Try.func79, Try.ntmps79
  go_wp2_with fail
  go_loopw [3, 5, 8] (fun s _ i wr => ∃ k : Nat, k ≤ n ∧ i = .int .i64 k ∧ s = .int .u64 (fnv (l.take k) : Nat) ∧ wr = w) (fun _ _ i _ => n - (intOf i).toNat)
  case atStart => exact ⟨0, by omega, rfl, rfl, rfl⟩
  case round =>
    obtain ⟨k, hk, rfl, rfl, hw⟩ := hrel
    subst hw
    by_cases hlt : k < n
    · have hkn : (k : Int) < (n : Int) := by omega
      obtain ⟨b, o, rfl, hb, hc⟩ := HL.out.row.resolve_left (by omega)
      have hck := hc k hlt
      have hv := Fl.gl_lt HL.out.lt k
      have hs := fnv_lt (l.take k)
      have hx := u64_xor_nat (fnv (l.take k)) (Fl.gl l k) hs (by omega)
      have hm := mul_wrap (fnv (l.take k) ^^^ Fl.gl l k)
      have HS : Hid (fnv (l.take (k + 1)) = (fnv (l.take k) ^^^ Fl.gl l k) * 1099511628211 % 18446744073709551616) := fnv_take l k (by rw [HL.out.len]; exact hlt)
      have hx2 := xor_lt64 hs hv
      clear HL hc hb
      generalize fnv (l.take k) = s at *
      generalize Fl.gl l k = v at *
      generalize s ^^^ v = xv at *
      generalize xv * 1099511628211 % 18446744073709551616 = mv at *
      go_wp2_with fail
      go_roundw
      case rel => exact ⟨k + 1, by omega, by go_num, by rw [HS.out], trivial⟩
      case measure => simp [intOf]; omega
    · obtain rfl : k = n := by omega
      go_wp2_with fail
      go_ret
      rw [List.take_of_length_le (by rw [HL.out.len]; exact Nat.le_refl _)]
      exact ⟨rfl, rfl⟩

theorem sealed_any (x : Option Addr) (n c : Nat) (l : List Nat) (w : World) (hl : Fl.Sl w x n c l) (hn : n ≤ 140737488351232) :
    Calls Try.prog 59 #[.slice x n c] w fun e w' => ∃ y m cy, e = .returned (.slice y m cy) ∧ Hid (m = n + 8 ∧ Vl w w' y m cy (sealed l)) := by
  have hS := seal_any x n c l w hl (by omega)
  have hF := fx8W x n c l (fnv l) w hl (fnv_lt l) (by omega)
  unfold sealed
  generalize fnv l = f at *
  clear hl
  go_enter Try.func59, Try.ntmps59
  go_wp2_with (first
    | (
       go_at_call 79; refine hS.mono ?_; rintro e w' ⟨rfl, hw⟩; subst w'; clear hS)
    | (
       go_at_call 78; refine hF.mono ?_; rintro e w1 ⟨y, m, cy, rfl, H1⟩; clear hF))
  go_ret
  exact ⟨y, m, cy, rfl, H1.out⟩

theorem wrap_u64 {a : Nat} (h : a < 18446744073709551616) : IntKind.u64.wrap (a : Int) = (a : Int) := by
  simp [IntKind.wrap, IntKind.bits, IntKind.signed]
  omega

set_option maxHeartbeats 800000 in
theorem wbal_any (x : Option Addr) (n c : Nat) (l : List Nat) (b : Bt) (hb1 : 0 ≤ b.1 ∧ b.1 < 9223372036854775808) (hb2 : 0 ≤ b.2 ∧ b.2 < 9223372036854775808) (w : World) (hl : Fl.Sl w x n c l) (hn : n ≤ 140737488340000) :
    Calls Try.prog 87 #[.slice x n c, bt b] w fun e w' => ∃ y m cy, e = .returned (.slice y m cy) ∧ Hid (m ≤ n + 20 ∧ Vl w w' y m cy (l ++ wBal b)) := by
  obtain ⟨r, m⟩ := b
  dsimp only [bt] at *
  obtain ⟨R, rfl⟩ : ∃ R : Nat, r = R := ⟨r.toNat, by omega⟩
  obtain ⟨M, rfl⟩ : ∃ M : Nat, m = M := ⟨m.toNat, by omega⟩
  have HE : Hid (l ++ wBal ((R : Int), (M : Int)) = l ++ uv R ++ uv M) := by
    show l ++ (uv R ++ uv M) = _
    simp
  have u1 := uv_ten (n := R) (by omega)
  have u2 := uv_ten (n := M) (by omega)
  have hU1 := fun W h => uvW x n c l R W h (by omega) (by omega)
  have HU : Hid ((uv R).length ≤ 10 ∧ (uv M).length ≤ 10) := ⟨u1, u2⟩
  have i1 : (R : Int) < 9223372036854775808 := by omega
  have i2 : (M : Int) < 9223372036854775808 := by omega
  have HM : Hid (M < 9223372036854775808 ∧ n ≤ 140737488340000) := ⟨by omega, hn⟩
  have hD : Fl.Sl (w.alloc (.cells #[.int .i64 (R : Int), .int .i64 (M : Int)] 72)).drew x n c l := hl.below (on (al _ _) (Below.refl _ _).drew)
  have wr1 := wrap_u64 (a := R) (by omega)
  have wr2 := wrap_u64 (a := M) (by omega)
  clear u1 u2 hb1 hb2 hn
  go_enter Try.func87, Try.ntmps87
  go_wp2_with fail
  have k0 : (w.alloc (.cells #[.int .i64 (R : Int), .int .i64 (M : Int)] 72)).drew.cell? ⟨w.heap.size, 0, none⟩ = some (.int .i64 (R : Int)) := by go_simp
  have k1 : (w.alloc (.cells #[.int .i64 (R : Int), .int .i64 (M : Int)] 72)).drew.cell? ⟨w.heap.size, 1, none⟩ = some (.int .i64 (M : Int)) := by go_simp
  have bD : Below w.heap.size w (w.alloc (.cells #[.int .i64 (R : Int), .int .i64 (M : Int)] 72)).drew := on (al _ _) (Below.refl _ _).drew
  refine wp_region_held_drew (S := fun v => v.cell? ⟨w.heap.size, 0, none⟩ = some (.int .i64 (R : Int)) ∧ v.cell? ⟨w.heap.size, 1, none⟩ = some (.int .i64 (M : Int))) (by kernel_rfl) ⟨k0, k1⟩ (fun hHeld => ?_)
  generalize (w.alloc (.cells #[.int .i64 (R : Int), .int .i64 (M : Int)] 72)).drew = wD at *
  refine By.hk 0 ?_
  refine By.hk 1 ?_
  refine By.hk 2 ?_
  refine By.hk 3 ?_
  refine By.hk 5 ?_
  refine By.hk 6 ?_
  refine By.hk 7 ?_
  refine wpAnyH_ready (rs := [4]) (by kernel_rfl) (by simp) ?_
  refine AllReadyH.cons rfl (fun K hK => ?_) AllReadyH.nil
  go_simp
  refine (hU1 _ hD).mono ?_
  rintro e w1 ⟨y1, m1, c1, rfl, H1⟩
  have hU2 := uvW y1 m1 c1 _ M w1 H1.out.2.2.1 (by have := HM.out.1; omega) (by have := H1.out.1; have := HU.out.1; have := HM.out.2; omega)
  refine hK.out _ _ ⟨keep H1.out.2.1 k0, keep H1.out.2.1 k1⟩ (fun hHeld => ?_)
  clear hK K
  refine wpAnyH_ready (rs := [8]) (by kernel_rfl) (by simp) ?_
  refine AllReadyH.cons rfl (fun K hK => ?_) AllReadyH.nil
  go_simp
  refine hU2.mono ?_
  rintro e w2 ⟨y2, m2, c2, rfl, H2⟩
  refine hK.out _ _ ⟨keep (on H1.out.2.1 H2.out.2.1) k0, keep (on H1.out.2.1 H2.out.2.1) k1⟩ (fun hHeld => ?_)
  clear hK K
  refine By.hk 9 ?_
  refine wpAnyH_done (by kernel_rfl) ?_ _
  go_wp2_with fail
  go_ret
  refine ⟨y2, m2, c2, rfl, ?_, ?_⟩
  · have := H1.out.1; have := H2.out.1; have := HU.out; omega
  · rw [HE.out]
    exact Vl.on bD (Vl.on H1.out.2.1 H2.out.2)

end Go.Proofs.Ytfgfjfemaniaiaa.Px

/-
  Package paxos: a message's bytes.
  Conditions: the message lies in memory.
-/
namespace Go.Proofs.Ytfgfjfemaniaiaa.Px
open Go.RowKit Wi By Fl Ba
set_option linter.unusedVariables false
set_option linter.unusedSimpArgs false
set_option maxRecDepth 100000

def mv (m : Ms) (x : Option Addr) (c : Nat) (y : Option Addr) (cy : Nat) : Value :=
  .agg #[.int .i64 m.kind, .int .i64 m.num, .int .i64 m.st.p.1, .int .i64 m.st.p.2, .int .i64 m.st.a.1, .int .i64 m.st.a.2, .slice x m.st.d.length c, .int .i64 m.known, .slice y m.decs.length cy]

def big : Nat := 9223372036854775808

structure BOk (b : Bt) : Prop where
  r0 : 0 ≤ b.1
  r1 : b.1 < 9223372036854775808
  m0 : 0 ≤ b.2
  m1 : b.2 < 9223372036854775808

structure MOk (w : World) (m : Ms) (x : Option Addr) (c : Nat) (y : Option Addr) : Prop where
  kind : m.kind < 9223372036854775808
  num : m.num < 9223372036854775808
  known : m.known < 9223372036854775808
  p : BOk m.st.p
  a : BOk m.st.a
  sl : Fl.Sl w x m.st.d.length c m.st.d
  small : m.st.d.length ≤ 5000
  dcs : DcsAt w y m.decs
  few : m.decs.length ≤ 64
  ok : ∀ d ∈ m.decs, DOk d

theorem nine_keep {w w1 : World} {g : Nat} {v0 v1 v2 v3 v4 v5 v6 v7 v8 : Value} (b : Below w.heap.size w w1)
    (h : w.cell? ⟨g, 0, none⟩ = some v0 ∧ w.cell? ⟨g, 1, none⟩ = some v1 ∧ w.cell? ⟨g, 2, none⟩ = some v2 ∧ w.cell? ⟨g, 3, none⟩ = some v3 ∧ w.cell? ⟨g, 4, none⟩ = some v4 ∧ w.cell? ⟨g, 5, none⟩ = some v5 ∧ w.cell? ⟨g, 6, none⟩ = some v6 ∧ w.cell? ⟨g, 7, none⟩ = some v7 ∧ w.cell? ⟨g, 8, none⟩ = some v8) :
    w1.cell? ⟨g, 0, none⟩ = some v0 ∧ w1.cell? ⟨g, 1, none⟩ = some v1 ∧ w1.cell? ⟨g, 2, none⟩ = some v2 ∧ w1.cell? ⟨g, 3, none⟩ = some v3 ∧ w1.cell? ⟨g, 4, none⟩ = some v4 ∧ w1.cell? ⟨g, 5, none⟩ = some v5 ∧ w1.cell? ⟨g, 6, none⟩ = some v6 ∧ w1.cell? ⟨g, 7, none⟩ = some v7 ∧ w1.cell? ⟨g, 8, none⟩ = some v8 := by
  obtain ⟨h0, h1, h2, h3, h4, h5, h6, h7, h8⟩ := h
  exact ⟨keep b h0, keep b h1, keep b h2, keep b h3, keep b h4, keep b h5, keep b h6, keep b h7, keep b h8⟩

set_option maxHeartbeats 1600000 in
theorem enc_know (m : Ms) (x y : Option Addr) (c cy fr : Nat) (w : World) (h : MOk w m x c y) (hk : m.kind = 4) (hf : fr < 9223372036854775808) :
    Calls Try.prog 69 #[mv m x c y cy, .int .i64 fr] w fun e w' => ∃ z l cz, e = .returned (.slice z l cz) ∧ Hid (l ≤ 500000 ∧ Vl w w' z l cz (encM m fr)) := by
  have HE : Hid (encM m fr = sealed (uv fr ++ uv 4 ++ uv m.num)) := by
    show encM m fr = _
    unfold encM body
    rw [hk, if_pos rfl, List.append_nil]
  have hnum := h.num
  dsimp only [mv]
  rw [hk]
  clear h hk
  generalize m.num = num at *
  generalize m.st.p.1 = p1 at *
  generalize m.st.p.2 = p2 at *
  generalize m.st.a.1 = a1 at *
  generalize m.st.a.2 = a2 at *
  generalize m.st.d.length = dn at *
  generalize m.known = kn at *
  generalize m.decs.length = dl at *
  have i1 : (fr : Int) < 9223372036854775808 := by omega
  have i2 : (num : Int) < 9223372036854775808 := by omega
  have HU : Hid ((uv fr).length ≤ 10 ∧ (uv 4).length ≤ 10 ∧ (uv num).length ≤ 10) := ⟨uv_ten (by omega), uv_ten (by omega), uv_ten (by omega)⟩
  have hU1 := fun W => uvW none 0 0 [] fr W (Fl.Sl.empty W) (by omega) (by omega)
  go_enter Try.func69, Try.ntmps69
  go_wp2_with (first
    | (
       go_at_call 85; refine (hU1 _).mono ?_; rintro e w1 ⟨y1, m1, c1, rfl, H1⟩; clear hU1
       have k0 := keep H1.out.2.1 (b := w.heap.size) (o := 0) (x := .int .i64 4) (by first | assumption | go_simp)
       have k1 := keep H1.out.2.1 (b := w.heap.size) (o := 1) (x := .int .i64 num) (by first | assumption | go_simp)
       have hU2 := uvW y1 m1 c1 _ 4 w1 H1.out.2.2.1 (by omega) (by have := H1.out.1; have := HU.out.1; omega)
       have B1 := on (al _ _) H1.out.2.1)
    | (
       go_at_call 85; refine hU2.mono ?_; rintro e w2 ⟨y2, m2, c2, rfl, H2⟩; clear hU2
       have k0 := keep H2.out.2.1 (b := w.heap.size) (o := 0) (x := .int .i64 4) (by first | assumption | go_simp)
       have k1 := keep H2.out.2.1 (b := w.heap.size) (o := 1) (x := .int .i64 num) (by first | assumption | go_simp)
       have hU3 := uvW y2 m2 c2 _ num w2 H2.out.2.2.1 (by omega) (by have := H1.out.1; have := HU.out.1; have := H2.out.1; have := HU.out.2.1; omega)
       have B2 := on B1 H2.out.2.1)
    | (
       go_at_call 85; refine hU3.mono ?_; rintro e w3 ⟨y3, m3, c3, rfl, H3⟩; clear hU3
       have k0 := keep H3.out.2.1 (b := w.heap.size) (o := 0) (x := .int .i64 4) (by first | assumption | go_simp)
       have k1 := keep H3.out.2.1 (b := w.heap.size) (o := 1) (x := .int .i64 num) (by first | assumption | go_simp)
       have HL : Hid (m3 ≤ 30) := by show m3 ≤ 30; have := H1.out.1; have := H2.out.1; have := H3.out.1; have := HU.out; omega
       have hS := sealed_any y3 m3 c3 _ w3 H3.out.2.2.1 (by have := HL.out; omega)
       have B3 := on B2 H3.out.2.1)
    | (
       go_at_call 59; refine hS.mono ?_; rintro e w4 ⟨y4, m4, c4, rfl, H4⟩; clear hS))
  go_ret
  refine ⟨y4, m4, c4, rfl, ?_, ?_⟩
  · have := H4.out.1; have := HL.out; omega
  · rw [HE.out]
    have := Vl.on B3 H4.out.2
    simpa using this

set_option maxHeartbeats 3200000 in
theorem enc_state (m : Ms) (x y : Option Addr) (c cy fr : Nat) (w : World) (h : MOk w m x c y) (hk4 : m.kind ≠ 4) (hk5 : m.kind ≠ 5) (hf : fr < 9223372036854775808) :
    Calls Try.prog 69 #[mv m x c y cy, .int .i64 fr] w fun e w' => ∃ z l cz, e = .returned (.slice z l cz) ∧ Hid (l ≤ 500000 ∧ Vl w w' z l cz (encM m fr)) := by
  have HE : Hid (encM m fr = sealed (uv fr ++ uv m.kind ++ uv m.num ++ wBal m.st.p ++ wBal m.st.a ++ (uv m.st.d.length ++ m.st.d))) := by
    show encM m fr = _
    unfold encM body
    rw [if_neg hk4, if_neg hk5]
    simp
  have hnum := h.num
  have hkind := h.kind
  have hp := h.p
  have ha := h.a
  have HS : Hid (Fl.Sl w x m.st.d.length c m.st.d ∧ m.st.d.length ≤ 5000) := ⟨h.sl, h.small⟩
  have hP := fun y n c l W => wbal_any y n c l m.st.p ⟨hp.r0, hp.r1⟩ ⟨hp.m0, hp.m1⟩ W
  have hA := fun y n c l W => wbal_any y n c l m.st.a ⟨ha.r0, ha.r1⟩ ⟨ha.m0, ha.m1⟩ W
  dsimp only [mv, bt] at *
  clear h hp ha
  generalize m.num = num at *
  generalize m.kind = kind at *
  generalize wBal m.st.p = wp at *
  generalize wBal m.st.a = wa at *
  generalize m.st.p.1 = p1 at *
  generalize m.st.p.2 = p2 at *
  generalize m.st.a.1 = a1 at *
  generalize m.st.a.2 = a2 at *
  generalize m.st.d.length = dn at *
  generalize m.st.d = dd at *
  generalize m.known = kn at *
  generalize m.decs.length = dl at *
  have i1 : (fr : Int) < 9223372036854775808 := by omega
  have i2 : (num : Int) < 9223372036854775808 := by omega
  have i3 : (kind : Int) < 9223372036854775808 := by omega
  have n4 : ((kind : Int) == 4) = false := by simp; omega
  have n5 : ((kind : Int) == 5) = false := by simp; omega
  have HU : Hid ((uv fr).length ≤ 10 ∧ (uv kind).length ≤ 10 ∧ (uv num).length ≤ 10 ∧ (uv dn).length ≤ 10) := ⟨uv_ten (by omega), uv_ten (by omega), uv_ten (by omega), uv_ten (by have := HS.out.2; omega)⟩
  have hU1 := fun W => uvW none 0 0 [] fr W (Fl.Sl.empty W) (by omega) (by omega)
  clear hk4 hk5
  go_enter Try.func69, Try.ntmps69
  go_wp2_with (first
    | (
       go_at_call 85; refine (hU1 _).mono ?_; rintro e w1 ⟨y1, m1, c1, rfl, H1⟩; clear hU1
       have k0 := keep H1.out.2.1 (b := w.heap.size) (o := 0) (x := .int .i64 kind) (by first | assumption | go_simp)
       have k1 := keep H1.out.2.1 (b := w.heap.size) (o := 1) (x := .int .i64 num) (by first | assumption | go_simp)
       have k2 := keep H1.out.2.1 (b := w.heap.size) (o := 2) (x := .int .i64 p1) (by first | assumption | go_simp)
       have k3 := keep H1.out.2.1 (b := w.heap.size) (o := 3) (x := .int .i64 p2) (by first | assumption | go_simp)
       have k4 := keep H1.out.2.1 (b := w.heap.size) (o := 4) (x := .int .i64 a1) (by first | assumption | go_simp)
       have k5 := keep H1.out.2.1 (b := w.heap.size) (o := 5) (x := .int .i64 a2) (by first | assumption | go_simp)
       have k6 := keep H1.out.2.1 (b := w.heap.size) (o := 6) (x := .slice x dn c) (by first | assumption | go_simp)
       have hU2 := uvW y1 m1 c1 _ kind w1 H1.out.2.2.1 (by omega) (by have := H1.out.1; have := HU.out.1; omega)
       have B1 := on (al _ _) H1.out.2.1)
    | (
       go_at_call 85; refine hU2.mono ?_; rintro e w2 ⟨y2, m2, c2, rfl, H2⟩; clear hU2
       have k0 := keep H2.out.2.1 (b := w.heap.size) (o := 0) (x := .int .i64 kind) (by first | assumption | go_simp)
       have k1 := keep H2.out.2.1 (b := w.heap.size) (o := 1) (x := .int .i64 num) (by first | assumption | go_simp)
       have k2 := keep H2.out.2.1 (b := w.heap.size) (o := 2) (x := .int .i64 p1) (by first | assumption | go_simp)
       have k3 := keep H2.out.2.1 (b := w.heap.size) (o := 3) (x := .int .i64 p2) (by first | assumption | go_simp)
       have k4 := keep H2.out.2.1 (b := w.heap.size) (o := 4) (x := .int .i64 a1) (by first | assumption | go_simp)
       have k5 := keep H2.out.2.1 (b := w.heap.size) (o := 5) (x := .int .i64 a2) (by first | assumption | go_simp)
       have k6 := keep H2.out.2.1 (b := w.heap.size) (o := 6) (x := .slice x dn c) (by first | assumption | go_simp)
       have hU3 := uvW y2 m2 c2 _ num w2 H2.out.2.2.1 (by omega) (by have := H1.out.1; have := HU.out.1; have := H2.out.1; have := HU.out.2.1; omega)
       have B2 := on B1 H2.out.2.1)
    | (
       go_at_call 85; refine hU3.mono ?_; rintro e w3 ⟨y3, m3, c3, rfl, H3⟩; clear hU3
       have k0 := keep H3.out.2.1 (b := w.heap.size) (o := 0) (x := .int .i64 kind) (by first | assumption | go_simp)
       have k1 := keep H3.out.2.1 (b := w.heap.size) (o := 1) (x := .int .i64 num) (by first | assumption | go_simp)
       have k2 := keep H3.out.2.1 (b := w.heap.size) (o := 2) (x := .int .i64 p1) (by first | assumption | go_simp)
       have k3 := keep H3.out.2.1 (b := w.heap.size) (o := 3) (x := .int .i64 p2) (by first | assumption | go_simp)
       have k4 := keep H3.out.2.1 (b := w.heap.size) (o := 4) (x := .int .i64 a1) (by first | assumption | go_simp)
       have k5 := keep H3.out.2.1 (b := w.heap.size) (o := 5) (x := .int .i64 a2) (by first | assumption | go_simp)
       have k6 := keep H3.out.2.1 (b := w.heap.size) (o := 6) (x := .slice x dn c) (by first | assumption | go_simp)
       have HL : Hid (m3 ≤ 30) := by show m3 ≤ 30; have := H1.out.1; have := H2.out.1; have := H3.out.1; have := HU.out; omega
       have hP2 := hP y3 m3 c3 _ w3 H3.out.2.2.1 (by have := HL.out; omega)
       have B3 := on B2 H3.out.2.1
       clear hP)
    | (
       go_at_call 87; refine hP2.mono ?_; rintro e w4 ⟨y4, m4, c4, rfl, H4⟩; clear hP2
       have k0 := keep H4.out.2.1 (b := w.heap.size) (o := 0) (x := .int .i64 kind) (by first | assumption | go_simp)
       have k1 := keep H4.out.2.1 (b := w.heap.size) (o := 1) (x := .int .i64 num) (by first | assumption | go_simp)
       have k2 := keep H4.out.2.1 (b := w.heap.size) (o := 2) (x := .int .i64 p1) (by first | assumption | go_simp)
       have k3 := keep H4.out.2.1 (b := w.heap.size) (o := 3) (x := .int .i64 p2) (by first | assumption | go_simp)
       have k4 := keep H4.out.2.1 (b := w.heap.size) (o := 4) (x := .int .i64 a1) (by first | assumption | go_simp)
       have k5 := keep H4.out.2.1 (b := w.heap.size) (o := 5) (x := .int .i64 a2) (by first | assumption | go_simp)
       have k6 := keep H4.out.2.1 (b := w.heap.size) (o := 6) (x := .slice x dn c) (by first | assumption | go_simp)
       have hA2 := hA y4 m4 c4 _ w4 H4.out.2.2.1 (by have := HL.out; have := H4.out.1; omega)
       have B4 := on B3 H4.out.2.1
       clear hA)
    | (
       go_at_call 87; refine hA2.mono ?_; rintro e w5 ⟨y5, m5, c5, rfl, H5⟩; clear hA2
       have k0 := keep H5.out.2.1 (b := w.heap.size) (o := 0) (x := .int .i64 kind) (by first | assumption | go_simp)
       have k1 := keep H5.out.2.1 (b := w.heap.size) (o := 1) (x := .int .i64 num) (by first | assumption | go_simp)
       have k2 := keep H5.out.2.1 (b := w.heap.size) (o := 2) (x := .int .i64 p1) (by first | assumption | go_simp)
       have k3 := keep H5.out.2.1 (b := w.heap.size) (o := 3) (x := .int .i64 p2) (by first | assumption | go_simp)
       have k4 := keep H5.out.2.1 (b := w.heap.size) (o := 4) (x := .int .i64 a1) (by first | assumption | go_simp)
       have k5 := keep H5.out.2.1 (b := w.heap.size) (o := 5) (x := .int .i64 a2) (by first | assumption | go_simp)
       have k6 := keep H5.out.2.1 (b := w.heap.size) (o := 6) (x := .slice x dn c) (by first | assumption | go_simp)
       have B5 := on B4 H5.out.2.1
       have HL5 : Hid (m5 ≤ 70) := by show m5 ≤ 70; have := HL.out; have := H4.out.1; have := H5.out.1; omega
       have hY := byW y5 m5 c5 _ x dn c dd w5 H5.out.2.2.1 (HS.out.1.below B5) (by have := HL5.out; have := HS.out.2; omega))
    | (
       go_at_call 88; refine hY.mono ?_; rintro e w6 ⟨y6, m6, c6, rfl, H6⟩; clear hY
       have B6 := on B5 H6.out.2.1
       have HL6 : Hid (m6 ≤ 5080) := by show m6 ≤ 5080; have := HL5.out; have := H6.out.1; have := HS.out.2; have := HU.out; omega
       have hZ := sealed_any y6 m6 c6 _ w6 H6.out.2.2.1 (by have := HL6.out; omega))
    | (
       go_at_call 59; refine hZ.mono ?_; rintro e w7 ⟨y7, m7, c7, rfl, H7⟩; clear hZ))
  go_ret
  refine ⟨y7, m7, c7, rfl, ?_, ?_⟩
  · have := H7.out.1; have := HL6.out; omega
  · rw [HE.out]
    have := Vl.on B6 H7.out.2
    simpa using this

end Go.Proofs.Ytfgfjfemaniaiaa.Px
