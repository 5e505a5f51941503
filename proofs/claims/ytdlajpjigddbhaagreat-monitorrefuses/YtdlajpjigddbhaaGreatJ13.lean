/-
  2 texts of this proof, one behind the other: PxBegin, PxBegin2.
-/
import Derived.Test.YtdlajpjigddbhaaGreatJ12
import Derived.Deep.DeepCutAuto
/-
  A bid begins: where nothing waits, and where a monitor is alone.
  Conditions: the monitor is one that New gave ('NdAt'), without a bid.
-/
namespace Go.Proofs.YtdlajpjigddbhaaGreat.Px
open Go.RowKit Wi By Fl Ba
set_option linter.unusedVariables false
set_option linter.unusedSimpArgs false
set_option maxRecDepth 100000

theorem st_mapupdate {P : Program} {w w' : World} {ops : Array Oper} {o : Oper} {a : Act} {K : Act → World → Prop} {Q : Exit → Act → World → Prop} (hg : Region.wanted o (yielded ops a.tmps) = true) (m x v : Operand) (t : TypeId)
    (ho : o.op = .mapUpdate t m x v) (v1 v2 v3 : Value) (hm : a.eval m = v1) (hx : a.eval x = v2) (hv : a.eval v = v3) (hr : (Instr.mapUpdate t v1 v2 v3).run P w = .ok () w')
    (h : K (a.put o.dst undef) w') : if Region.wanted o (yielded ops a.tmps) = true then Oper.wp P o a w K Q else K (a.put o.dst undef) w := by
  rw [if_pos hg]
  unfold Oper.wp
  simp only [execOp, ho, hm, hx, hv, Sem.run_bind, hr, Result.andThen, Sem.run_pure]
  exact h

theorem below2 {B : Nat} {a w : World} (h : Below B a w) (g : Nat) (hg : B ≤ g) (u0 u1 : Value) : Below B a ((w.setCell ⟨g, 0, none⟩ u0).setCell ⟨g, 1, none⟩ u1) :=
  (h.setCell (p := ⟨g, 0, none⟩) hg _).setCell (p := ⟨g, 1, none⟩) hg _

section
variable {w : World} {B : Nat} {g : Ln} {st : Nd}

theorem NdAt.newBid (h : NdAt w B g st) (num : Nat) (bal : Bt) (hwf : bwf bal) :
    NdAt (((w.setCell ⟨g.p, 6, none⟩ (.pointer (some ⟨w.heap.size + 1, 0, none⟩))).alloc (.map #[] 0)).alloc (.cells #[.int .i64 num, .int .i64 bal.1, .int .i64 bal.2, .slice none 0 0, .map (some w.heap.size)] 148)) B { g with b := some ⟨w.heap.size + 1, w.heap.size, 0, .map [], none, 0, 0⟩ } { st with bid := some ⟨num, bal, [], fun _ => noAc⟩ } ∧
    Turns (fp g) w (((w.setCell ⟨g.p, 6, none⟩ (.pointer (some ⟨w.heap.size + 1, 0, none⟩))).alloc (.map #[] 0)).alloc (.cells #[.int .i64 num, .int .i64 bal.1, .int .i64 bal.2, .slice none 0 0, .map (some w.heap.size)] 148)) := by
  have hB : B ≤ w.heap.size := Nat.le_trans (h.low _ (.inl rfl)) (Nat.le_of_lt h.obj.lt)
  have hs1 : (w.setCell ⟨g.p, 6, none⟩ (.pointer (some ⟨w.heap.size + 1, 0, none⟩))).heap.size = w.heap.size := by simp
  have hs2 : ((w.setCell ⟨g.p, 6, none⟩ (.pointer (some ⟨w.heap.size + 1, 0, none⟩))).alloc (.map #[] 0)).heap.size = w.heap.size + 1 := by simp
  have t1 : Turns (atB g.p) w (w.setCell ⟨g.p, 6, none⟩ (.pointer (some ⟨w.heap.size + 1, 0, none⟩))) := turns_put (Turns.refl _ _) 6 _
  have bM := al (w.setCell ⟨g.p, 6, none⟩ (.pointer (some ⟨w.heap.size + 1, 0, none⟩))) (.map #[] 0)
  have bB := al ((w.setCell ⟨g.p, 6, none⟩ (.pointer (some ⟨w.heap.size + 1, 0, none⟩))).alloc (.map #[] 0)) (.cells #[.int .i64 num, .int .i64 bal.1, .int .i64 bal.2, .slice none 0 0, .map (some w.heap.size)] 148)
  have b2 := on bM bB
  have t3 : Turns (atB g.p) w (((w.setCell ⟨g.p, 6, none⟩ (.pointer (some ⟨w.heap.size + 1, 0, none⟩))).alloc (.map #[] 0)).alloc (.cells #[.int .i64 num, .int .i64 bal.1, .int .i64 bal.2, .slice none 0 0, .map (some w.heap.size)] 148)) := t1.trans (Turns.of_below b2)
  have hu := p_not_u8 h
  have hA := ApAt.new (w.setCell ⟨g.p, 6, none⟩ (.pointer (some ⟨w.heap.size + 1, 0, none⟩)))
  rw [hs1] at hA
  refine ⟨⟨?_, ?_, ?_, h.ne, ?_, .inr ⟨_, _, rfl, rfl, ⟨?_, Sv.nil _, hA.below bB, hwf⟩, ?_⟩, fun k hk => ?_, h.dl, h.wl, h.dok, h.wok⟩, t3.weak fun k hk => .inl hk⟩
  · have q := (((h.obj.set 6 (.pointer (some ⟨w.heap.size + 1, 0, none⟩))).of_heap (b2.block g.p (by rw [hs1]; exact h.obj.lt))))
    refine q.congr (fun j hj => ?_)
    rcases j with _ | _ | _ | _ | _ | _ | _ | _ | j <;> first | rfl | omega
  · exact h.dec.turns t3 (fun q hq e => h.pd (by have e' : q = g.p := e; rw [← e']; exact hq))
  · exact h.wait.turns t3 (fun q hq e => h.pw (by have e' : q = g.p := e; rw [← e']; exact hq))
  · exact h.acc.turns t3 (fun e => h.pm (by have e' : g.mb = g.p := e; exact e'.symm)) hu
  · have q := Blk.new ((w.setCell ⟨g.p, 6, none⟩ (.pointer (some ⟨w.heap.size + 1, 0, none⟩))).alloc (.map #[] 0)) 148 5 (obj6 ⟨w.heap.size + 1, w.heap.size, 0, .map [], none, 0, 0⟩ ⟨num, bal, [], fun _ => noAc⟩) #[.int .i64 num, .int .i64 bal.1, .int .i64 bal.2, .slice none 0 0, .map (some w.heap.size)] rfl
    rw [hs2] at q
    exact q
  · show w.heap.size ≠ g.mb
    have := h.acc.lt
    omega
  · rcases hk with q | q | q | q | ⟨l, q, r⟩
    · exact h.low k (.inl q)
    · exact h.low k (.inr (.inl q))
    · exact h.low k (.inr (.inr (.inl q)))
    · exact h.low k (.inr (.inr (.inr (.inl q))))
    · injection q with q
      subst q
      rcases r with r | r
      · have r' : k = w.heap.size + 1 := r; omega
      · have r' : k = w.heap.size := r; omega

set_option maxHeartbeats 3200000 in
theorem begin_idle (h : NdAt w B g st) (hb : st.bid = none) (hw : st.wait = []) :
    Calls Tryz.prog 95 #[.pointer (some ⟨g.p, 0, none⟩)] w fun e w' => e = .returned (.slice none 0 0) ∧ Hid (Below w.heap.size w w') := by
  have hH := fun (W : World) (b : Below w.heap.size w W) => highest_none (h.below b) hb
  have hN := fun W => next_any (st.acc (st.dec.length + 1)).p st.id W
  have hpl := h.obj.lt
  have hdl := h.dl
  have c0 := h.c0
  have c2 := h.c2
  have c5 := h.c5
  obtain ⟨y, cy, e, _⟩ := h.rd
  obtain ⟨y5, c5', e5, _⟩ := h.rw_
  rw [e] at c2
  rw [e5, hw] at c5
  have i1 : (st.dec.length : Int) ≤ 80000 := by omega
  have bD : Below w.heap.size w w.drew := (Below.refl _ _).drew
  have s0 := keep bD c0
  have s5 := keep bD c5
  clear h hb hw e e5 hdl
  dsimp only [List.length_nil] at *
  generalize nx (st.acc (st.dec.length + 1)).p st.id = N at *
  obtain ⟨⟨t1, t2⟩, ok⟩ := N
  generalize (st.acc (st.dec.length + 1)).p = hp at *
  obtain ⟨hp1, hp2⟩ := hp
  dsimp only [bt] at *
  generalize st.dec.length = dl at *
  generalize st.id = id at *
  generalize g.p = p at *
  go_enter Tryz.func95, Tryz.ntmps95
  go_wp2_with fail
  go_cut [4, 5] (fun s4 s5 wc => ∃ gb, s4 = .pointer (some ⟨gb, 0, none⟩) ∧ s5 = .bool ok ∧ Hid (Below w.heap.size w wc ∧ w.heap.size ≤ gb ∧ wc.cell? ⟨gb, 0, none⟩ = some (.int .i64 t1) ∧ wc.cell? ⟨gb, 1, none⟩ = some (.int .i64 t2)))
  case first =>
    refine wp_region_held_drew (S := fun q => q.cell? ⟨p, 0, none⟩ = some (.int .i64 id)) (by kernel_rfl) s0 (fun hHeld => ?_)
    generalize w.drew = wD at *
    refine wpAnyH_take (i := 0) (v := ?_) rfl (by kernel_rfl) (by kernel_rfl) (by kernel_rfl) (fun _ _ _ h => h) (Or.inl ⟨by rfl, ?_⟩) (by assumption) ?_
    case refine_2 => (intro w hSw; (try dsimp only at hSw); go_simp; (try with_reducible rfl))
    (try simp only [Act.put, List.getElem_toArray, List.getElem_cons_succ, List.getElem_cons_zero, List.setIfInBounds_toArray, List.set_cons_zero, List.set_cons_succ])
    refine wpAnyH_take (i := 2) (v := ?_) rfl (by kernel_rfl) (by kernel_rfl) (by kernel_rfl) (fun _ _ _ h => h) (Or.inl ⟨by rfl, ?_⟩) (by assumption) ?_
    case refine_2 => (intro w hSw; (try dsimp only at hSw); go_simp; (try with_reducible rfl))
    (try simp only [Act.put, List.getElem_toArray, List.getElem_cons_succ, List.getElem_cons_zero, List.setIfInBounds_toArray, List.set_cons_zero, List.set_cons_succ])
    refine wpAnyH_take (i := 3) (v := ?_) rfl (by kernel_rfl) (by kernel_rfl) (by kernel_rfl) (fun _ _ _ h => h) (Or.inl ⟨by rfl, ?_⟩) (by assumption) ?_
    case refine_2 => (intro w hSw; (try dsimp only at hSw); go_simp; (try with_reducible rfl))
    (try simp only [Act.put, List.getElem_toArray, List.getElem_cons_succ, List.getElem_cons_zero, List.setIfInBounds_toArray, List.set_cons_zero, List.set_cons_succ])
    refine wpAnyH_take (i := 4) (v := ?_) rfl (by kernel_rfl) (by kernel_rfl) (by kernel_rfl) (fun _ _ _ h => h) (Or.inl ⟨by rfl, ?_⟩) (by assumption) ?_
    case refine_2 => (intro w hSw; (try dsimp only at hSw); go_simp; (try with_reducible rfl))
    (try simp only [Act.put, List.getElem_toArray, List.getElem_cons_succ, List.getElem_cons_zero, List.setIfInBounds_toArray, List.set_cons_zero, List.set_cons_succ])
    refine wpAnyH_take (i := 5) (v := ?_) rfl (by kernel_rfl) (by kernel_rfl) (by kernel_rfl) (fun _ _ _ h => h) (Or.inl ⟨by rfl, ?_⟩) (by assumption) ?_
    case refine_2 => (intro w hSw; (try dsimp only at hSw); go_simp; (try with_reducible rfl))
    (try simp only [Act.put, List.getElem_toArray, List.getElem_cons_succ, List.getElem_cons_zero, List.setIfInBounds_toArray, List.set_cons_zero, List.set_cons_succ])
    refine wpAnyH_ready (rs := [1, 10]) (by kernel_rfl) (by simp) ?_
    refine AllReadyH.cons rfl (fun K hK => ?_) (AllReadyH.cons rfl (fun K hK => ?_) AllReadyH.nil)
    · go_simp
      refine (hH _ bD).mono ?_
      rintro e w1 ⟨rfl, H1⟩
      replace s0 := keep H1.out s0
      have B1 := on bD H1.out
      refine hK.out _ _ s0 (fun hHeld => ?_)
      clear hK K
      refine wpAnyH_ready (rs := [6, 10]) (by kernel_rfl) (by simp) ?_
      refine AllReadyH.cons rfl (fun K hK => ?_) (AllReadyH.cons rfl (fun K hK => ?_) AllReadyH.nil)
      · go_simp
        refine (hN _).mono ?_
        rintro e w2 ⟨rfl, H2⟩
        replace s0 := keep H2 s0
        have B2 := on B1 H2
        have lp2 : p < w2.heap.size := cell_lt' s0
        refine hK.out _ _ s0 (fun hHeld => ?_)
        clear hK K
        refine wpAnyH_take (i := 7) (v := ?_) rfl (by kernel_rfl) (by kernel_rfl) (by kernel_rfl) (fun _ _ _ h => h) (Or.inl ⟨by rfl, ?_⟩) (by assumption) ?_
        case refine_2 => (intro w hSw; (try dsimp only at hSw); go_simp; (try with_reducible rfl))
        (try simp only [Act.put, List.getElem_toArray, List.getElem_cons_succ, List.getElem_cons_zero, List.setIfInBounds_toArray, List.set_cons_zero, List.set_cons_succ])
        refine wpAnyH_take (i := 8) (v := ?_) rfl (by kernel_rfl) (by kernel_rfl) (by kernel_rfl) (fun _ _ _ h => h) (Or.inl ⟨by rfl, ?_⟩) (by assumption) ?_
        case refine_2 => (intro w hSw; (try dsimp only at hSw); go_simp; (try with_reducible rfl))
        (try simp only [Act.put, List.getElem_toArray, List.getElem_cons_succ, List.getElem_cons_zero, List.setIfInBounds_toArray, List.set_cons_zero, List.set_cons_succ])
        refine wpAnyH_take (i := 9) (v := ?_) rfl (by kernel_rfl) (by kernel_rfl) (by kernel_rfl) (fun _ _ _ h => h) (Or.inl ⟨by rfl, ?_⟩) (by assumption) ?_
        case refine_2 => (intro w hSw; (try dsimp only at hSw); go_simp; (try with_reducible rfl))
        (try simp only [Act.put, List.getElem_toArray, List.getElem_cons_succ, List.getElem_cons_zero, List.setIfInBounds_toArray, List.set_cons_zero, List.set_cons_succ])
        refine wpAnyH_ready (rs := [10]) (by kernel_rfl) (by simp) ?_
        refine AllReadyH.cons rfl (fun K hK => ?_) AllReadyH.nil
        go_simp
        refine hK.out _ _ (keep (al _ _) s0) (fun hHeld => ?_)
        clear hK K
        refine wpAnyH_ready (rs := [11]) (by kernel_rfl) (by simp) ?_
        refine AllReadyH.cons rfl (fun K hK => ?_) AllReadyH.nil
        go_simp
        refine hK.out _ _ (keep (al _ _) s0) (fun hHeld => ?_)
        clear hK K
        refine wpAnyH_take (i := 12) (v := ?_) rfl (by kernel_rfl) (by kernel_rfl) (by kernel_rfl) (fun _ _ _ h => h) (Or.inl ⟨by rfl, ?_⟩) (by assumption) ?_
        case refine_2 => (intro w hSw; (try dsimp only at hSw); go_simp; (try with_reducible rfl))
        (try simp only [Act.put, List.getElem_toArray, List.getElem_cons_succ, List.getElem_cons_zero, List.setIfInBounds_toArray, List.set_cons_zero, List.set_cons_succ])
        refine wpAnyH_done (by kernel_rfl) ?_ _
        go_wp2_with fail
        go_meet
        case rel => exact ⟨w2.heap.size, rfl, rfl, on B2 (al _ _), B2.size, by go_simp, by go_simp⟩
      · go_simp
        have bA := on B1 (al w1 (.cells #[.int .i64 0, .int .i64 0] 111))
        have r0 : (w1.alloc (.cells #[.int .i64 0, .int .i64 0] 111)).cell? ⟨w1.heap.size, 0, none⟩ = some (.int .i64 0) := by go_simp
        have r1 : (w1.alloc (.cells #[.int .i64 0, .int .i64 0] 111)).cell? ⟨w1.heap.size, 1, none⟩ = some (.int .i64 0) := by go_simp
        have f0 : (w1.alloc (.cells #[.int .i64 0, .int .i64 0] 111)).frozen? ⟨w1.heap.size, 0, none⟩ = false := by go_simp
        have f1 : (w1.alloc (.cells #[.int .i64 0, .int .i64 0] 111)).frozen? ⟨w1.heap.size, 1, none⟩ = false := by go_simp
        have lp1 : p < w1.heap.size := cell_lt' s0
        replace s0 := keep (al w1 (.cells #[.int .i64 0, .int .i64 0] 111)) s0
        refine hK.out _ _ s0 (fun hHeld => ?_)
        clear hK K
        refine wpAnyH_ready (rs := [6]) (by kernel_rfl) (by simp) ?_
        refine AllReadyH.cons rfl (fun K hK => ?_) AllReadyH.nil
        go_simp
        refine (hN _).mono ?_
        rintro e w2 ⟨rfl, H2⟩
        have l1 : w1.heap.size < (w1.alloc (.cells #[.int .i64 0, .int .i64 0] 111)).heap.size := by simp
        replace s0 := keep H2 s0
        replace f0 := keepf H2 l1 f0
        replace f1 := keepf H2 l1 f1
        replace r0 := keep H2 r0
        replace r1 := keep H2 r1
        have B2 := on bA H2
        have pn : p ≠ w1.heap.size := by omega
        refine hK.out _ _ s0 (fun hHeld => ?_)
        clear hK K
        refine wpAnyH_take (i := 7) (v := ?_) rfl (by kernel_rfl) (by kernel_rfl) (by kernel_rfl) (fun _ _ _ h => h) (Or.inl ⟨by rfl, ?_⟩) (by assumption) ?_
        case refine_2 => (intro w hSw; (try dsimp only at hSw); go_simp; (try with_reducible rfl))
        (try simp only [Act.put, List.getElem_toArray, List.getElem_cons_succ, List.getElem_cons_zero, List.setIfInBounds_toArray, List.set_cons_zero, List.set_cons_succ])
        refine wpAnyH_take (i := 8) (v := ?_) rfl (by kernel_rfl) (by kernel_rfl) (by kernel_rfl) (fun _ _ _ h => h) (Or.inl ⟨by rfl, ?_⟩) (by assumption) ?_
        case refine_2 => (intro w hSw; (try dsimp only at hSw); go_simp; (try with_reducible rfl))
        (try simp only [Act.put, List.getElem_toArray, List.getElem_cons_succ, List.getElem_cons_zero, List.setIfInBounds_toArray, List.set_cons_zero, List.set_cons_succ])
        refine wpAnyH_take (i := 9) (v := ?_) rfl (by kernel_rfl) (by kernel_rfl) (by kernel_rfl) (fun _ _ _ h => h) (Or.inl ⟨by rfl, ?_⟩) (by assumption) ?_
        case refine_2 => (intro w hSw; (try dsimp only at hSw); go_simp; (try with_reducible rfl))
        (try simp only [Act.put, List.getElem_toArray, List.getElem_cons_succ, List.getElem_cons_zero, List.setIfInBounds_toArray, List.set_cons_zero, List.set_cons_succ])
        refine wpAnyH_ready (rs := [11]) (by kernel_rfl) (by simp) ?_
        refine AllReadyH.cons rfl (fun K hK => ?_) AllReadyH.nil
        go_simp
        refine hK.out _ _ (by go_simp) (fun hHeld => ?_)
        clear hK K
        refine wpAnyH_take (i := 12) (v := ?_) rfl (by kernel_rfl) (by kernel_rfl) (by kernel_rfl) (fun _ _ _ h => h) (Or.inl ⟨by rfl, ?_⟩) (by assumption) ?_
        case refine_2 => (intro w hSw; (try dsimp only at hSw); go_simp; (try with_reducible rfl))
        (try simp only [Act.put, List.getElem_toArray, List.getElem_cons_succ, List.getElem_cons_zero, List.setIfInBounds_toArray, List.set_cons_zero, List.set_cons_succ])
        refine wpAnyH_done (by kernel_rfl) ?_ _
        go_wp2_with fail
        go_meet
        case rel => exact ⟨w1.heap.size, rfl, rfl, below2 B2 w1.heap.size B1.size _ _, B1.size, by go_simp, by go_simp⟩
    · go_simp
      have bA := on bD (al wD (.cells #[.int .i64 0, .int .i64 0] 111))
      have r0 : (wD.alloc (.cells #[.int .i64 0, .int .i64 0] 111)).cell? ⟨wD.heap.size, 0, none⟩ = some (.int .i64 0) := by go_simp
      have r1 : (wD.alloc (.cells #[.int .i64 0, .int .i64 0] 111)).cell? ⟨wD.heap.size, 1, none⟩ = some (.int .i64 0) := by go_simp
      have f0 : (wD.alloc (.cells #[.int .i64 0, .int .i64 0] 111)).frozen? ⟨wD.heap.size, 0, none⟩ = false := by go_simp
      have f1 : (wD.alloc (.cells #[.int .i64 0, .int .i64 0] 111)).frozen? ⟨wD.heap.size, 1, none⟩ = false := by go_simp
      have l1 : wD.heap.size < (wD.alloc (.cells #[.int .i64 0, .int .i64 0] 111)).heap.size := by simp
      have lpD : p < wD.heap.size := cell_lt' s0
      replace s0 := keep (al wD (.cells #[.int .i64 0, .int .i64 0] 111)) s0
      refine hK.out _ _ s0 (fun hHeld => ?_)
      clear hK K
      refine wpAnyH_ready (rs := [1]) (by kernel_rfl) (by simp) ?_
      refine AllReadyH.cons rfl (fun K hK => ?_) AllReadyH.nil
      go_simp
      refine (hH _ bA).mono ?_
      rintro e w1 ⟨rfl, H1⟩
      replace s0 := keep H1.out s0
      replace f0 := keepf H1.out l1 f0
      replace f1 := keepf H1.out l1 f1
      replace r0 := keep H1.out r0
      replace r1 := keep H1.out r1
      have B1 := on bA H1.out
      have l2 : wD.heap.size < w1.heap.size := cell_lt' r0
      refine hK.out _ _ s0 (fun hHeld => ?_)
      clear hK K
      refine wpAnyH_ready (rs := [6]) (by kernel_rfl) (by simp) ?_
      refine AllReadyH.cons rfl (fun K hK => ?_) AllReadyH.nil
      go_simp
      refine (hN _).mono ?_
      rintro e w2 ⟨rfl, H2⟩
      replace s0 := keep H2 s0
      replace f0 := keepf H2 l2 f0
      replace f1 := keepf H2 l2 f1
      replace r0 := keep H2 r0
      replace r1 := keep H2 r1
      have B2 := on B1 H2
      have pn : p ≠ wD.heap.size := by omega
      refine hK.out _ _ s0 (fun hHeld => ?_)
      clear hK K
      refine wpAnyH_take (i := 7) (v := ?_) rfl (by kernel_rfl) (by kernel_rfl) (by kernel_rfl) (fun _ _ _ h => h) (Or.inl ⟨by rfl, ?_⟩) (by assumption) ?_
      case refine_2 => (intro w hSw; (try dsimp only at hSw); go_simp; (try with_reducible rfl))
      (try simp only [Act.put, List.getElem_toArray, List.getElem_cons_succ, List.getElem_cons_zero, List.setIfInBounds_toArray, List.set_cons_zero, List.set_cons_succ])
      refine wpAnyH_take (i := 8) (v := ?_) rfl (by kernel_rfl) (by kernel_rfl) (by kernel_rfl) (fun _ _ _ h => h) (Or.inl ⟨by rfl, ?_⟩) (by assumption) ?_
      case refine_2 => (intro w hSw; (try dsimp only at hSw); go_simp; (try with_reducible rfl))
      (try simp only [Act.put, List.getElem_toArray, List.getElem_cons_succ, List.getElem_cons_zero, List.setIfInBounds_toArray, List.set_cons_zero, List.set_cons_succ])
      refine wpAnyH_take (i := 9) (v := ?_) rfl (by kernel_rfl) (by kernel_rfl) (by kernel_rfl) (fun _ _ _ h => h) (Or.inl ⟨by rfl, ?_⟩) (by assumption) ?_
      case refine_2 => (intro w hSw; (try dsimp only at hSw); go_simp; (try with_reducible rfl))
      (try simp only [Act.put, List.getElem_toArray, List.getElem_cons_succ, List.getElem_cons_zero, List.setIfInBounds_toArray, List.set_cons_zero, List.set_cons_succ])
      refine wpAnyH_ready (rs := [11]) (by kernel_rfl) (by simp) ?_
      refine AllReadyH.cons rfl (fun K hK => ?_) AllReadyH.nil
      go_simp
      refine hK.out _ _ (by go_simp) (fun hHeld => ?_)
      clear hK K
      refine wpAnyH_take (i := 12) (v := ?_) rfl (by kernel_rfl) (by kernel_rfl) (by kernel_rfl) (fun _ _ _ h => h) (Or.inl ⟨by rfl, ?_⟩) (by assumption) ?_
      case refine_2 => (intro w hSw; (try dsimp only at hSw); go_simp; (try with_reducible rfl))
      (try simp only [Act.put, List.getElem_toArray, List.getElem_cons_succ, List.getElem_cons_zero, List.setIfInBounds_toArray, List.set_cons_zero, List.set_cons_succ])
      refine wpAnyH_done (by kernel_rfl) ?_ _
      go_wp2_with fail
      go_meet
      case rel => exact ⟨wD.heap.size, rfl, rfl, below2 B2 wD.heap.size bD.size _ _, bD.size, by go_simp, by go_simp⟩
  case rest =>
    obtain ⟨gb, rfl, rfl, HC⟩ := hcut
    have q5 := keep HC.out.1 c5
    clear hH hN s0 s5 bD
    cases ok with
    | false =>
      go_wp2_with fail
      go_ret
      exact ⟨rfl, HC.out.1⟩
    | true =>
      go_wp2_with fail
      go_ret
      exact ⟨rfl, HC.out.1⟩

end

end Go.Proofs.YtdlajpjigddbhaaGreat.Px

/-
  A bid begins where a monitor is alone and something waits.
  Conditions: the monitor is one that New gave ('NdAt'), without a bid.
-/
namespace Go.Proofs.YtdlajpjigddbhaaGreat.Px
open Go.RowKit Wi By Fl Ba
set_option linter.unusedVariables false
set_option linter.unusedSimpArgs false
set_option maxRecDepth 100000

section
variable {w : World} {B : Nat} {g : Ln} {st : Nd}

def begun (st : Nd) : Nd := { st with acc := upA st.acc (st.dec.length + 1) ⟨(1, 0), z0, []⟩, bid := some ⟨st.dec.length + 1, (1, 0), [], fun _ => noAc⟩ }

set_option maxHeartbeats 2400000 in
theorem begin_one (h : NdAt w B g st) (hb : st.bid = none) (hn1 : st.n = 1) (hid0 : st.id = 0) (hw : st.wait ≠ []) (hacc : st.acc (st.dec.length + 1) = noAc) (hgn : gnb g < 1000000000000000000) :
    Calls Tryz.prog 95 #[.pointer (some ⟨g.p, 0, none⟩)] w fun e w' => e = .returned (.slice none 0 0) ∧ Hid (Goes w w' B g (begun st) 1) := by
  have hgb : g.b = none := by
    rcases h.bid with ⟨q, _⟩ | ⟨l, b, q1, q2, _⟩
    · exact q
    · rw [hb] at q2
      cases q2
  have hH := fun (W : World) (b : Below w.heap.size w W) => highest_none (h.below b) hb
  have hN := fun W => next_any (st.acc (st.dec.length + 1)).p st.id W
  rw [hacc] at hH hN
  have enx : nx noAc.p ((st.id : Nat) : Int) = ((1, 0), true) := by rw [hid0]; decide
  rw [enx] at hN
  have HH : Hid (NdAt w B g st) := h
  have hpl := h.obj.lt
  have hdl := h.dl
  have c0 := h.c0
  have c2 := h.c2
  have c5 := h.c5
  have HX : Hid (st.bid = none ∧ st.n = 1 ∧ st.id = 0 ∧ st.acc (st.dec.length + 1) = noAc ∧ g.b = none ∧ gnb g < 1000000000000000000) := ⟨hb, hn1, hid0, hacc, hgb, hgn⟩
  obtain ⟨y, cy, e, _⟩ := h.rd
  obtain ⟨y5, c5', e5, _⟩ := h.rw_
  rw [e] at c2
  rw [e5] at c5
  have hwl : ((st.wait.length : Int) == 0) = false := by
    have : st.wait.length ≠ 0 := fun e => hw (List.eq_nil_of_length_eq_zero e)
    simp
    omega
  obtain ⟨n1, hn1'⟩ : ∃ n1, n1 = st.dec.length + 1 := ⟨_, rfl⟩
  have i1 : (st.dec.length : Int) + 1 = (n1 : Int) := by omega
  have wz : IntKind.i64.wrap (n1 : Int) = (n1 : Int) := wrap_i64 (by omega) (by omega)
  have Hn1 : Hid (n1 = st.dec.length + 1) := hn1'
  have bD : Below w.heap.size w w.drew := (Below.refl _ _).drew
  have s0 := keep bD c0
  clear h hb hw e e5 hgb hn1 hid0 hacc hgn enx hn1' hdl
  dsimp only [bt, noAc, z0] at hH hN
  obtain ⟨ok, hok⟩ : ∃ ok, ok = true := ⟨_, rfl⟩
  obtain ⟨t1, ht1⟩ : ∃ t1 : Int, t1 = 1 := ⟨_, rfl⟩
  obtain ⟨t2, ht2⟩ : ∃ t2 : Int, t2 = 0 := ⟨_, rfl⟩
  have HO : Hid (ok = true ∧ t1 = 1 ∧ t2 = 0) := ⟨hok, ht1, ht2⟩
  have hN : ∀ W : World, Calls Tryz.prog 127 #[.agg #[.int .i64 0, .int .i64 0], .int .i64 st.id] W fun e w' => e = .returned (.tuple #[.agg #[.int .i64 t1, .int .i64 t2], .bool ok]) ∧ Below W.heap.size W w' := by
    rw [hok, ht1, ht2]
    exact hN
  clear hok ht1 ht2
  generalize st.dec.length = dl at c2 i1
  generalize st.wait.length = wl at c5 hwl
  go_enter Tryz.func95, Tryz.ntmps95
  go_wp2_with fail
  go_cut [4, 5] (fun s4 s5 wc => ∃ gb, s4 = .pointer (some ⟨gb, 0, none⟩) ∧ s5 = .bool ok ∧ Hid (Below w.heap.size w wc ∧ w.heap.size ≤ gb ∧ wc.cell? ⟨gb, 0, none⟩ = some (.int .i64 t1) ∧ wc.cell? ⟨gb, 1, none⟩ = some (.int .i64 t2)))
  case first =>
    refine wp_region_held_drew (S := fun q => q.cell? ⟨g.p, 0, none⟩ = some (.int .i64 st.id)) (by kernel_rfl) s0 (fun hHeld => ?_)
    generalize w.drew = wD at *
    refine wpAnyH_take (i := 0) (v := ?_) rfl (by kernel_rfl) (by kernel_rfl) (by kernel_rfl) (fun _ _ _ h => h) (Or.inl ⟨by rfl, ?_⟩) (by assumption) ?_
    case refine_2 => (intro w hSw; (try dsimp only at hSw); go_simp; (try with_reducible rfl))
    (try simp only [Act.put, List.getElem_toArray, List.getElem_cons_succ, List.getElem_cons_zero, List.setIfInBounds_toArray, List.set_cons_zero, List.set_cons_succ])
    refine wpAnyH_take (i := 2) (v := ?_) rfl (by kernel_rfl) (by kernel_rfl) (by kernel_rfl) (fun _ _ _ h => h) (Or.inl ⟨by rfl, ?_⟩) (by assumption) ?_
    case refine_2 => (intro w hSw; (try dsimp only at hSw); go_simp; (try with_reducible rfl))
    (try simp only [Act.put, List.getElem_toArray, List.getElem_cons_succ, List.getElem_cons_zero, List.setIfInBounds_toArray, List.set_cons_zero, List.set_cons_succ])
    refine wpAnyH_take (i := 3) (v := ?_) rfl (by kernel_rfl) (by kernel_rfl) (by kernel_rfl) (fun _ _ _ h => h) (Or.inl ⟨by rfl, ?_⟩) (by assumption) ?_
    case refine_2 => (intro w hSw; (try dsimp only at hSw); go_simp; (try with_reducible rfl))
    (try simp only [Act.put, List.getElem_toArray, List.getElem_cons_succ, List.getElem_cons_zero, List.setIfInBounds_toArray, List.set_cons_zero, List.set_cons_succ])
    refine wpAnyH_take (i := 4) (v := ?_) rfl (by kernel_rfl) (by kernel_rfl) (by kernel_rfl) (fun _ _ _ h => h) (Or.inl ⟨by rfl, ?_⟩) (by assumption) ?_
    case refine_2 => (intro w hSw; (try dsimp only at hSw); go_simp; (try with_reducible rfl))
    (try simp only [Act.put, List.getElem_toArray, List.getElem_cons_succ, List.getElem_cons_zero, List.setIfInBounds_toArray, List.set_cons_zero, List.set_cons_succ])
    refine wpAnyH_take (i := 5) (v := ?_) rfl (by kernel_rfl) (by kernel_rfl) (by kernel_rfl) (fun _ _ _ h => h) (Or.inl ⟨by rfl, ?_⟩) (by assumption) ?_
    case refine_2 => (intro w hSw; (try dsimp only at hSw); go_simp; (try with_reducible rfl))
    (try simp only [Act.put, List.getElem_toArray, List.getElem_cons_succ, List.getElem_cons_zero, List.setIfInBounds_toArray, List.set_cons_zero, List.set_cons_succ])
    refine wpAnyH_ready (rs := [1, 10]) (by kernel_rfl) (by simp) ?_
    refine AllReadyH.cons rfl (fun K hK => ?_) (AllReadyH.cons rfl (fun K hK => ?_) AllReadyH.nil)
    · go_simp
      refine (hH _ bD).mono ?_
      rintro e w1 ⟨rfl, H1⟩
      replace s0 := keep H1.out s0
      have B1 := on bD H1.out
      refine hK.out _ _ s0 (fun hHeld => ?_)
      clear hK K
      refine wpAnyH_ready (rs := [6, 10]) (by kernel_rfl) (by simp) ?_
      refine AllReadyH.cons rfl (fun K hK => ?_) (AllReadyH.cons rfl (fun K hK => ?_) AllReadyH.nil)
      · go_simp
        refine (hN _).mono ?_
        rintro e w2 ⟨rfl, H2⟩
        replace s0 := keep H2 s0
        have B2 := on B1 H2
        have lp2 : g.p < w2.heap.size := cell_lt' s0
        refine hK.out _ _ s0 (fun hHeld => ?_)
        clear hK K
        refine wpAnyH_take (i := 7) (v := ?_) rfl (by kernel_rfl) (by kernel_rfl) (by kernel_rfl) (fun _ _ _ h => h) (Or.inl ⟨by rfl, ?_⟩) (by assumption) ?_
        case refine_2 => (intro w hSw; (try dsimp only at hSw); go_simp; (try with_reducible rfl))
        (try simp only [Act.put, List.getElem_toArray, List.getElem_cons_succ, List.getElem_cons_zero, List.setIfInBounds_toArray, List.set_cons_zero, List.set_cons_succ])
        refine wpAnyH_take (i := 8) (v := ?_) rfl (by kernel_rfl) (by kernel_rfl) (by kernel_rfl) (fun _ _ _ h => h) (Or.inl ⟨by rfl, ?_⟩) (by assumption) ?_
        case refine_2 => (intro w hSw; (try dsimp only at hSw); go_simp; (try with_reducible rfl))
        (try simp only [Act.put, List.getElem_toArray, List.getElem_cons_succ, List.getElem_cons_zero, List.setIfInBounds_toArray, List.set_cons_zero, List.set_cons_succ])
        refine wpAnyH_take (i := 9) (v := ?_) rfl (by kernel_rfl) (by kernel_rfl) (by kernel_rfl) (fun _ _ _ h => h) (Or.inl ⟨by rfl, ?_⟩) (by assumption) ?_
        case refine_2 => (intro w hSw; (try dsimp only at hSw); go_simp; (try with_reducible rfl))
        (try simp only [Act.put, List.getElem_toArray, List.getElem_cons_succ, List.getElem_cons_zero, List.setIfInBounds_toArray, List.set_cons_zero, List.set_cons_succ])
        refine wpAnyH_ready (rs := [10]) (by kernel_rfl) (by simp) ?_
        refine AllReadyH.cons rfl (fun K hK => ?_) AllReadyH.nil
        go_simp
        refine hK.out _ _ (keep (al _ _) s0) (fun hHeld => ?_)
        clear hK K
        refine wpAnyH_ready (rs := [11]) (by kernel_rfl) (by simp) ?_
        refine AllReadyH.cons rfl (fun K hK => ?_) AllReadyH.nil
        go_simp
        refine hK.out _ _ (keep (al _ _) s0) (fun hHeld => ?_)
        clear hK K
        refine wpAnyH_take (i := 12) (v := ?_) rfl (by kernel_rfl) (by kernel_rfl) (by kernel_rfl) (fun _ _ _ h => h) (Or.inl ⟨by rfl, ?_⟩) (by assumption) ?_
        case refine_2 => (intro w hSw; (try dsimp only at hSw); go_simp; (try with_reducible rfl))
        (try simp only [Act.put, List.getElem_toArray, List.getElem_cons_succ, List.getElem_cons_zero, List.setIfInBounds_toArray, List.set_cons_zero, List.set_cons_succ])
        refine wpAnyH_done (by kernel_rfl) ?_ _
        go_wp2_with fail
        go_meet
        case rel => exact ⟨w2.heap.size, rfl, rfl, on B2 (al _ _), B2.size, by go_simp, by go_simp⟩
      · go_simp
        have bA := on B1 (al w1 (.cells #[.int .i64 0, .int .i64 0] 111))
        have r0 : (w1.alloc (.cells #[.int .i64 0, .int .i64 0] 111)).cell? ⟨w1.heap.size, 0, none⟩ = some (.int .i64 0) := by go_simp
        have r1 : (w1.alloc (.cells #[.int .i64 0, .int .i64 0] 111)).cell? ⟨w1.heap.size, 1, none⟩ = some (.int .i64 0) := by go_simp
        have f0 : (w1.alloc (.cells #[.int .i64 0, .int .i64 0] 111)).frozen? ⟨w1.heap.size, 0, none⟩ = false := by go_simp
        have f1 : (w1.alloc (.cells #[.int .i64 0, .int .i64 0] 111)).frozen? ⟨w1.heap.size, 1, none⟩ = false := by go_simp
        have lp1 : g.p < w1.heap.size := cell_lt' s0
        replace s0 := keep (al w1 (.cells #[.int .i64 0, .int .i64 0] 111)) s0
        refine hK.out _ _ s0 (fun hHeld => ?_)
        clear hK K
        refine wpAnyH_ready (rs := [6]) (by kernel_rfl) (by simp) ?_
        refine AllReadyH.cons rfl (fun K hK => ?_) AllReadyH.nil
        go_simp
        refine (hN _).mono ?_
        rintro e w2 ⟨rfl, H2⟩
        have l1 : w1.heap.size < (w1.alloc (.cells #[.int .i64 0, .int .i64 0] 111)).heap.size := by simp
        replace s0 := keep H2 s0
        replace f0 := keepf H2 l1 f0
        replace f1 := keepf H2 l1 f1
        replace r0 := keep H2 r0
        replace r1 := keep H2 r1
        have B2 := on bA H2
        have pn : g.p ≠ w1.heap.size := by omega
        refine hK.out _ _ s0 (fun hHeld => ?_)
        clear hK K
        refine wpAnyH_take (i := 7) (v := ?_) rfl (by kernel_rfl) (by kernel_rfl) (by kernel_rfl) (fun _ _ _ h => h) (Or.inl ⟨by rfl, ?_⟩) (by assumption) ?_
        case refine_2 => (intro w hSw; (try dsimp only at hSw); go_simp; (try with_reducible rfl))
        (try simp only [Act.put, List.getElem_toArray, List.getElem_cons_succ, List.getElem_cons_zero, List.setIfInBounds_toArray, List.set_cons_zero, List.set_cons_succ])
        refine wpAnyH_take (i := 8) (v := ?_) rfl (by kernel_rfl) (by kernel_rfl) (by kernel_rfl) (fun _ _ _ h => h) (Or.inl ⟨by rfl, ?_⟩) (by assumption) ?_
        case refine_2 => (intro w hSw; (try dsimp only at hSw); go_simp; (try with_reducible rfl))
        (try simp only [Act.put, List.getElem_toArray, List.getElem_cons_succ, List.getElem_cons_zero, List.setIfInBounds_toArray, List.set_cons_zero, List.set_cons_succ])
        refine wpAnyH_take (i := 9) (v := ?_) rfl (by kernel_rfl) (by kernel_rfl) (by kernel_rfl) (fun _ _ _ h => h) (Or.inl ⟨by rfl, ?_⟩) (by assumption) ?_
        case refine_2 => (intro w hSw; (try dsimp only at hSw); go_simp; (try with_reducible rfl))
        (try simp only [Act.put, List.getElem_toArray, List.getElem_cons_succ, List.getElem_cons_zero, List.setIfInBounds_toArray, List.set_cons_zero, List.set_cons_succ])
        refine wpAnyH_ready (rs := [11]) (by kernel_rfl) (by simp) ?_
        refine AllReadyH.cons rfl (fun K hK => ?_) AllReadyH.nil
        go_simp
        refine hK.out _ _ (by go_simp) (fun hHeld => ?_)
        clear hK K
        refine wpAnyH_take (i := 12) (v := ?_) rfl (by kernel_rfl) (by kernel_rfl) (by kernel_rfl) (fun _ _ _ h => h) (Or.inl ⟨by rfl, ?_⟩) (by assumption) ?_
        case refine_2 => (intro w hSw; (try dsimp only at hSw); go_simp; (try with_reducible rfl))
        (try simp only [Act.put, List.getElem_toArray, List.getElem_cons_succ, List.getElem_cons_zero, List.setIfInBounds_toArray, List.set_cons_zero, List.set_cons_succ])
        refine wpAnyH_done (by kernel_rfl) ?_ _
        go_wp2_with fail
        go_meet
        case rel => exact ⟨w1.heap.size, rfl, rfl, below2 B2 w1.heap.size B1.size _ _, B1.size, by go_simp, by go_simp⟩
    · go_simp
      have bA := on bD (al wD (.cells #[.int .i64 0, .int .i64 0] 111))
      have r0 : (wD.alloc (.cells #[.int .i64 0, .int .i64 0] 111)).cell? ⟨wD.heap.size, 0, none⟩ = some (.int .i64 0) := by go_simp
      have r1 : (wD.alloc (.cells #[.int .i64 0, .int .i64 0] 111)).cell? ⟨wD.heap.size, 1, none⟩ = some (.int .i64 0) := by go_simp
      have f0 : (wD.alloc (.cells #[.int .i64 0, .int .i64 0] 111)).frozen? ⟨wD.heap.size, 0, none⟩ = false := by go_simp
      have f1 : (wD.alloc (.cells #[.int .i64 0, .int .i64 0] 111)).frozen? ⟨wD.heap.size, 1, none⟩ = false := by go_simp
      have l1 : wD.heap.size < (wD.alloc (.cells #[.int .i64 0, .int .i64 0] 111)).heap.size := by simp
      have lpD : g.p < wD.heap.size := cell_lt' s0
      replace s0 := keep (al wD (.cells #[.int .i64 0, .int .i64 0] 111)) s0
      refine hK.out _ _ s0 (fun hHeld => ?_)
      clear hK K
      refine wpAnyH_ready (rs := [1]) (by kernel_rfl) (by simp) ?_
      refine AllReadyH.cons rfl (fun K hK => ?_) AllReadyH.nil
      go_simp
      refine (hH _ bA).mono ?_
      rintro e w1 ⟨rfl, H1⟩
      replace s0 := keep H1.out s0
      replace f0 := keepf H1.out l1 f0
      replace f1 := keepf H1.out l1 f1
      replace r0 := keep H1.out r0
      replace r1 := keep H1.out r1
      have B1 := on bA H1.out
      have l2 : wD.heap.size < w1.heap.size := cell_lt' r0
      refine hK.out _ _ s0 (fun hHeld => ?_)
      clear hK K
      refine wpAnyH_ready (rs := [6]) (by kernel_rfl) (by simp) ?_
      refine AllReadyH.cons rfl (fun K hK => ?_) AllReadyH.nil
      go_simp
      refine (hN _).mono ?_
      rintro e w2 ⟨rfl, H2⟩
      replace s0 := keep H2 s0
      replace f0 := keepf H2 l2 f0
      replace f1 := keepf H2 l2 f1
      replace r0 := keep H2 r0
      replace r1 := keep H2 r1
      have B2 := on B1 H2
      have pn : g.p ≠ wD.heap.size := by omega
      refine hK.out _ _ s0 (fun hHeld => ?_)
      clear hK K
      refine wpAnyH_take (i := 7) (v := ?_) rfl (by kernel_rfl) (by kernel_rfl) (by kernel_rfl) (fun _ _ _ h => h) (Or.inl ⟨by rfl, ?_⟩) (by assumption) ?_
      case refine_2 => (intro w hSw; (try dsimp only at hSw); go_simp; (try with_reducible rfl))
      (try simp only [Act.put, List.getElem_toArray, List.getElem_cons_succ, List.getElem_cons_zero, List.setIfInBounds_toArray, List.set_cons_zero, List.set_cons_succ])
      refine wpAnyH_take (i := 8) (v := ?_) rfl (by kernel_rfl) (by kernel_rfl) (by kernel_rfl) (fun _ _ _ h => h) (Or.inl ⟨by rfl, ?_⟩) (by assumption) ?_
      case refine_2 => (intro w hSw; (try dsimp only at hSw); go_simp; (try with_reducible rfl))
      (try simp only [Act.put, List.getElem_toArray, List.getElem_cons_succ, List.getElem_cons_zero, List.setIfInBounds_toArray, List.set_cons_zero, List.set_cons_succ])
      refine wpAnyH_take (i := 9) (v := ?_) rfl (by kernel_rfl) (by kernel_rfl) (by kernel_rfl) (fun _ _ _ h => h) (Or.inl ⟨by rfl, ?_⟩) (by assumption) ?_
      case refine_2 => (intro w hSw; (try dsimp only at hSw); go_simp; (try with_reducible rfl))
      (try simp only [Act.put, List.getElem_toArray, List.getElem_cons_succ, List.getElem_cons_zero, List.setIfInBounds_toArray, List.set_cons_zero, List.set_cons_succ])
      refine wpAnyH_ready (rs := [11]) (by kernel_rfl) (by simp) ?_
      refine AllReadyH.cons rfl (fun K hK => ?_) AllReadyH.nil
      go_simp
      refine hK.out _ _ (by go_simp) (fun hHeld => ?_)
      clear hK K
      refine wpAnyH_take (i := 12) (v := ?_) rfl (by kernel_rfl) (by kernel_rfl) (by kernel_rfl) (fun _ _ _ h => h) (Or.inl ⟨by rfl, ?_⟩) (by assumption) ?_
      case refine_2 => (intro w hSw; (try dsimp only at hSw); go_simp; (try with_reducible rfl))
      (try simp only [Act.put, List.getElem_toArray, List.getElem_cons_succ, List.getElem_cons_zero, List.setIfInBounds_toArray, List.set_cons_zero, List.set_cons_succ])
      refine wpAnyH_done (by kernel_rfl) ?_ _
      go_wp2_with fail
      go_meet
      case rel => exact ⟨wD.heap.size, rfl, rfl, below2 B2 wD.heap.size bD.size _ _, bD.size, by go_simp, by go_simp⟩
  case rest =>
    obtain ⟨gb, rfl, rfl, HC⟩ := hcut
    obtain ⟨rfl, rfl, rfl⟩ := HO.out
    have q5 := keep HC.out.1 c5
    clear hH hN s0 bD HO c0 c2
    have bE : Below w.heap.size w wc.drew := on HC.out.1 (Below.refl _ _).drew
    have kE := HH.out.below bE
    have hn1b : n1 < 4294967296 := by have := Hn1.out; have := HH.out.dl; omega
    obtain ⟨v, v1, v2, v3⟩ := kE.acc.lookAll n1 hn1b
    have hav : v.p = z0 ∧ v.a = z0 ∧ v.d = [] := by
      have q := HX.out.2.2.2.1
      rw [← Hn1.out] at q
      rw [q] at v2
      injection v2 with a1 a2 a3
      exact ⟨a1.symm, a2.symm, a3.symm⟩
    have hvn : v.n = 0 := by rw [← v1.sv.sl.len, hav.2.2]; rfl
    have hP := fun (W : World) (b : Below wc.drew.heap.size wc.drew W) => prepare_yes v.p v.a v.x v.n v.c v.d (1, 0) W (v1.sv.sl.below b) (by rw [hvn]; omega) (by rw [hav.1, hav.2.1, hvn]; decide)
    have hlk := v3 wc.drew rfl
    have s3 : wc.drew.cell? ⟨g.p, 3, none⟩ = some (.map (some g.mb)) := kE.c3
    have g0 : wc.drew.cell? ⟨gb, 0, none⟩ = some (.int .i64 1) := HC.out.2.2.1
    have g1 : wc.drew.cell? ⟨gb, 1, none⟩ = some (.int .i64 0) := HC.out.2.2.2
    have HV : Hid (v.p = z0 ∧ v.a = z0 ∧ v.d = [] ∧ v.n = 0) := ⟨hav.1, hav.2.1, hav.2.2, hvn⟩
    have HE : Hid (Below w.heap.size w wc.drew ∧ NdAt wc.drew B g st ∧ w.heap.size ≤ gb) := ⟨bE, kE, HC.out.2.1⟩
    have Hv3 : Hid (∀ w' : World, w'.heap[g.mb]? = wc.drew.heap[g.mb]? → (Instr.lookup 98 (.map (some g.mb)) (.int .i64 (n1 : Int)) false).run Tryz.prog w' = .ok (av v) w') := v3
    dsimp only [av, ac, bt] at hP hlk Hv3
    clear hav hvn v1 v2 v3 kE bE
    obtain ⟨⟨vp1, vp2⟩, ⟨va1, va2⟩, vx, vn, vc, vd⟩ := v
    dsimp only at hP hlk Hv3 HV
    go_wp2_with fail
    refine wp_region_held_drew (S := fun q => q.cell? ⟨g.p, 3, none⟩ = some (.map (some g.mb)) ∧ q.cell? ⟨gb, 0, none⟩ = some (.int .i64 1) ∧ q.cell? ⟨gb, 1, none⟩ = some (.int .i64 0)) (by kernel_rfl) ⟨s3, g0, g1⟩ (fun hHeld => ?_)
    generalize wc.drew = wE at *
    refine wpAnyH_take (i := 0) (v := ?_) rfl (by kernel_rfl) (by kernel_rfl) (by kernel_rfl) (fun _ _ _ h => h) (Or.inl ⟨by rfl, ?_⟩) (by assumption) ?_
    case refine_2 => (intro w hSw; (try dsimp only at hSw); go_simp; (try with_reducible rfl))
    (try simp only [Act.put, List.getElem_toArray, List.getElem_cons_succ, List.getElem_cons_zero, List.setIfInBounds_toArray, List.set_cons_zero, List.set_cons_succ])
    refine wpAnyH_take (i := 1) (v := ?_) rfl (by kernel_rfl) (by kernel_rfl) (by kernel_rfl) (fun _ _ _ h => h) (Or.inl ⟨by rfl, ?_⟩) (by assumption) ?_
    case refine_2 => (intro w hSw; (try dsimp only at hSw); go_simp; (try with_reducible rfl))
    (try simp only [Act.put, List.getElem_toArray, List.getElem_cons_succ, List.getElem_cons_zero, List.setIfInBounds_toArray, List.set_cons_zero, List.set_cons_succ])
    refine wpAnyH_take (i := 2) (v := ?_) rfl (by kernel_rfl) (by kernel_rfl) (by kernel_rfl) (fun _ _ _ h => h) (Or.inl ⟨by rfl, ?_⟩) (by assumption) ?_
    case refine_2 => (intro w hSw; (try dsimp only at hSw); go_simp; (try with_reducible rfl))
    (try simp only [Act.put, List.getElem_toArray, List.getElem_cons_succ, List.getElem_cons_zero, List.setIfInBounds_toArray, List.set_cons_zero, List.set_cons_succ])
    refine wpAnyH_take (i := 3) (v := ?_) rfl (by kernel_rfl) (by kernel_rfl) (by kernel_rfl) (fun _ _ _ h => h) (Or.inl ⟨by rfl, ?_⟩) (by assumption) ?_
    case refine_2 => (intro w hSw; (try dsimp only at hSw); go_simp; (try with_reducible rfl))
    (try simp only [Act.put, List.getElem_toArray, List.getElem_cons_succ, List.getElem_cons_zero, List.setIfInBounds_toArray, List.set_cons_zero, List.set_cons_succ])
    refine wpAnyH_take (i := 4) (v := ?_) rfl (by kernel_rfl) (by kernel_rfl) (by kernel_rfl) (fun _ _ _ h => h) (Or.inl ⟨by rfl, ?_⟩) (by assumption) ?_
    case refine_2 => (intro w hSw; (try dsimp only at hSw); go_simp; (try with_reducible rfl))
    (try simp only [Act.put, List.getElem_toArray, List.getElem_cons_succ, List.getElem_cons_zero, List.setIfInBounds_toArray, List.set_cons_zero, List.set_cons_succ])
    refine wpAnyH_take (i := 5) (v := ?_) rfl (by kernel_rfl) (by kernel_rfl) (by kernel_rfl) (fun _ _ _ h => h) (Or.inl ⟨by rfl, ?_⟩) (by assumption) ?_
    case refine_2 => (intro w hSw; (try dsimp only at hSw); go_simp; (try with_reducible rfl))
    (try simp only [Act.put, List.getElem_toArray, List.getElem_cons_succ, List.getElem_cons_zero, List.setIfInBounds_toArray, List.set_cons_zero, List.set_cons_succ])
    refine wpAnyH_take (i := 6) (v := ?_) rfl (by kernel_rfl) (by kernel_rfl) (by kernel_rfl) (fun _ _ _ h => h) (Or.inl ⟨by rfl, ?_⟩) (by assumption) ?_
    case refine_2 => (intro w hSw; (try dsimp only at hSw); go_simp; (try with_reducible rfl))
    (try simp only [Act.put, List.getElem_toArray, List.getElem_cons_succ, List.getElem_cons_zero, List.setIfInBounds_toArray, List.set_cons_zero, List.set_cons_succ])
    refine wpAnyH_take (i := 7) (v := ?_) rfl (by kernel_rfl) (by kernel_rfl) (by kernel_rfl) (fun _ _ _ h => h) (Or.inl ⟨by rfl, ?_⟩) (by assumption) ?_
    case refine_2 => (intro w hSw; (try dsimp only at hSw); go_simp; (try with_reducible rfl))
    (try simp only [Act.put, List.getElem_toArray, List.getElem_cons_succ, List.getElem_cons_zero, List.setIfInBounds_toArray, List.set_cons_zero, List.set_cons_succ])
    refine wpAnyH_take (i := 8) (v := ?_) rfl (by kernel_rfl) (by kernel_rfl) (by kernel_rfl) (fun _ _ _ h => h) (Or.inl ⟨by rfl, ?_⟩) (by assumption) ?_
    case refine_2 => (intro w hSw; (try dsimp only at hSw); go_simp; (try with_reducible rfl))
    (try simp only [Act.put, List.getElem_toArray, List.getElem_cons_succ, List.getElem_cons_zero, List.setIfInBounds_toArray, List.set_cons_zero, List.set_cons_succ])
    refine wpAnyH_take (i := 9) (v := ?_) rfl (by kernel_rfl) (by kernel_rfl) (by kernel_rfl) (fun _ _ _ h => h) (Or.inl ⟨by rfl, ?_⟩) (by assumption) ?_
    case refine_2 => (intro w hSw; (try dsimp only at hSw); go_simp; (try with_reducible rfl))
    (try simp only [Act.put, List.getElem_toArray, List.getElem_cons_succ, List.getElem_cons_zero, List.setIfInBounds_toArray, List.set_cons_zero, List.set_cons_succ])
    refine wpAnyH_take (i := 11) (v := ?_) rfl (by kernel_rfl) (by kernel_rfl) (by kernel_rfl) (fun _ _ _ h => h) (Or.inl ⟨by rfl, ?_⟩) (by assumption) ?_
    case refine_2 => (intro w hSw; (try dsimp only at hSw); go_simp; (try with_reducible rfl))
    (try simp only [Act.put, List.getElem_toArray, List.getElem_cons_succ, List.getElem_cons_zero, List.setIfInBounds_toArray, List.set_cons_zero, List.set_cons_succ])
    refine wpAnyH_ready (rs := [10]) (by kernel_rfl) (by simp) ?_
    refine AllReadyH.cons rfl (fun K hK => ?_) AllReadyH.nil
    refine st_lookup rfl _ _ 98 false rfl _ _ _ rfl rfl hlk ?_
    (try simp only [Act.put, List.getElem_toArray, List.getElem_cons_succ, List.getElem_cons_zero, List.setIfInBounds_toArray, List.set_cons_zero, List.set_cons_succ])
    refine hK.out _ _ ⟨s3, g0, g1⟩ (fun hHeld => ?_)
    clear hK K
    refine wpAnyH_ready (rs := [12]) (by kernel_rfl) (by simp) ?_
    refine AllReadyH.cons rfl (fun K hK => ?_) AllReadyH.nil
    go_simp
    refine (hP _ (Below.refl _ _)).mono ?_
    rintro e w2 ⟨y2, cy2, rfl, H2⟩
    have k2 := HE.out.2.1.below H2.out.1
    obtain ⟨w3, D3, hput, H3⟩ := k2.acc.put n1 hn1b (by have := HX.out.2.2.2.2.2; unfold gnb at this; omega) ⟨(1, 0), (va1, va2), y2, vn, cy2, vd⟩ ⟨vl_sv H2.out (by show vn ≤ 5000; have := HV.out.2.2.2; omega), ⟨wfi_all (a := 1) (by omega) (by omega), wfi_all (a := 0) (by omega) (by omega)⟩, by show bwf (va1, va2); rw [HV.out.2.1]; exact z0_wf⟩
    dsimp only [av, ac] at hput
    have hgm : ¬ atB g.mb gb := fun e => by
      have e' : gb = g.mb := e
      have := (HH.out.u8 g.mb (.inr (.inl rfl))).1
      have := HE.out.2.2
      omega
    have g0' := keep H2.out.1 g0
    have g1' := keep H2.out.1 g1
    have k3 := k2.setA H3.out.1 H3.out.2
    refine hK.out _ _ ⟨keep H2.out.1 s3, g0', g1'⟩ (fun hHeld => ?_)
    clear hK K
    refine wpAnyH_take (i := 13) (v := ?_) rfl (by kernel_rfl) (by kernel_rfl) (by kernel_rfl) (fun _ _ _ h => h) (Or.inl ⟨by rfl, ?_⟩) (by assumption) ?_
    case refine_2 => (intro w hSw; (try dsimp only at hSw); go_simp; (try with_reducible rfl))
    (try simp only [Act.put, List.getElem_toArray, List.getElem_cons_succ, List.getElem_cons_zero, List.setIfInBounds_toArray, List.set_cons_zero, List.set_cons_succ])
    refine wpAnyH_take (i := 14) (v := ?_) rfl (by kernel_rfl) (by kernel_rfl) (by kernel_rfl) (fun _ _ _ h => h) (Or.inl ⟨by rfl, ?_⟩) (by assumption) ?_
    case refine_2 => (intro w hSw; (try dsimp only at hSw); go_simp; (try with_reducible rfl))
    (try simp only [Act.put, List.getElem_toArray, List.getElem_cons_succ, List.getElem_cons_zero, List.setIfInBounds_toArray, List.set_cons_zero, List.set_cons_succ])
    refine wpAnyH_take (i := 15) (v := ?_) rfl (by kernel_rfl) (by kernel_rfl) (by kernel_rfl) (fun _ _ _ h => h) (Or.inl ⟨by rfl, ?_⟩) (by assumption) ?_
    case refine_2 => (intro w hSw; (try dsimp only at hSw); go_simp; (try with_reducible rfl))
    (try simp only [Act.put, List.getElem_toArray, List.getElem_cons_succ, List.getElem_cons_zero, List.setIfInBounds_toArray, List.set_cons_zero, List.set_cons_succ])
    refine wpAnyH_ready (rs := [16]) (by kernel_rfl) (by simp) ?_
    refine AllReadyH.cons rfl (fun K hK => ?_) AllReadyH.nil
    refine st_mapupdate rfl _ _ _ 98 rfl _ _ _ rfl rfl rfl hput ?_
    (try simp only [Act.put, List.getElem_toArray, List.getElem_cons_succ, List.getElem_cons_zero, List.setIfInBounds_toArray, List.set_cons_zero, List.set_cons_succ])
    have c3' : w3.cell? ⟨g.p, 3, none⟩ = some (.map (some g.mb)) := k3.c3
    have c6' : w3.cell? ⟨g.p, 6, none⟩ = some (.pointer none) := by have q := k3.c6; dsimp only at q; rw [HX.out.2.2.2.2.1] at q; exact q
    have f6' : w3.frozen? ⟨g.p, 6, none⟩ = false := k3.fz 6
    have g0'' := keept H3.out.2 hgm g0'
    have g1'' := keept H3.out.2 hgm g1'
    have hbw : bwf ((1, 0) : Bt) := ⟨wfi_all (a := 1) (by omega) (by omega), wfi_all (a := 0) (by omega) (by omega)⟩
    obtain ⟨k4, t4⟩ := k3.newBid n1 (1, 0) hbw
    have hAsk := ask_one k4 HX.out.2.1 HX.out.2.2.1
    have HF : Hid (Goes w (((w3.setCell ⟨g.p, 6, none⟩ (.pointer (some ⟨w3.heap.size + 1, 0, none⟩))).alloc (.map #[] 0)).alloc (.cells #[.int .i64 n1, .int .i64 1, .int .i64 0, .slice none 0 0, .map (some w3.heap.size)] 148)) B g (begun st) 1) := by
      have hnb : gnb g = g.nb := by unfold gnb; rw [HX.out.2.2.2.2.1]; rfl
      have hT : Turns (fp g) w w3 := ((Turns.of_below HE.out.1).trans (Turns.of_below H2.out.1)).trans (H3.out.2.weak fun k hk => .inr (.inl hk))
      refine ⟨({ g with nb := g.nb + 1, D := D3, b := some ⟨w3.heap.size + 1, w3.heap.size, 0, .map [], none, 0, 0⟩ } : Ln), rfl, ?_, hT.more t4 (fun k hk => .inl hk), ?_, fun k hk => ?_⟩
      rotate_left 1
      · show g.nb + 1 + 0 ≤ gnb g + 1
        omega
      · rcases hk with q | q | q | q | ⟨l, q, r⟩
        · exact .inl (.inl q)
        · exact .inl (.inr (.inl q))
        · exact .inl (.inr (.inr (.inl q)))
        · exact .inl (.inr (.inr (.inr (.inl q))))
        · injection q with q
          subst q
          right
          have := hT.size
          rcases r with r | r
          · have r' : k = w3.heap.size + 1 := r; omega
          · have r' : k = w3.heap.size := r; omega
      · have e2 : begun st = { ({ st with acc := upA st.acc n1 (acOf ⟨(1, 0), (va1, va2), y2, vn, cy2, vd⟩) } : Nd) with bid := some ⟨n1, (1, 0), [], fun _ => noAc⟩ } := by
          unfold begun acOf
          dsimp only
          rw [← Hn1.out]
          have a1 := HV.out.2.1
          have a2 := HV.out.2.2.1
          rw [a1, a2]
        rw [e2]
        exact k4
    refine hK.out _ _ ⟨c3', g0'', g1''⟩ (fun hHeld => ?_)
    clear hK K
    refine wpAnyH_done (by kernel_rfl) ?_ _
    have hmm := @run_makeMap Tryz.prog
    have hlg : gb < w3.heap.size := cell_lt' g0''
    have hlp : g.p < w3.heap.size := cell_lt' c6'
    dsimp only at hAsk
    clear k2 k3 k4 t4 hput hHeld H3 HE HC Hv3 hlk s3 g0 g1 g0' g1' hP hgm
    go_wp2_with (first
      | (
         go_at_call 66; refine hAsk.mono ?_; rintro e w9 ⟨rfl, hw9⟩; subst w9; clear hAsk))
    go_ret
    exact ⟨rfl, HF.out⟩

end

end Go.Proofs.YtdlajpjigddbhaaGreat.Px
