/-
  What the document's New and DoWrite do: contracts over plain numbers ('DkPlain').
  Conditions: DoWrite's disk is one that New gave ('RDk').
-/
import Derived.Test.YtaaeppbkbkfphaaDkRef
import Derived.Test.YtaaeppbkbkfphaaMxOrders
namespace Go.Proofs.Ytaaeppbkbkfphaa
open Go.RowKit By Dk
set_option linter.unusedVariables false
set_option linter.unusedSimpArgs false

/- An append that comes up alone in a region that draws its order. -/
theorem ready_append {P : Program} {w w' : World} {ops : Array Oper} {o : Oper} {a : Act} {K : Act → World → Prop} {Q : Exit → Act → World → Prop} {v' : Value} (hg : Region.wanted o (yielded ops a.tmps) = true) (s x : Operand) (t : TypeId)
    (ho : o.op = .call { callee := .builtin .append, args := #[s, x], argTypes := #[t, t] }) (v1 v2 : Value) (hs : a.eval s = v1) (hx : a.eval x = v2) (hr : (Builtin.append_ #[t, t] o.type #[v1, v2]).run P w = .ok v' w')
    (h : K (a.put o.dst v') w') : if Region.wanted o (yielded ops a.tmps) = true then Oper.wp P o a w K Q else K (a.put o.dst undef) w := by
  rw [if_pos hg]
  unfold Oper.wp execOp
  simp only [ho, resolve, invoke, builtin, Sem.run_bind, Sem.run_pure, Result.andThen_ok, List.map_toArray, List.map_cons, List.map_nil, hs, hx, hr]
  exact h

theorem ownsRow_two {w : World} {b1 b2 : Nat} {e1 e2 : TypeId} {s1 s2 : Nat} {R1 R2 : Value} {n1 n2 : Nat} {x1 x2 : List Value} (h1 : w.ownsRow b1 e1 s1 R1 n1 x1) (h2 : w.ownsRow b2 e2 s2 R2 n2 x2) (he : e1 ≠ e2) : ∀ g, R1.ownBlock = some g → R2.ownBlock ≠ some g := fun g hg hg2 => by
  rcases h1.2 with ⟨rfl, _⟩ | ⟨g1, cap, cur, rfl, _, k1, _⟩
  · cases hg
  rcases h2.2 with ⟨rfl, _⟩ | ⟨g2, cap2, cur2, rfl, _, k2, _⟩
  · cases hg2
  simp [Value.ownBlock] at hg hg2
  subst hg hg2
  have := Option.some.inj (k1.symm.trans k2)
  injection this with _ h4 _
  exact he h4

section
variable {w w3 : World} {G : Nat → Prop} {r : Nat} {S P S' P' : Value} {n m n' m' : Nat} {f f' A A' : Nat → Nat} {D D' : Nat → Nat → Nat}

theorem rd_setS (h : RDk w G r S P n m f A D) (T : Turns (fun k => S.ownBlock = some k) w w3) (ho : w3.ownsRow 0 9 1 S' n' (rowOf (secS f') n')) (hS' : ∀ k, S'.ownBlock = some k → S.ownBlock = some k ∨ w.heap.size ≤ k) (hat : ∀ i, i < m → A i < n') (hf : ∀ i, f' i < 256) (hn : n' ≤ 4096) :
    Turns G w (w3.setCell ⟨r, 0, none⟩ S') ∧ RDk (w3.setCell ⟨r, 0, none⟩ S') (grow G w (w3.setCell ⟨r, 0, none⟩ S')) r S' P n' m f' A D := by
  have hr := h.obj.lt
  have nr : S.ownBlock ≠ some r := ownsRow_ne h.sec_ h.obj (by decide)
  have T1 : Turns G w (w3.setCell ⟨r, 0, none⟩ S') := (T.weak (fun k hk => h.fS k hk)).setCell (p := ⟨r, 0, none⟩) (.inl h.fr) S'
  have hne : ∀ k, S'.ownBlock = some k → k ≠ r := fun k hk => by
    rcases hS' k hk with e | e
    · exact fun e2 => nr (by rw [e, e2])
    · omega
  refine ⟨T1, ((h.obj.of_heap (T.block _ hr nr)).set 0 S').congr fun k hk => ?_, ownsRow_same ho (fun k hk => Below.heap_setCell _ _ _ _ (hne k hk)), ?_, hat, .inl h.fr, fun k hk => ?_, fun k hk => .inl (h.fP k hk), hf, h.ltD, fun k hk => ?_, hn, h.m2⟩
  · unfold upd obj2
    by_cases e : k = 0
    · simp [e]
    · simp [e]
  · refine ownsRow_same h.pen (fun k hk => ?_)
    have hkr : k ≠ r := fun e => ownsRow_ne h.pen h.obj (by decide) (by rw [hk, e])
    exact (Below.heap_setCell _ _ _ _ hkr).trans (T.block k (h.flt k (h.fP k hk)) (ownsRow_two h.pen h.sec_ (by decide) k hk))
  · rcases hS' k hk with e | e
    · exact .inl (h.fS k e)
    · exact .inr ⟨e, by simpa [World.setCell] using (ho.lt k hk).2⟩
  · rcases hk with hk | hk
    · exact Nat.lt_of_lt_of_le (h.flt k hk) T1.size
    · exact hk.2

theorem rd_setP (h : RDk w G r S P n m f A D) (T : Turns (fun k => P.ownBlock = some k) w w3) (ho : w3.ownsRow 0 66 2 P' m' (rowOf (wrP A' D') (m' * 2))) (hP' : ∀ k, P'.ownBlock = some k → P.ownBlock = some k ∨ w.heap.size ≤ k) (hat : ∀ i, i < m' → A' i < n) (hD : ∀ i j, D' i j < 256) (hm : m' ≤ 1000) :
    Turns G w (w3.setCell ⟨r, 1, none⟩ P') ∧ RDk (w3.setCell ⟨r, 1, none⟩ P') (grow G w (w3.setCell ⟨r, 1, none⟩ P')) r S P' n m' f A' D' := by
  have hr := h.obj.lt
  have nr : P.ownBlock ≠ some r := ownsRow_ne h.pen h.obj (by decide)
  have T1 : Turns G w (w3.setCell ⟨r, 1, none⟩ P') := (T.weak (fun k hk => h.fP k hk)).setCell (p := ⟨r, 1, none⟩) (.inl h.fr) P'
  have hne : ∀ k, P'.ownBlock = some k → k ≠ r := fun k hk => by
    rcases hP' k hk with e | e
    · exact fun e2 => nr (by rw [e, e2])
    · omega
  refine ⟨T1, ((h.obj.of_heap (T.block _ hr nr)).set 1 P').congr fun k hk => ?_, ?_, ownsRow_same ho (fun k hk => Below.heap_setCell _ _ _ _ (hne k hk)), hat, .inl h.fr, fun k hk => .inl (h.fS k hk), fun k hk => ?_, h.lt, hD, fun k hk => ?_, h.n2, hm⟩
  · unfold upd obj2
    by_cases e : k = 1
    · simp [e]
    · have : k = 0 := by omega
      simp [this]
  · refine ownsRow_same h.sec_ (fun k hk => ?_)
    have hkr : k ≠ r := fun e => ownsRow_ne h.sec_ h.obj (by decide) (by rw [hk, e])
    exact (Below.heap_setCell _ _ _ _ hkr).trans (T.block k (h.flt k (h.fS k hk)) (ownsRow_two h.sec_ h.pen (by decide) k hk))
  · rcases hP' k hk with e | e
    · exact .inl (h.fP k e)
    · exact .inr ⟨e, by simpa [World.setCell] using (ho.lt k hk).2⟩
  · rcases hk with hk | hk
    · exact Nat.lt_of_lt_of_le (h.flt k hk) T1.size
    · exact hk.2

end

theorem rnew_no (z : Int) (w : World) (h : z < 1 ∨ 4096 < z) :
    Calls Try.prog 8 #[.int .i64 z] w fun e w' => e = .returned (.tuple #[.pointer none, .int .i64 1]) ∧ w' = w := by
  by_cases h1 : z < 1
  · clear h
    go_enter Try.func8, Try.ntmps8
    go_wp2_with fail
    go_ret2
    exact ⟨rfl, rfl⟩
  · have h2 : 4096 < z := by omega
    clear h
    go_enter Try.func8, Try.ntmps8
    go_wp2_with fail
    go_ret2
    exact ⟨rfl, rfl⟩

/- One text behind a list of texts. -/
theorem push_str (w : World) (S : Value) (n : Nat) (v : Nat → Value) (T : ByteArray) (hown : w.ownsRow 0 9 1 S n (rowOf v n)) (hn : n ≤ 4096) :
    ∃ x' c' w', (Builtin.append_ #[37, 37] 37 #[S, .slice (some ⟨w.heap.size, 0, none⟩) 1 1]).run Try.prog (w.alloc (.cells #[.string T] 9)) = .ok (.slice x' (n + 1) c') w' ∧
      w'.ownsRow 0 9 1 (.slice x' (n + 1) c') (n + 1) (rowOf v n ++ [.string T]) ∧ Turns (fun k => S.ownBlock = some k) w w' ∧ (∀ g, (Value.slice x' (n + 1) c').ownBlock = some g → S.ownBlock = some g ∨ w.heap.size ≤ g) := by
  obtain ⟨i0, hi, hz0, hz1, hz2⟩ := info_parts info_str
  obtain ⟨R', w4, hap, ho, hgr, hR'⟩ := push_gen (w.alloc (.cells #[.string T] 9)) 37 9 i0 (.string ByteArray.empty) 1 16 Try.underlying37 hi hz0 hz1 hz2 rfl (by decide) S n _ (hown.alloc _)
    ⟨w.heap.size, 0, none⟩ 1 1 [.string T] rfl (fun j u hj => by
      match j, hj with
      | 0, hj => rw [add_at]; simpa using hj
      | j + 1, hj => simp at hj) (fun u hu => by simp at hu; subst hu; rfl) (by omega) (by unfold maxLen; omega) (by omega)
  obtain ⟨x', c', hRe, _⟩ := ownsRow_form ho
  subst hRe
  refine ⟨x', c', w4, hap, ho, ((Turns.refl _ w).alloc _).grown hgr (fun k hk => .inl hk), fun g hg => ?_⟩
  rcases hR' g hg with e | e
  · exact .inl e
  · right
    simp at e
    omega

theorem zero_sec (k : Nat) : secS (fun _ => 0) k = .string (strOfNums (nums (fun _ => 0) 64)) := rfl

set_option maxHeartbeats 2000000 in
theorem rnew_yes (n : Nat) (A : Nat → Nat) (D : Nat → Nat → Nat) (hD : ∀ i j, D i j < 256) (w : World) (h1 : 1 ≤ n) (h2 : n ≤ 4096) :
    Calls Try.prog 8 #[.int .i64 (n : Int)] w fun e w' => ∃ r, e = .returned (.tuple #[.pointer (some ⟨r, 0, none⟩), .int .i64 0]) ∧ Below w.heap.size w w' ∧ Rd w' (fun k => w.heap.size ≤ k ∧ k < w'.heap.size) r n 0 (fun _ => 0) A D := by
  have hb0 : Below w.heap.size w (w.alloc (.cells #[.slice none 0 0, .slice none 0 0] 40)) := (Below.refl _ _).alloc (Nat.le_refl _) _
  have hr0 : RDk (w.alloc (.cells #[.slice none 0 0, .slice none 0 0] 40)) (fun k => w.heap.size ≤ k ∧ k < (w.alloc (.cells #[.slice none 0 0, .slice none 0 0] 40)).heap.size) w.heap.size (.slice none 0 0) (.slice none 0 0) 0 0 (fun _ => 0) A D :=
    ⟨Blk.new _ _ _ _ _ rfl, ⟨rfl, .inl ⟨rfl, rfl⟩⟩, ⟨rfl, .inl ⟨rfl, rfl⟩⟩, fun i hi => by omega, ⟨Nat.le_refl _, by simp⟩, fun g hg => by simp [Value.ownBlock] at hg, fun g hg => by simp [Value.ownBlock] at hg, fun _ => by omega, hD, fun k hk => hk.2, by omega, by omega⟩
  have H0 := hid (And.intro hb0 hr0)
  clear hb0 hr0 hD
  go_enter Try.func8, Try.ntmps8
  go_wp2_with fail
  go_loopw [5] (fun i wr => ∃ k : Nat, k ≤ n ∧ i = .int .i64 k ∧ Hid (Below w.heap.size w wr ∧ ∃ S, RDk wr (fun j => w.heap.size ≤ j ∧ j < wr.heap.size) w.heap.size S (.slice none 0 0) k 0 (fun _ => 0) A D)) (fun i _ => n - (intOf i).toNat)
  case atStart => exact ⟨0, by omega, rfl, H0.out.1, _, H0.out.2⟩
  case round =>
    obtain ⟨k, hk, rfl, HR⟩ := hrel
    clear H0
    by_cases hlt : k < n
    · have hkn : (k : Int) < (n : Int) := by omega
      obtain ⟨hb, S, hr⟩ := HR.out
      have hrd := hr.drew
      obtain ⟨w1, hmk, hB1, hb1, hs1⟩ := make_blk wr.drew 64 (by omega)
      have hmk : (Instr.makeSlice 32 (.int .i64 64) (.int .i64 64)).run Try.prog wr.drew = .ok (.slice (some ⟨wr.heap.size, 0, none⟩) 64 64) w1 := hmk
      have hcv := conv_row w1 (some ⟨wr.heap.size, 0, none⟩) 64 64 (fun _ => 0) hB1.row
      have hr1 := hrd.below hb1
      obtain ⟨x', c', w3, hap, ho3, t3, hx3⟩ := push_str w1 S k _ (strOfNums (nums (fun _ => 0) 64)) hr1.sec_ (by omega)
      rw [show rowOf (secS fun _ => 0) k ++ [.string (strOfNums (nums (fun _ => 0) 64))] = rowOf (secS fun _ => 0) (k + 1) by rw [rowOf_succ, zero_sec]] at ho3
      obtain ⟨T4, hr4⟩ := rd_setS hr1 t3 ho3 hx3 (fun i hi => by omega) (fun _ => by omega) (by omega)
      obtain ⟨x0, c0', hS0, _⟩ := ownsRow_form hr.sec_
      subst hS0
      have g0 := hrd.c0
      have g1 := hr1.c0
      have g2 : (w1.alloc (.cells #[.string (strOfNums (nums (fun _ => 0) 64))] 9)).cell? ⟨w.heap.size, 0, none⟩ = some (.slice x0 k c0') := (World.cell?_of_block (a := ⟨w.heap.size, 0, none⟩) (heap_alloc_old _ _ hr1.obj.lt)).trans g1
      have nr : (Value.slice x0 k c0').ownBlock ≠ some w.heap.size := ownsRow_ne hr1.sec_ hr1.obj (by decide)
      have b3 := hr1.obj.of_heap (t3.block _ hr1.obj.lt nr)
      have g3 : w3.cell? ⟨w.heap.size, 0, none⟩ = some (.slice x0 k c0') := b3.cell (k := 0) (by omega)
      have f3 := b3.frozen 0
      have HN : Hid (Below w.heap.size w (w3.setCell ⟨w.heap.size, 0, none⟩ (.slice x' (k + 1) c')) ∧ ∃ S, RDk (w3.setCell ⟨w.heap.size, 0, none⟩ (.slice x' (k + 1) c')) (fun j => w.heap.size ≤ j ∧ j < (w3.setCell ⟨w.heap.size, 0, none⟩ (.slice x' (k + 1) c')).heap.size) w.heap.size S (.slice none 0 0) (k + 1) 0 (fun _ => 0) A D) := by
        have hsz := hb.size
        have hb' : Below w.heap.size w w1 := hb.trans ((Below.refl w.heap.size wr).drew.trans (hb1.mono hsz))
        refine ⟨hb'.trans (T4.below (fun k hk => hk.1) hb'.size), _, ⟨hr4.obj, hr4.sec_, hr4.pen, hr4.at_, ⟨Nat.le_refl _, hr4.obj.lt⟩, fun g hg => ⟨?_, hr4.flt g (hr4.fS g hg)⟩, fun g hg => ⟨?_, hr4.flt g (hr4.fP g hg)⟩, hr4.lt, hr4.ltD, fun k hk => hk.2, hr4.n2, hr4.m2⟩⟩
        · rcases hr4.fS g hg with e | e
          · exact e.1
          · exact Nat.le_trans hb'.size e.1
        · rcases hr4.fP g hg with e | e
          · exact e.1
          · exact Nat.le_trans hb'.size e.1
      clear hb hr hrd hB1 hb1 hs1 hr1 ho3 t3 hx3 T4 hr4 b3 nr HR
      generalize strOfNums (nums (fun _ => 0) 64) = Z at *
      generalize (Value.slice x0 k c0') = S0 at *
      generalize hg : wr.heap.size = gw at *
      go_wp2_with fail
      refine wp_region_last (fun v => v.cell? ⟨w.heap.size, 0, none⟩ = some S0) 11 (by kernel_rfl) g0 (fun hS => ?_)
      refine wpAnyL_take (i := 0) (v := ?_) rfl (by kernel_rfl) (by kernel_rfl) (by kernel_rfl) (by kernel_rfl) (fun _ _ _ h => h) hS (Or.inl ⟨by rfl, ?_⟩) ?_
      case refine_2 => (intro w hSw; (try dsimp only at hSw); go_simp; (try with_reducible rfl))
      (try simp only [Act.put, List.setIfInBounds_toArray, List.set_cons_zero, List.set_cons_succ])
      refine wpAnyL_take (i := 1) (v := ?_) rfl (by kernel_rfl) (by kernel_rfl) (by kernel_rfl) (by kernel_rfl) (fun _ _ _ h => h) hS (Or.inl ⟨by rfl, ?_⟩) ?_
      case refine_2 => (intro w hSw; (try dsimp only at hSw); go_simp; (try with_reducible rfl))
      (try simp only [Act.put, List.setIfInBounds_toArray, List.set_cons_zero, List.set_cons_succ])
      refine wpAnyL_take (i := 2) (v := ?_) rfl (by kernel_rfl) (by kernel_rfl) (by kernel_rfl) (by kernel_rfl) (fun _ _ _ h => h) hS (Or.inl ⟨by rfl, ?_⟩) ?_
      case refine_2 => (intro w hSw; (try dsimp only at hSw); go_simp; (try with_reducible rfl))
      (try simp only [Act.put, List.setIfInBounds_toArray, List.set_cons_zero, List.set_cons_succ])
      refine wpAnyL_take (i := 3) (v := ?_) rfl (by kernel_rfl) (by kernel_rfl) (by kernel_rfl) (by kernel_rfl) (fun _ _ _ h => h) hS (Or.inl ⟨by rfl, ?_⟩) ?_
      case refine_2 => (intro w hSw; (try dsimp only at hSw); go_simp; (try with_reducible rfl))
      (try simp only [Act.put, List.setIfInBounds_toArray, List.set_cons_zero, List.set_cons_succ])
      refine wpAnyL_take (i := 4) (v := ?_) rfl (by kernel_rfl) (by kernel_rfl) (by kernel_rfl) (by kernel_rfl) (fun _ _ _ h => h) hS (Or.inl ⟨by rfl, ?_⟩) ?_
      case refine_2 => (intro w hSw; (try dsimp only at hSw); go_simp; (try with_reducible rfl))
      (try simp only [Act.put, List.setIfInBounds_toArray, List.set_cons_zero, List.set_cons_succ])
      refine wpAnyL_one (i := 5) (by kernel_rfl) rfl (fun K hK => ?_)
      go_simp
      refine hK.out _ _ (fun _ => g1) ?_
      clear hK K
      refine wpAnyL_one (i := 6) (by kernel_rfl) rfl (fun K hK => ?_)
      go_simp
      refine hK.out _ _ (fun _ => g1) ?_
      clear hK K
      refine wpAnyL_one (i := 7) (by kernel_rfl) rfl (fun K hK => ?_)
      go_simp
      refine hK.out _ _ (fun _ => g2) ?_
      clear hK K
      refine wpAnyL_one (i := 8) (by kernel_rfl) rfl (fun K hK => ?_)
      refine ready_append rfl _ _ 37 rfl _ _ rfl rfl hap ?_
      (try simp only [Act.put, List.getElem_toArray, List.getElem_cons_succ, List.getElem_cons_zero, List.setIfInBounds_toArray, List.set_cons_zero, List.set_cons_succ])
      refine hK.out _ _ (fun _ => g3) ?_
      clear hK K
      refine wpAnyL_one (i := 9) (by kernel_rfl) rfl (fun K hK => ?_)
      go_simp
      refine hK.out _ _ (fun _ => g3) ?_
      clear hK K
      refine wpAnyL_one (i := 10) (by kernel_rfl) rfl (fun K hK => ?_)
      go_simp
      refine hK.out _ _ (fun _ => g3) ?_
      clear hK K
      refine wpAnyL_one (i := 11) (by kernel_rfl) rfl (fun K hK => ?_)
      go_simp
      refine hK.out _ _ (fun h => absurd rfl h) ?_
      clear hK K
      refine wpAnyL_done (by kernel_rfl) ?_ _
      go_wp2_with fail
      go_roundw
      case rel => exact ⟨k + 1, by omega, by go_num, HN⟩
      case measure => simp [intOf]; omega
    · have hk2 : k = n := by omega
      subst hk2
      obtain ⟨hb, S, hr⟩ := HR.out
      have HF : Hid (Below w.heap.size w wr ∧ Rd wr (fun j => w.heap.size ≤ j ∧ j < wr.heap.size) w.heap.size k 0 (fun _ => 0) A D) := ⟨hb, S, _, hr⟩
      clear hb hr HR
      go_wp2_with fail
      go_ret2
      exact ⟨_, rfl, HF.out⟩

end Go.Proofs.Ytaaeppbkbkfphaa
