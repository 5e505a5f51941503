/-
  What the document's Rot and Dump do: contracts over plain numbers ('DkPlain').
  Conditions: the disk is one that New gave ('RDk').
-/
import Derived.Test.YtaaeppbkbkfphaaDkRefCrash
namespace Go.Proofs.Ytaaeppbkbkfphaa
open Go.RowKit By Dk
set_option linter.unusedVariables false
set_option linter.unusedSimpArgs false

theorem rrot_no (r n cs : Nat) (xs : Option Addr) (z y : Int) (w : World) (h : w.cell? ⟨r, 0, none⟩ = some (.slice xs n cs)) (hz : z < 0 ∨ 64 * (n : Int) ≤ z) (hz2 : z ≤ 9223372036854775807) (hn : n ≤ 4096) :
    Calls Try.prog 23 #[.pointer (some ⟨r, 0, none⟩), .int .i64 z, .int .u8 y] w fun e w' => e = .returned (.int .i64 1) ∧ w' = w := by
  by_cases h0 : z < 0
  · clear hz
    go_enter Try.func23, Try.ntmps23
    go_wp2_with fail
    go_ret
    exact ⟨rfl, rfl⟩
  · obtain ⟨q, hq⟩ : ∃ q : Nat, z / 64 = (q : Int) := ⟨(z / 64).toNat, by omega⟩
    have h1 : (n : Int) ≤ (q : Int) := by omega
    have h2 : 0 ≤ z := by omega
    have h3 : (q : Int) ≤ 9223372036854775807 := by omega
    clear hz
    go_enter Try.func23, Try.ntmps23
    go_wp2_with fail
    go_ret
    exact ⟨rfl, rfl⟩

def rotD (d : Nat → Nat) (j y : Nat) : Nat → Nat := fun i => if i = j then d i ^^^ y else d i

theorem rot_row (f : Nat → Nat) (a y n : Nat) : rowOf (upd (secS f) (a / 64) (datS (rotD (sec f (a / 64)) (a % 64) y))) n = rowOf (secS (rotF f a y)) n := by
  refine rowOf_congr fun k hk => ?_
  unfold upd secS datS
  by_cases e : k = a / 64
  · subst e
    rw [if_pos rfl, str_congr fun i hi => ?_]
    unfold rotD rotF sec
    dsimp only
    by_cases e2 : i = a % 64
    · subst e2
      rw [if_pos rfl, if_pos (by omega)]
    · rw [if_neg e2, if_neg (by omega)]
  · rw [if_neg e, str_congr fun i hi => ?_]
    unfold rotF sec
    dsimp only
    rw [if_neg (by omega)]

theorem rd_secset {w : World} {G : Nat → Prop} {r g n c m k : Nat} {P T : Value} {f f' A : Nat → Nat} {D : Nat → Nat → Nat} (h : RDk w G r (.slice (some ⟨g, 0, none⟩) n c) P n m f A D) (hk : k < n) (e : rowOf (upd (secS f) k T) n = rowOf (secS f') n) (hf : ∀ i, f' i < 256) :
    Turns G w (w.setCell ⟨g, k, none⟩ T) ∧ RDk (w.setCell ⟨g, k, none⟩ T) G r (.slice (some ⟨g, 0, none⟩) n c) P n m f' A D := by
  have hg : g ≠ r := fun e => ownsRow_ne h.sec_ h.obj (by decide) (by rw [e]; rfl)
  have T1 : Turns G w (w.setCell ⟨g, k, none⟩ T) := (Turns.refl G w).setCell (p := ⟨g, k, none⟩) (.inl (h.fS g rfl)) T
  refine ⟨T1, h.obj.of_heap (Below.heap_setCell _ _ _ _ (Ne.symm hg)), ?_, ownsRow_same h.pen (fun j hj => Below.heap_setCell _ _ _ _ (fun e => ownsRow_two h.pen h.sec_ (by decide) j hj (by rw [e]; rfl))), h.at_, h.fr, h.fS, h.fP, hf, h.ltD, fun j hj => Nat.lt_of_lt_of_le (h.flt j hj) T1.size, h.n2, h.m2⟩
  rw [← e]
  exact ownsRow_set h.sec_ hk T

set_option maxHeartbeats 600000 in
theorem rrot_yes (r n m a y : Nat) (G : Nat → Prop) (f A : Nat → Nat) (D : Nat → Nat → Nat) (w : World) (h : Rd w G r n m f A D) (ha : a < 64 * n) (hy : y < 256) :
    Calls Try.prog 23 #[.pointer (some ⟨r, 0, none⟩), .int .i64 (a : Int), .int .u8 (y : Int)] w fun e w' => e = .returned (.int .i64 0) ∧ ∃ G', Turns G w w' ∧ Rd w' G' r n m (rotF f a y) A D ∧ ∀ k, G' k → G k ∨ w.heap.size ≤ k := by
  obtain ⟨S, P, h⟩ := h
  have hn2 := h.n2
  have hrt := rot_row f a y n
  obtain ⟨qa, hqa⟩ : ∃ q, q = a / 64 := ⟨_, rfl⟩
  obtain ⟨ra, hra⟩ : ∃ q, q = a % 64 := ⟨_, rfl⟩
  rw [← hqa, ← hra] at hrt
  have i1 : (a : Int) / 64 = (qa : Int) := by omega
  have i2 : (a : Int) % 64 = (ra : Int) := by omega
  have hq : qa < n := by omega
  have hr : ra < 64 := by omega
  have ha9 : a ≤ 262144 := by omega
  have hwr : IntKind.i64.wrap (qa : Int) = (qa : Int) := by rw [IntKind.wrap_i64]; omega
  have hrf : ∀ i, rotF f a y i < 256 := fun i => by
    unfold rotF
    split
    · exact xor_lt8 (h.lt i) hy
    · exact h.lt i
  clear hqa hra
  obtain ⟨x0, c0', hS0, _, _, hrow0⟩ := ownsRow_form2 h.sec_
  subst hS0
  rcases hrow0 with h0 | ⟨g0, rfl, hce0⟩
  · omega
  have ks : w.cell? ⟨g0, qa, none⟩ = some (datS (sec f qa)) := (hce0 qa _ (rowOf_get _ n qa hq)).1
  have k0 := h.c0
  obtain ⟨cb, W1, hcv, hb1, hl1, hc1⟩ := conv_text (sec f qa) (fun i => h.lt _) w
  obtain ⟨cc1, ff1⟩ := hc1 ra hr
  have hlq : sec f qa ra < 256 := h.lt _
  have hx := u8_xor_nat (sec f qa ra) y hlq hy
  obtain ⟨X, hX⟩ : ∃ X, X = sec f qa ra ^^^ y := ⟨_, rfl⟩
  have b2 : Below w.heap.size w (W1.setCell ⟨w.heap.size, ra, none⟩ (.int .u8 (X : Int))) := hb1.setCell (p := ⟨w.heap.size, ra, none⟩) (Nat.le_refl _) _
  have row2 : RowAt (W1.setCell ⟨w.heap.size, ra, none⟩ (.int .u8 (X : Int))) (some ⟨w.heap.size, 0, none⟩) 64 (rotD (sec f qa) ra y) := .inr ⟨w.heap.size, 0, rfl, by simpa [World.setCell] using hl1, fun i hi => by
    rw [Nat.zero_add]
    unfold rotD
    by_cases e : i = ra
    · subst e
      rw [if_pos rfl, hX]
      exact World.cell?_setCell_same _ _ _ (hc1 i hi).1
    · rw [if_neg e]
      exact (World.cell?_setCell_other _ _ _ _ (fun h => e (by injection h with _ h2 _; exact h2.symm))).trans (hc1 i hi).1⟩
  rw [← hX] at hx
  have l2 : w.heap.size < (W1.setCell ⟨w.heap.size, ra, none⟩ (.int .u8 (X : Int))).heap.size := by simpa [World.setCell] using hl1
  obtain ⟨W2, hW2⟩ : ∃ W2, W2 = W1.setCell ⟨w.heap.size, ra, none⟩ (.int .u8 (X : Int)) := ⟨_, rfl⟩
  rw [← hW2] at b2 row2 l2
  have h2 := h.below b2
  obtain ⟨gl, cl, W3, hap, hb3, ho3, hgl⟩ := strs_copy W2 (some ⟨g0, 0, none⟩) n c0' (secS f) h2.sec_ (secS_one f) (by omega) hn2
  have ba : Below W2.heap.size W2 (W2.alloc (.cells #[] 9)) := (Below.refl _ _).alloc (Nat.le_refl _) _
  have ka := (h2.below ba).c0
  obtain ⟨T4, h4⟩ := rd_setS h2 (Turns.of_below hb3) ho3 (fun k hk => by simp [Value.ownBlock] at hk; right; omega) h2.at_ h.lt hn2
  have o3 := h2.obj.of_heap (hb3.block _ h2.obj.lt)
  have e3 := o3.cell (k := 0) (by omega)
  have f3 := o3.frozen 0
  have row3 := row2.below hb3
  have row4 : RowAt (W3.setCell ⟨r, 0, none⟩ (.slice (some ⟨gl, 0, none⟩) n cl)) (some ⟨w.heap.size, 0, none⟩) 64 (rotD (sec f qa) ra y) := by
    have t : Turns (fun k => k = r) W3 (W3.setCell ⟨r, 0, none⟩ (.slice (some ⟨gl, 0, none⟩) n cl)) := (Turns.refl (fun k => k = r) W3).setCell (p := ⟨r, 0, none⟩) (.inl rfl) _
    refine t.row row3 (fun ad had e => ?_)
    cases had
    have h1 := h.obj.lt
    have h3 : w.heap.size = r := e
    omega
  obtain ⟨W4, hW4⟩ : ∃ W4, W4 = W3.setCell ⟨r, 0, none⟩ (.slice (some ⟨gl, 0, none⟩) n cl) := ⟨_, rfl⟩
  rw [← hW4] at h4 row4 T4
  have h4d := h4.drew
  have s1 := h4d.c0
  obtain ⟨Z, hZ⟩ : ∃ Z, Value.string Z = datS (rotD (sec f qa) ra y) := ⟨_, rfl⟩
  have hZ' : Z = strOfNums (nums (rotD (sec f qa) ra y) 64) := by injection hZ
  have v1 : (convert 32 9 (.slice (some ⟨w.heap.size, 0, none⟩) 64 cb)).run Try.prog W4.drew = .ok (.string Z) W4.drew := by rw [conv_row W4.drew _ 64 cb _ row4, hZ']
  obtain ⟨T5, h5⟩ := rd_secset h4d hq (T := .string Z) (by rw [hZ]; exact hrt) hrf
  obtain ⟨_, _, he2, _, _, hrow2⟩ := ownsRow_form2 h4d.sec_
  rcases hrow2 with h0 | ⟨gl', he3, hcl⟩
  · omega
  injection he2 with e4 _ e6
  subst e6
  rw [he3] at e4
  injection e4 with e4
  injection e4 with e4 _ _
  subst e4
  obtain ⟨c9, f9⟩ := hcl qa _ (rowOf_get _ n qa hq)
  have s5 := h5.c0
  have v5 : (convert 32 9 (.slice (some ⟨w.heap.size, 0, none⟩) 64 cb)).run Try.prog (W4.drew.setCell ⟨gl, qa, none⟩ (.string Z)) = .ok (.string Z) (W4.drew.setCell ⟨gl, qa, none⟩ (.string Z)) := by
    have t : Turns (fun k => k = gl) W4.drew (W4.drew.setCell ⟨gl, qa, none⟩ (.string Z)) := (Turns.refl (fun k => k = gl) W4.drew).setCell (p := ⟨gl, qa, none⟩) (.inl rfl) _
    have := t.row (x := some ⟨w.heap.size, 0, none⟩) (n := 64) row4 (fun ad had e => by
      cases had
      have h3 : w.heap.size = gl := e
      omega)
    rw [conv_row _ _ 64 cb _ this, hZ']
  have HN : Hid (∃ G', Turns G w (W4.drew.setCell ⟨gl, qa, none⟩ (.string Z)) ∧ Rd (W4.drew.setCell ⟨gl, qa, none⟩ (.string Z)) G' r n m (rotF f a y) A D ∧ ∀ k, G' k → G k ∨ w.heap.size ≤ k) := by
    have T24 : Turns G w W4 := (Turns.of_below b2).more T4 (fun i hi => .inl hi)
    have T45 : Turns (grow G W2 W4) W4 (W4.drew.setCell ⟨gl, qa, none⟩ (.string Z)) := ⟨T5.os, T5.tape, T5.output, T5.size, T5.block⟩
    refine ⟨_, T24.more T45 (fun i hi => ?_), ⟨_, _, h5⟩, fun k hk => ?_⟩
    · rcases hi with hi | hi
      · exact .inl hi
      · exact .inr (Nat.le_trans b2.size hi.1)
    · rcases hk with hk | hk
      · exact .inl hk
      · exact .inr (Nat.le_trans b2.size hk.1)
  clear h h2 h4 h4d h5 T4 T5 hce0 hc1 hb1 hl1 b2 row2 row3 row4 hb3 ho3 hgl ba o3 hcl hrt hrf hZ hZ' hX he3 l2
  generalize secS f qa = V9 at *
  generalize obj2 (.slice (some ⟨g0, 0, none⟩) n c0') P 0 = V0 at *
  generalize datS (sec f qa) = Q at *
  generalize sec f qa ra = u at *
  have hsz2 : W2.heap.size = W1.heap.size := by rw [hW2]; simp [World.setCell]
  rw [hsz2] at hap
  clear hsz2
  subst hW4
  subst hW2
  go_enter Try.func23, Try.ntmps23
  go_wp2_with (at_builtin; refine wpList_append_run rfl _ _ 37 rfl _ _ rfl rfl hap ?_; clear hap)
  generalize W3.setCell ⟨r, 0, none⟩ (.slice (some ⟨gl, 0, none⟩) n cl) = W4 at *
  refine wp_region_held_drew (S := fun v => v.cell? ⟨r, 0, none⟩ = some (.slice (some ⟨gl, 0, none⟩) n cl) ∧ (convert 32 9 (.slice (some ⟨w.heap.size, 0, none⟩) 64 cb)).run Try.prog v = .ok (.string Z) v) (by kernel_rfl) ⟨s1, v1⟩ (fun hHeld => ?_)
  refine wpAnyH_take (i := 0) (v := ?_) rfl (by kernel_rfl) (by kernel_rfl) (by kernel_rfl) (fun _ _ _ h => h) (Or.inl ⟨by rfl, ?_⟩) (by assumption) ?_
  case refine_2 => (intro w hSw; (try dsimp only at hSw); go_simp; (try with_reducible rfl))
  (try simp only [Act.put, List.getElem_toArray, List.getElem_cons_succ, List.getElem_cons_zero, List.setIfInBounds_toArray, List.set_cons_zero, List.set_cons_succ])
  refine wpAnyH_take (i := 1) (v := ?_) rfl (by kernel_rfl) (by kernel_rfl) (by kernel_rfl) (fun _ _ _ h => h) (Or.inl ⟨by rfl, ?_⟩) (by assumption) ?_
  case refine_2 => (intro w hSw; (try dsimp only at hSw); go_simp; (try with_reducible rfl))
  (try simp only [Act.put, List.getElem_toArray, List.getElem_cons_succ, List.getElem_cons_zero, List.setIfInBounds_toArray, List.set_cons_zero, List.set_cons_succ])
  refine wpAnyH_take (i := 2) (v := ?_) rfl (by kernel_rfl) (by kernel_rfl) (by kernel_rfl) (fun _ _ _ h => h) (Or.inl ⟨by rfl, ?_⟩) (by assumption) ?_
  case refine_2 => (intro w hSw; (try dsimp only at hSw); go_simp; (try with_reducible rfl))
  (try simp only [Act.put, List.getElem_toArray, List.getElem_cons_succ, List.getElem_cons_zero, List.setIfInBounds_toArray, List.set_cons_zero, List.set_cons_succ])
  refine wpAnyH_take (i := 3) (v := ?_) rfl (by kernel_rfl) (by kernel_rfl) (by kernel_rfl) (fun _ _ _ h => h) (Or.inl ⟨by rfl, ?_⟩) (by assumption) ?_
  case refine_2 => (intro w hSw; (try dsimp only at hSw); go_simp; (try with_reducible rfl))
  (try simp only [Act.put, List.getElem_toArray, List.getElem_cons_succ, List.getElem_cons_zero, List.setIfInBounds_toArray, List.set_cons_zero, List.set_cons_succ])
  refine wpAnyH_take (i := 4) (v := ?_) rfl (by kernel_rfl) (by kernel_rfl) (by kernel_rfl) (fun _ _ _ h => h) (Or.inl ⟨by rfl, ?_⟩) (by assumption) ?_
  case refine_2 => (intro w hSw; (try dsimp only at hSw); go_simp; (try with_reducible rfl))
  (try simp only [Act.put, List.getElem_toArray, List.getElem_cons_succ, List.getElem_cons_zero, List.setIfInBounds_toArray, List.set_cons_zero, List.set_cons_succ])
  refine wpAnyH_take (i := 5) (v := ?_) rfl (by kernel_rfl) (by kernel_rfl) (by kernel_rfl) (fun _ _ _ h => h) (Or.inl ⟨by rfl, ?_⟩) (by assumption) ?_
  case refine_2 => (intro w hSw; (try dsimp only at hSw); go_simp; (try with_reducible rfl))
  (try simp only [Act.put, List.getElem_toArray, List.getElem_cons_succ, List.getElem_cons_zero, List.setIfInBounds_toArray, List.set_cons_zero, List.set_cons_succ])
  refine wpAnyH_take (i := 6) (v := ?_) rfl (by kernel_rfl) (by kernel_rfl) (by kernel_rfl) (fun _ _ _ h => h) (Or.inl ⟨by rfl, ?_⟩) (by assumption) ?_
  case refine_2 => (intro w hSw; (try dsimp only at hSw); go_simp; (try with_reducible rfl))
  (try simp only [Act.put, List.getElem_toArray, List.getElem_cons_succ, List.getElem_cons_zero, List.setIfInBounds_toArray, List.set_cons_zero, List.set_cons_succ])
  refine wpAnyH_take (i := 7) (v := ?_) rfl (by kernel_rfl) (by kernel_rfl) (by kernel_rfl) (fun _ _ _ h => h) (Or.inl ⟨by rfl, ?_⟩) (by assumption) ?_
  case refine_2 => (intro w hSw; (try dsimp only at hSw); go_simp; (try with_reducible rfl))
  (try simp only [Act.put, List.getElem_toArray, List.getElem_cons_succ, List.getElem_cons_zero, List.setIfInBounds_toArray, List.set_cons_zero, List.set_cons_succ])
  refine wpAnyH_take (i := 8) (v := ?_) rfl (by kernel_rfl) (by kernel_rfl) (by kernel_rfl) (fun _ _ _ h => h) (Or.inl ⟨by rfl, ?_⟩) (by assumption) ?_
  case refine_2 => (intro w hSw; (try dsimp only at hSw); go_simp; (try with_reducible rfl))
  (try simp only [Act.put, List.getElem_toArray, List.getElem_cons_succ, List.getElem_cons_zero, List.setIfInBounds_toArray, List.set_cons_zero, List.set_cons_succ])
  refine wpAnyH_ready (rs := [9]) (by kernel_rfl) (by simp) ?_
  refine AllReadyH.cons rfl (fun K hK => ?_) AllReadyH.nil
  go_simp
  refine hK.out _ _ ⟨s5, v5⟩ (fun hHeld => ?_)
  clear hK K
  refine wpAnyH_done (by kernel_rfl) ?_ _
  go_wp2_with fail
  go_ret
  exact ⟨rfl, HN.out⟩

/- A text behind a list of bytes. -/
theorem wpList_append_run2 {P : Program} {w w' : World} {ops : Array Oper} {rest : List Oper} {o : Oper} {a : Act} {Q : Exit → Act → World → Prop} {v' : Value} (hgd : o.guard = none) (s x : Operand) (t u : TypeId)
    (ho : o.op = .call { callee := .builtin .append, args := #[s, x], argTypes := #[t, u] }) (v1 v2 : Value) (hs : a.eval s = v1) (hx : a.eval x = v2) (hr : (Builtin.append_ #[t, u] o.type #[v1, v2]).run P w = .ok v' w')
    (h : wpList P ops Q rest (a.put o.dst v') w') : wpList P ops Q (o :: rest) a w := by
  refine wpList_plain hgd fun K hK => ?_
  unfold Oper.wp execOp
  simp only [ho, resolve, invoke, builtin, Sem.run_bind, Sem.run_pure, Result.andThen_ok, List.map_toArray, List.map_cons, List.map_nil, hs, hx, hr]
  exact hK _ _ h

theorem strCells_nums (d : Nat → Nat) (hd : ∀ i, d i < 256) : Lib.strCells (strOfNums (nums d 64)) = bytesOf d 64 := by
  unfold Lib.strCells bytesOf
  rw [strOfNums_data]
  simp only [nums, List.map_map]
  refine List.map_congr_left fun i hi => ?_
  simp [Function.comp, UInt8.toNat_ofNat', Nat.mod_eq_of_lt (hd i)]

theorem bytes_more (f : Nat → Nat) (k : Nat) : bytesOf f (64 * k) ++ bytesOf (sec f k) 64 = bytesOf f (64 * (k + 1)) := by
  unfold bytesOf sec
  rw [show 64 * (k + 1) = 64 * k + 64 by omega, List.range_add, List.map_append, List.map_map]
  rfl

theorem push_text (w w0 : World) (B : Nat) (V : Value) (k : Nat) (f : Nat → Nat) (hf : ∀ i, f i < 256) (hown : w.ownsRow B 5 1 V (64 * k) (bytesOf f (64 * k))) (hk : k ≤ 4096) (hB : B ≤ w.heap.size) (hb : Below B w0 w) :
    ∃ V' w', (Builtin.append_ #[32, 9] 32 #[V, secS f k]).run Try.prog w = .ok V' w' ∧ w'.ownsRow B 5 1 V' (64 * (k + 1)) (bytesOf f (64 * (k + 1))) ∧ Below B w0 w' := by
  obtain ⟨i0, hi, hz0, hz1, hz2⟩ := info_parts info_byte
  have hs : (strOfNums (nums (sec f k) 64)).size = 64 := by rw [strOfNums_size]; simp [nums]
  obtain ⟨v', w', hr, ho, hg, _⟩ := Lib.run_append_own_string (P := Try.prog) w B 32 9 32 5 i0 Try.underlying32 Try.underlying9 hi hz0 hz1 hz2 V (64 * k) _ hown (strOfNums (nums (sec f k) 64)) (by rw [hs]; unfold maxLen; omega) (by rw [hs]; omega) hB
  rw [hs, strCells_nums (sec f k) (fun i => hf _), bytes_more, show 64 * k + 64 = 64 * (k + 1) by omega] at ho
  exact ⟨v', w', hr, ho, hb.grown hg hB (fun j hj => (hown.lt j hj).1)⟩

set_option maxHeartbeats 2000000 in
theorem rdump_any (r n m : Nat) (G : Nat → Prop) (f A : Nat → Nat) (D : Nat → Nat → Nat) (w : World) (h : Rd w G r n m f A D) (hn1 : 1 ≤ n) :
    Calls Try.prog 15 #[.pointer (some ⟨r, 0, none⟩)] w fun e w' => ∃ s x c, s = 64 * n ∧ e = .returned (.slice x s c) ∧ Below w.heap.size w w' ∧ RowAt w' x s f := by
  obtain ⟨S, P, h⟩ := h
  have hn2 := h.n2
  obtain ⟨x0, c0', hS0, _, _, hrow0⟩ := ownsRow_form2 h.sec_
  subst hS0
  rcases hrow0 with h0 | ⟨g0, rfl, hce0⟩
  · omega
  have hg0 := (h.sec_.lt g0 rfl).2
  have hcell : ∀ v, Below w.heap.size w v → v.cell? ⟨r, 0, none⟩ = some (.slice (some ⟨g0, 0, none⟩) n c0') ∧ ∀ k, k < n → v.cell? ⟨g0, k, none⟩ = some (secS f k) := fun v hv => ⟨(hv.cell (p := ⟨r, 0, none⟩) h.obj.lt).trans h.c0, fun k hk => (hv.cell (p := ⟨g0, k, none⟩) hg0).trans (hce0 k _ (rowOf_get _ n k hk)).1⟩
  have HC := hid hcell
  have HF := hid h.lt
  have hb0 : Below w.heap.size w (w.alloc (.cells #[] 5)) := (Below.refl _ _).alloc (Nat.le_refl _) _
  have H0 := hid (And.intro hb0 (empty_bytes w))
  clear h hce0 hg0 hcell hb0
  go_enter Try.func15, Try.ntmps15
  go_wp2_with fail
  go_loopw [3, 4] (fun V i wr => ∃ k : Nat, k ≤ n ∧ i = .int .i64 k ∧ Hid (Below w.heap.size w wr ∧ wr.ownsRow w.heap.size 5 1 V (64 * k) (bytesOf f (64 * k)))) (fun _ i _ => n - (intOf i).toNat)
  case atStart => exact ⟨0, by omega, rfl, H0.out⟩
  case round =>
    obtain ⟨k, hk, rfl, HR⟩ := hrel
    clear H0
    obtain ⟨hb, ho⟩ := HR.out
    obtain ⟨k0, kc⟩ := HC.out wr hb
    by_cases hlt : k < n
    · have hkn : (k : Int) < (n : Int) := by omega
      have ks := kc k hlt
      obtain ⟨V', w', hap, ho', hb'⟩ := push_text wr w w.heap.size u3 k f HF.out ho (by omega) hb.size hb
      have HN : Hid (Below w.heap.size w w' ∧ w'.ownsRow w.heap.size 5 1 V' (64 * (k + 1)) (bytesOf f (64 * (k + 1)))) := ⟨hb', ho'⟩
      clear hb ho HR kc ho' hb'
      generalize secS f k = Q at *
      go_wp2_with (at_builtin; refine wpList_append_run2 rfl _ _ 32 9 rfl _ _ rfl rfl hap ?_; clear hap)
      go_roundw
      case rel => exact ⟨k + 1, by omega, by go_num, HN⟩
      case measure => simp [intOf]; omega
    · have hk2 : k = n := by omega
      subst hk2
      have hV : u3 ≠ .slice none 0 0 := fun e => by
        subst e
        rcases ho.2 with ⟨_, h2⟩ | ⟨g, c, cur, h2, _⟩
        · omega
        · cases h2
      obtain ⟨g, c, hu, _, _, _, _, hrow⟩ := own_rowAt ho hV
      have HF2 : Hid (Below w.heap.size w wr ∧ RowAt wr (some ⟨g, 0, none⟩) (64 * k) f) := ⟨hb, hrow⟩
      subst hu
      clear hb ho HR kc hrow hV
      go_wp2_with fail
      go_ret
      exact ⟨_, _, _, rfl, rfl, HF2.out⟩

end Go.Proofs.Ytaaeppbkbkfphaa
