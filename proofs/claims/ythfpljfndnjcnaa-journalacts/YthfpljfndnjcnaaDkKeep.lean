/-
  What keep and forget of a disk do, the inner steps of Flush and Crash: contracts over plain numbers ('DkPlain').
  Conditions: the disk is one that New gave ('PDk').
-/
import Derived.Test.YthfpljfndnjcnaaDkPut
namespace Go.Proofs.Ythfpljfndnjcnaa
open Go.RowKit By Dk
set_option linter.unusedVariables false
set_option linter.unusedSimpArgs false

theorem put_over (f d : Nat → Nat) (a s k : Nat) (h : k < s) : over (fun i => Value.int .u8 (f i : Int)) (64 * a) 64 (fun j => .int .u8 (d j : Int)) k = .int .u8 (put f a d k : Int) := by
  unfold over put
  by_cases e : 64 * a ≤ k ∧ k < 64 * a + 64
  · rw [if_pos e, if_pos (by omega), show k - 64 * a = k % 64 by omega]
  · rw [if_neg e, if_neg (by omega)]

set_option maxHeartbeats 1000000 in
theorem keep_any (p gs gn n s m i : Nat) (F : Nat → Prop) (R : Value) (f A : Nat → Nat) (D : Nat → Nat → Nat) (q : Nat → Nat) (w : World) (h : PDk w F p gs gn R n s m f A D q) (hi : i < m) :
    Calls Try.prog 34 #[.pointer (some ⟨p, 0, none⟩), .pointer (some ⟨q i, 0, none⟩)] w fun e w' => e = .returned (.tuple #[]) ∧ Turns F w w' ∧ PDk w' F p gs gn R n s m (put f (A i) (D i)) A D q := by
  have hq := h.wr i hi
  have ha := h.at_ i hi
  have hlen := h.len
  have hd := h.drew
  have hsec : Calls Try.prog 46 #[.pointer (some ⟨p, 0, none⟩), .int .i64 (A i : Int)] w.drew fun e w' => e = .returned (.slice (some ⟨gs, 64 * A i, none⟩) 64 (s - 64 * A i)) ∧ w' = w.drew := sector_any p gs s n (A i) _ rfl w.drew hd.c0 h.len ha h.n2
  obtain ⟨w2, hcp, b2, t2, s2⟩ := copy_blk w.drew gs (64 * A i) (s - 64 * A i) s 64 64 (q i) 1 5 _ (fun j => .int .u8 (D i j : Int)) hd.safe (by omega) (fun j hj => by
    have := (hd.wr i hi).cell (k := 1 + j) (by omega)
    rw [this]
    simp [wrV, Nat.add_comm]) (fun _ => rfl)
  have qgs : q i ≠ gs := hq.ne h.safe (by decide)
  have hat : w.drew.cell? ⟨q i, 0, none⟩ = some (.int .i64 (A i : Int)) := (hd.wr i hi).cell (k := 0) (by omega)
  have hat2 : w2.cell? ⟨q i, 0, none⟩ = some (.int .i64 (A i : Int)) := ((hd.wr i hi).of_heap (t2.block _ (hd.wr i hi).lt qgs)).cell (k := 0) (by omega)
  have T : Turns F w w2 := ⟨t2.os, t2.tape, t2.output, t2.size, fun k hk hF => t2.block k hk (fun e => hF (by rw [e]; exact h.fs))⟩
  have keep : ∀ k, k < w.heap.size → k ≠ gs → w2.heap[k]? = w.heap[k]? := fun k hk hg => t2.block k hk hg
  have HF : Hid (Turns F w w2 ∧ PDk w2 F p gs gn R n s m (put f (A i) (D i)) A D q) := ⟨T,
    ⟨h.obj.of_heap (keep _ h.obj.lt (h.obj.ne h.safe (by decide))), b2.congr fun k hk => put_over f (D i) (A i) s k hk, h.near.of_heap (keep _ h.near.lt (h.near.ne h.safe (by decide))),
      ownsRow_same h.own (fun k hk => keep k (h.own.lt k hk).2 (fun e => ownsRow_ne h.own h.safe (by decide) (by rw [hk, e]))), fun j hj => (h.wr j hj).of_heap (keep _ (h.wr j hj).lt ((h.wr j hj).ne h.safe (by decide))),
      h.at_, h.len, h.rn, h.fp, h.fs, h.fn, h.fq, h.fR, fun k => by unfold put; split; exact h.ltD _ _; exact h.lt k, h.ltD, fun k hk => by rw [s2]; exact h.flt k hk, h.n1, h.n2, h.m2⟩⟩
  have hca : ∀ v, _ := fun v => cut_arr (q i) v
  generalize q i = b at *
  generalize A i = a at *
  generalize 64 * a = o at *
  generalize s - o = c at *
  clear h hq hd b2 t2 s2 T keep qgs hlen ha
  go_enter Try.func34, Try.ntmps34
  go_wp2_with fail
  refine wp_region_held_drew (S := fun v => v.cell? ⟨b, 0, none⟩ = some (.int .i64 (a : Int))) (by kernel_rfl) hat (fun hHeld => ?_)
  refine wpAnyH_take (i := 0) (v := ?_) rfl (by kernel_rfl) (by kernel_rfl) (by kernel_rfl) (fun _ _ _ h => h) (Or.inl ⟨by rfl, ?_⟩) (by assumption) ?_
  case refine_2 => (intro w hSw; (try dsimp only at hSw); go_simp; (try with_reducible rfl))
  (try simp only [Act.put, List.getElem_toArray, List.getElem_cons_succ, List.getElem_cons_zero, List.setIfInBounds_toArray, List.set_cons_zero, List.set_cons_succ])
  refine wpAnyH_take (i := 1) (v := ?_) rfl (by kernel_rfl) (by kernel_rfl) (by kernel_rfl) (fun _ _ _ h => h) (Or.inl ⟨by rfl, ?_⟩) (by assumption) ?_
  case refine_2 => (intro w hSw; (try dsimp only at hSw); go_simp; (try with_reducible rfl))
  (try simp only [Act.put, List.getElem_toArray, List.getElem_cons_succ, List.getElem_cons_zero, List.setIfInBounds_toArray, List.set_cons_zero, List.set_cons_succ])
  refine wpAnyH_take (i := 2) (v := ?_) rfl (by kernel_rfl) (by kernel_rfl) (by kernel_rfl) (fun _ _ _ h => h) (Or.inl ⟨by rfl, ?_⟩) (by assumption) ?_
  case refine_2 => (intro w hSw; (try dsimp only at hSw); go_simp; (try with_reducible rfl))
  (try simp only [Act.put, List.getElem_toArray, List.getElem_cons_succ, List.getElem_cons_zero, List.setIfInBounds_toArray, List.set_cons_zero, List.set_cons_succ])
  refine wpAnyH_take (i := 3) (v := ?_) rfl (by kernel_rfl) (by kernel_rfl) (by kernel_rfl) (fun _ _ _ h => h) (Or.inl ⟨by rfl, ?_⟩) (by assumption) ?_
  case refine_2 => (intro w hSw; (try dsimp only at hSw); go_simp; (try with_reducible rfl))
  (try simp only [Act.put, List.getElem_toArray, List.getElem_cons_succ, List.getElem_cons_zero, List.setIfInBounds_toArray, List.set_cons_zero, List.set_cons_succ])
  refine wpAnyH_take (i := 4) (v := ?_) rfl (by kernel_rfl) (by kernel_rfl) (by kernel_rfl) (fun _ _ _ h => h) (Or.inl ⟨by rfl, ?_⟩) (by assumption) ?_
  case refine_2 => (intro w hSw; (try dsimp only at hSw); go_simp; (try with_reducible rfl))
  (try simp only [Act.put, List.getElem_toArray, List.getElem_cons_succ, List.getElem_cons_zero, List.setIfInBounds_toArray, List.set_cons_zero, List.set_cons_succ])
  refine wpAnyH_take (i := 6) (v := ?_) rfl (by kernel_rfl) (by kernel_rfl) (by kernel_rfl) (fun _ _ _ h => h) (Or.inl ⟨by rfl, ?_⟩) (by assumption) ?_
  case refine_2 => (intro w hSw; (try dsimp only at hSw); go_simp; (try with_reducible rfl))
  (try simp only [Act.put, List.getElem_toArray, List.getElem_cons_succ, List.getElem_cons_zero, List.setIfInBounds_toArray, List.set_cons_zero, List.set_cons_succ])
  refine wpAnyH_take (i := 7) (v := ?_) rfl (by kernel_rfl) (by kernel_rfl) (by kernel_rfl) (fun _ _ _ h => h) (Or.inl ⟨by rfl, ?_⟩) (by assumption) ?_
  case refine_2 => (intro w hSw; (try dsimp only at hSw); go_simp; (try with_reducible rfl))
  (try simp only [Act.put, List.getElem_toArray, List.getElem_cons_succ, List.getElem_cons_zero, List.setIfInBounds_toArray, List.set_cons_zero, List.set_cons_succ])
  refine wpAnyH_take (i := 8) (v := ?_) rfl (by kernel_rfl) (by kernel_rfl) (by kernel_rfl) (fun _ _ _ h => h) (Or.inl ⟨by rfl, ?_⟩) (by assumption) ?_
  case refine_2 => (intro w hSw; (try dsimp only at hSw); go_simp; (try with_reducible rfl))
  (try simp only [Act.put, List.getElem_toArray, List.getElem_cons_succ, List.getElem_cons_zero, List.setIfInBounds_toArray, List.set_cons_zero, List.set_cons_succ])
  refine wpAnyH_take (i := 9) (v := ?_) rfl (by kernel_rfl) (by kernel_rfl) (by kernel_rfl) (fun _ _ _ h => h) (Or.inl ⟨by rfl, ?_⟩) (by assumption) ?_
  case refine_2 => (intro w hSw; (try dsimp only at hSw); go_simp; (try with_reducible rfl))
  (try simp only [Act.put, List.getElem_toArray, List.getElem_cons_succ, List.getElem_cons_zero, List.setIfInBounds_toArray, List.set_cons_zero, List.set_cons_succ])
  refine wpAnyH_ready (rs := [5]) (by kernel_rfl) (by simp) ?_
  refine AllReadyH.cons rfl (fun K hK => ?_) AllReadyH.nil
  go_simp
  refine hsec.mono ?_
  rintro e v ⟨rfl, rfl⟩
  refine hK.out _ _ hat (fun hHeld => ?_)
  clear hK K
  refine wpAnyH_ready (rs := [10]) (by kernel_rfl) (by simp) ?_
  refine AllReadyH.cons rfl (fun K hK => ?_) AllReadyH.nil
  go_simp
  refine hK.out _ _ hat2 (fun hHeld => ?_)
  clear hK K
  refine wpAnyH_done (by kernel_rfl) ?_ _
  go_wp2_with fail
  refine bodyPost_end (results_none rfl _ _ _) rfl ?_
  exact ⟨rfl, HF.out⟩

def goneV (q A : Nat → Nat) (m k : Nat) : Nat → Value := fun j => if last A j k ≠ 0 then .pointer none else nearV q A m j

theorem gone_step (q A : Nat → Nat) (m k j : Nat) : upd (goneV q A m k) (A k) (.pointer none) j = goneV q A m (k + 1) j := by
  unfold upd goneV
  rw [last]
  by_cases e : j = A k
  · subst e; simp
  · rw [if_neg e, if_neg (fun h : A k = j => e h.symm)]

theorem gone_all (q A : Nat → Nat) (m j : Nat) : goneV q A m m j = .pointer none := by
  unfold goneV nearV
  by_cases e : last A j m = 0
  · simp [e]
  · simp [e]

theorem pd_forget {w wr : World} {F : Nat → Prop} {p gs gn : Nat} {R : Value} {n s m : Nat} {f A : Nat → Nat} {D : Nat → Nat → Nat} {q : Nat → Nat} (h : PDk w F p gs gn R n s m f A D q) (T : Turns (fun k => k = gn) w wr) (hb : Blk wr gn 64 n (goneV q A m m)) :
    Turns F w (wr.setCell ⟨p, 1, none⟩ (.slice none 0 0)) ∧ Pd (wr.setCell ⟨p, 1, none⟩ (.slice none 0 0)) F p n 0 f A D := by
  have pgn : p ≠ gn := h.obj.ne h.near (by decide)
  have T' : Turns F w wr := T.weak (fun k hk => by rw [hk]; exact h.fn)
  have T2 := T'.setCell (p := ⟨p, 1, none⟩) (.inl h.fp) (.slice none 0 0)
  refine ⟨T2, gs, gn, .slice none 0 0, s, q, ⟨((h.obj.of_heap (T.block _ h.obj.lt pgn)).set 1 (.slice none 0 0)).congr fun k hk => ?_, ?_, ?_, ⟨rfl, .inl ⟨rfl, rfl⟩⟩, fun i hi => by omega, fun i hi => by omega, h.len, by simp [Value.ownBlock], h.fp, h.fs, h.fn, fun i hi => by omega, fun g hg => by simp [Value.ownBlock] at hg, h.lt, h.ltD, fun k hk => Nat.lt_of_lt_of_le (h.flt k hk) T2.size, h.n1, h.n2, by omega⟩⟩
  · unfold upd obj3
    by_cases e : k = 1
    · simp [e]
    · simp [e]
  · exact (h.safe.of_heap (T.block _ h.safe.lt (h.safe.ne h.near (by decide)))).of_heap (Below.heap_setCell _ _ _ _ (h.safe.ne h.obj (by decide)))
  · exact (hb.of_heap (Below.heap_setCell _ _ _ _ (Ne.symm pgn))).congr fun k hk => gone_all q A m k

set_option maxHeartbeats 1000000 in
theorem forget_any (p n m : Nat) (F : Nat → Prop) (f A : Nat → Nat) (D : Nat → Nat → Nat) (w : World) (h : Pd w F p n m f A D) :
    Calls Try.prog 35 #[.pointer (some ⟨p, 0, none⟩)] w fun e w' => e = .returned (.tuple #[]) ∧ Turns F w w' ∧ Pd w' F p n 0 f A D := by
  obtain ⟨gs, gn, R, s, q, h⟩ := h
  obtain ⟨x, c, hR, hle, hnil, hrow⟩ := ownsRow_form h.own
  subst hR
  have k1 := h.c1
  have hm2 := h.m2
  have pgn : p ≠ gn := h.obj.ne h.near (by decide)
  have H := hid h
  clear h
  go_enter Try.func35, Try.ntmps35
  go_wp2_with fail
  go_loopw [9] (fun i wr => ∃ k : Nat, k ≤ m ∧ i = .int .i64 k ∧ Hid (Turns (fun j => j = gn) w wr ∧ Blk wr gn 64 n (goneV q A m k))) (fun i _ => m - (intOf i).toNat)
  case atStart => exact ⟨0, by omega, rfl, Turns.refl _ _, H.out.near.congr fun j hj => by simp [goneV, last]⟩
  case round =>
    obtain ⟨k, hk, rfl, HR⟩ := hrel
    clear k1
    obtain ⟨T, hb⟩ := HR.out
    by_cases hlt : k < m
    · have hkm : (k : Int) < (m : Int) := by omega
      rcases hrow with h0 | ⟨g, rfl, hcells⟩
      · omega
      have hc := hcells k _ (rowOf_get _ m k hlt)
      have hgR : g < w.heap.size ∧ g ≠ gn := ⟨(H.out.own.lt g rfl).2, fun e => H.out.rn (by rw [← e]; rfl)⟩
      have c1 : wr.cell? ⟨g, 0 + k, none⟩ = some (.pointer (some ⟨q k, 0, none⟩)) := (World.cell?_of_block (a := ⟨g, 0 + k, none⟩) (T.block g hgR.1 hgR.2)).trans hc
      rw [Nat.zero_add] at c1
      have bq := (T.blk (H.out.wr k hlt) ((H.out.wr k hlt).ne H.out.near (by decide)))
      have bo := T.blk H.out.obj pgn
      have ha := H.out.at_ k hlt
      have c2 : wr.cell? ⟨p, 2, none⟩ = some (.slice (some ⟨gn, 0, none⟩) n n) := bo.cell (k := 2) (by omega)
      have c3 : wr.cell? ⟨q k, 0, none⟩ = some (.int .i64 (A k : Int)) := bq.cell (k := 0) (by omega)
      have c4 := hb.cell ha
      have f4 := hb.frozen (A k)
      have hb2 := hb.set (A k) (.pointer none)
      have d2 : (wr.setCell ⟨gn, A k, none⟩ (.pointer none)).cell? ⟨p, 2, none⟩ = some (.slice (some ⟨gn, 0, none⟩) n n) := (World.cell?_of_block (a := ⟨p, 2, none⟩) (Below.heap_setCell _ _ _ _ pgn)).trans c2
      have d3 : (wr.setCell ⟨gn, A k, none⟩ (.pointer none)).cell? ⟨q k, 0, none⟩ = some (.int .i64 (A k : Int)) := (World.cell?_of_block (a := ⟨q k, 0, none⟩) (Below.heap_setCell _ _ _ _ (bq.ne hb (by decide)))).trans c3
      have HN : Hid (Turns (fun j => j = gn) w (wr.drew.setCell ⟨gn, A k, none⟩ (.pointer none)) ∧ Blk (wr.drew.setCell ⟨gn, A k, none⟩ (.pointer none)) gn 64 n (goneV q A m (k + 1))) :=
        ⟨T.drew.setCell (p := ⟨gn, A k, none⟩) (.inl rfl) _, (Blk.set (w := wr.drew) hb (A k) (.pointer none)).congr fun j hj => gone_step q A m k j⟩
      clear T hb HR hcells hc bq bo hb2
      generalize goneV q A m k (A k) = V at *
      generalize A k = a at *
      generalize q k = b at *
      go_wp2_with fail
      refine wp_region_held_drew (S := fun v => v.cell? ⟨p, 2, none⟩ = some (.slice (some ⟨gn, 0, none⟩) n n) ∧ v.cell? ⟨b, 0, none⟩ = some (.int .i64 (a : Int))) (by kernel_rfl) ⟨c2, c3⟩ (fun hHeld => ?_)
      refine wpAnyH_take (i := 0) (v := ?_) rfl (by kernel_rfl) (by kernel_rfl) (by kernel_rfl) (fun _ _ _ h => h) (Or.inl ⟨by rfl, ?_⟩) (by assumption) ?_
      case refine_2 => (intro w hSw; (try dsimp only at hSw); go_simp; (try with_reducible rfl))
      (try simp only [Act.put, List.getElem_toArray, List.getElem_cons_succ, List.getElem_cons_zero, List.setIfInBounds_toArray, List.set_cons_zero, List.set_cons_succ])
      refine wpAnyH_take (i := 1) (v := ?_) rfl (by kernel_rfl) (by kernel_rfl) (by kernel_rfl) (fun _ _ _ h => h) (Or.inl ⟨by rfl, ?_⟩) (by assumption) ?_
      case refine_2 => (intro w hSw; (try dsimp only at hSw); go_simp; (try with_reducible rfl))
      (try simp only [Act.put, List.getElem_toArray, List.getElem_cons_succ, List.getElem_cons_zero, List.setIfInBounds_toArray, List.set_cons_zero, List.set_cons_succ])
      refine wpAnyH_take (i := 2) (v := ?_) rfl (by kernel_rfl) (by kernel_rfl) (by kernel_rfl) (fun _ _ _ h => h) (Or.inl ⟨by rfl, ?_⟩) (by assumption) ?_
      case refine_2 => (intro w hSw; (try dsimp only at hSw); go_simp; (try with_reducible rfl))
      (try simp only [Act.put, List.getElem_toArray, List.getElem_cons_succ, List.getElem_cons_zero, List.setIfInBounds_toArray, List.set_cons_zero, List.set_cons_succ])
      refine wpAnyH_take (i := 3) (v := ?_) rfl (by kernel_rfl) (by kernel_rfl) (by kernel_rfl) (fun _ _ _ h => h) (Or.inl ⟨by rfl, ?_⟩) (by assumption) ?_
      case refine_2 => (intro w hSw; (try dsimp only at hSw); go_simp; (try with_reducible rfl))
      (try simp only [Act.put, List.getElem_toArray, List.getElem_cons_succ, List.getElem_cons_zero, List.setIfInBounds_toArray, List.set_cons_zero, List.set_cons_succ])
      refine wpAnyH_take (i := 4) (v := ?_) rfl (by kernel_rfl) (by kernel_rfl) (by kernel_rfl) (fun _ _ _ h => h) (Or.inl ⟨by rfl, ?_⟩) (by assumption) ?_
      case refine_2 => (intro w hSw; (try dsimp only at hSw); go_simp; (try with_reducible rfl))
      (try simp only [Act.put, List.getElem_toArray, List.getElem_cons_succ, List.getElem_cons_zero, List.setIfInBounds_toArray, List.set_cons_zero, List.set_cons_succ])
      refine wpAnyH_take (i := 5) (v := ?_) rfl (by kernel_rfl) (by kernel_rfl) (by kernel_rfl) (fun _ _ _ h => h) (Or.inl ⟨by rfl, ?_⟩) (by assumption) ?_
      case refine_2 => (intro w hSw; (try dsimp only at hSw); go_simp; (try with_reducible rfl))
      (try simp only [Act.put, List.getElem_toArray, List.getElem_cons_succ, List.getElem_cons_zero, List.setIfInBounds_toArray, List.set_cons_zero, List.set_cons_succ])
      refine wpAnyH_take (i := 6) (v := ?_) rfl (by kernel_rfl) (by kernel_rfl) (by kernel_rfl) (fun _ _ _ h => h) (Or.inl ⟨by rfl, ?_⟩) (by assumption) ?_
      case refine_2 => (intro w hSw; (try dsimp only at hSw); go_simp; (try with_reducible rfl))
      (try simp only [Act.put, List.getElem_toArray, List.getElem_cons_succ, List.getElem_cons_zero, List.setIfInBounds_toArray, List.set_cons_zero, List.set_cons_succ])
      refine wpAnyH_take (i := 7) (v := ?_) rfl (by kernel_rfl) (by kernel_rfl) (by kernel_rfl) (fun _ _ _ h => h) (Or.inl ⟨by rfl, ?_⟩) (by assumption) ?_
      case refine_2 => (intro w hSw; (try dsimp only at hSw); go_simp; (try with_reducible rfl))
      (try simp only [Act.put, List.getElem_toArray, List.getElem_cons_succ, List.getElem_cons_zero, List.setIfInBounds_toArray, List.set_cons_zero, List.set_cons_succ])
      refine wpAnyH_take (i := 8) (v := ?_) rfl (by kernel_rfl) (by kernel_rfl) (by kernel_rfl) (fun _ _ _ h => h) (Or.inl ⟨by rfl, ?_⟩) (by assumption) ?_
      case refine_2 => (intro w hSw; (try dsimp only at hSw); go_simp; (try with_reducible rfl))
      (try simp only [Act.put, List.getElem_toArray, List.getElem_cons_succ, List.getElem_cons_zero, List.setIfInBounds_toArray, List.set_cons_zero, List.set_cons_succ])
      refine wpAnyH_ready (rs := [9]) (by kernel_rfl) (by simp) ?_
      refine AllReadyH.cons rfl (fun K hK => ?_) AllReadyH.nil
      go_simp
      refine hK.out _ _ ⟨d2, d3⟩ (fun hHeld => ?_)
      clear hK K
      refine wpAnyH_done (by kernel_rfl) ?_ _
      go_wp2_with fail
      go_roundw
      case rel => exact ⟨k + 1, by omega, by go_num, HN⟩
      case measure => simp [intOf]; omega
    · have hk2 : k = m := by omega
      subst hk2
      have bo := T.blk H.out.obj pgn
      have c5 := bo.cell (k := 1) (by omega)
      have f5 := bo.frozen 1
      have HF := hid (pd_forget H.out T hb)
      clear T hb HR bo
      generalize obj3 (.slice (some ⟨gs, 0, none⟩) s s) (.slice x k c) (.slice (some ⟨gn, 0, none⟩) n n) 1 = V at *
      go_wp2_with fail
      refine bodyPost_end (results_none rfl _ _ _) rfl ?_
      exact ⟨rfl, HF.out⟩

end Go.Proofs.Ythfpljfndnjcnaa
